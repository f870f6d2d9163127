/-
  Walks along two outlines: the table of the least sums from each pair on; the program's functions.
-/
import Derived.Test.YtfmcjbddbomohaaRd
namespace Go.Proofs.Ytfmcjbddbomohaa
open Go.RowKit Go.Deep

theorem join_add (w : World) (a b : Int) (ha : 0 ≤ a ∧ a ≤ 8000000) (hb : 0 ≤ b ∧ b ≤ 16000000000) : Calls Try.prog 75 #[.int .i64 a, .int .i64 b] w fun e w' => e = .returned (.int .i64 (a + b)) ∧ w' = w := by
  have s1 : IntKind.i64.wrap (a + b) = a + b := IntWalk.i64_in _ (by omega)
  go_enter Try.func75, Try.ntmps75
  go_wp2
  go_ret
  exact ⟨rfl, rfl⟩
set_option maxRecDepth 100000 in
set_option maxHeartbeats 4000000 in
theorem leastS_any (w : World) (m n ba bb : Nat) (F : Nat → Nat → Int) (R : Nat → Nat → Int) (hRR : R = rst addI F m n)
    (hFar : ∀ (W : World), Kept w W → ∀ i j : Nat, i < m → j < n → Calls Try.prog 71 #[.agg #[.int .i64 i, .int .i64 j], .pointer (some ⟨ba, 0, none⟩), .pointer (some ⟨bb, 0, none⟩)] W fun e w' => e = .returned (.int .i64 (F i j)) ∧ Kept W w')
    (hFb : ∀ i j, i < m → j < n → 0 ≤ F i j ∧ F i j ≤ 8000000) (hRb : ∀ i j, i < m → j < n → 0 ≤ R i j ∧ R i j ≤ 16000000000) (hm : 1 ≤ m) (hn : 1 ≤ n) (hm2 : m ≤ 1000) (hn2 : n ≤ 1000) :
    Calls Try.prog 72 #[WalksV m n (FarV ba bb), .func (.func 75) #[] #[]] w (LeastPost w m n R) := by
  have HFAR := Lib.hid hFar
  have HFB := Lib.hid hFb
  have HRB := Lib.hid hRb
  have HRR := Lib.hid hRR
  have hmk := fun W => mkInts (n : Int) n rfl (by omega) W
  have hmt := fun W => mkTop (m : Int) m rfl (by omega) W
  clear hFar hFb hRb hRR
  unfold WalksV FarV
  go_enter Try.func72, Try.ntmps72
  have hG0 : (w.alloc (.cells #[.int .i64 m, .int .i64 n, .func (.func 71) #[] #[.pointer (some ⟨ba, 0, none⟩), .pointer (some ⟨bb, 0, none⟩)]] 89)).rowIs w.heap.size 89 3 (fun t => if t = 0 then .int .i64 m else if t = 1 then .int .i64 n else FarV ba bb) := World.rowIs_alloc w _ _ _ (fun t ht => by
    have : t = 0 ∨ t = 1 ∨ t = 2 := by simp at ht; omega
    rcases this with rfl | rfl | rfl <;> rfl)
  have hT0 := World.rowIs_made (w.alloc (.cells #[.int .i64 m, .int .i64 n, .func (.func 71) #[] #[.pointer (some ⟨ba, 0, none⟩), .pointer (some ⟨bb, 0, none⟩)]] 89)) (.slice none 0 0) m 27
  rw [nblk_alloc] at hT0
  have hK0 : Kept w ((w.alloc (.cells #[.int .i64 m, .int .i64 n, .func (.func 71) #[] #[.pointer (some ⟨ba, 0, none⟩), .pointer (some ⟨bb, 0, none⟩)]] 89)).alloc (.cells (madeCells #[.slice none 0 0] m) 27)) := ((Kept.refl w).alloc _).alloc _
  have hG1 := hG0.alloc (.cells (madeCells #[.slice none 0 0] m) 27)
  clear hG0
  go_wp2_with fail
  generalize (w.alloc (.cells #[.int .i64 m, .int .i64 n, .func (.func 71) #[] #[.pointer (some ⟨ba, 0, none⟩), .pointer (some ⟨bb, 0, none⟩)]] 89)).alloc (.cells (madeCells #[.slice none 0 0] m) 27) = W0 at *
  obtain ⟨g, HG⟩ : ∃ g, Hid (g = w.heap.size) := ⟨_, rfl⟩
  obtain ⟨lb, HLB⟩ : ∃ lb, Hid (lb = w.heap.size + 1) := ⟨_, rfl⟩
  rw [← HLB.out] at hT0 ⊢
  rw [← HG.out] at hG1 ⊢
  have hlb : w.heap.size ≤ lb := by rw [HLB.out]; omega
  have hgl : g ≠ lb := by rw [HLB.out, HG.out]; omega
  clear HLB HG hmt
  have hTab : Tab w.heap.size W0 m n lb (fun _ => 0) R m := ⟨hT0.congr (fun k hk => by rw [if_neg (by omega)]), fun k h1 h2 => by omega, hlb, fun k h1 h2 => by omega, fun k h1 h2 => by omega⟩
  clear hT0
  go_loopg [6] m (fun gg s6 wr => ∃ (r : Nat) (br : Nat → Nat), r ≤ m ∧ gg = r ∧ s6 = .int .i64 ((r : Int) - 1) ∧ Kept w wr ∧ wr.rowIs g 89 3 (fun t => if t = 0 then .int .i64 m else if t = 1 then .int .i64 n else FarV ba bb) ∧ Tab w.heap.size wr m n lb br R r ∧ Hid (∀ k, r ≤ k → k < m → br k ≠ g))
  case atStart => exact ⟨m, _, Nat.le_refl _, rfl, rfl, hK0, hG1, hTab, fun k h1 h2 => by omega⟩
  case round =>
    obtain ⟨r, br, hr, hgk, hs, hK, hGr, hTr, hBG⟩ := hrel
    obtain rfl : r = gk := hgk.symm
    clear hgk
    clear hK0 hG1 hTab
    cases r with
    | zero =>
      have hs' : u6 = Value.int .i64 (-1) := hs
      subst hs'
      clear hs
      go_wp2_with fail
      go_ret
      exact ⟨lb, br, rfl, hK, hTr⟩
    | succ i =>
      have hs' : u6 = Value.int .i64 (i : Int) := by rw [hs]; congr 1; omega
      subst hs'
      clear hs
      have e0 := hGr.cell (i := 1) (by omega)
      have e0' := (hGr.alloc (.cells (madeCells #[.int .i64 0] n) 3)).cell (i := 1) (by omega)
      simp only [Nat.one_ne_zero, if_true, if_false] at e0 e0'
      have e1 := (hTr.top.alloc (.cells (madeCells #[.int .i64 0] n) 3)).cell (show i < m by omega)
      rw [if_neg (by omega)] at e1
      have e2 := (hTr.top.alloc (.cells (madeCells #[.int .i64 0] n) 3)).frozen i
      have s1 : (0 : Int) ≤ (i : Int) := by omega
      have s2 : (i : Int) < (m : Int) := by omega
      have hNew := hTr.newRow (Kept.size hK)
      have hKn : Kept w ((wr.alloc (.cells (madeCells #[.int .i64 0] n) 3)).setCell ⟨lb, i, none⟩ (.slice (some ⟨wr.heap.size, 0, none⟩) n n)) := (hK.alloc _).setCell (p := ⟨lb, i, none⟩) hlb _
      have hGn := (hGr.alloc (.cells (madeCells #[.int .i64 0] n) 3)).setOther (a := ⟨lb, i, none⟩) hgl (.slice (some ⟨wr.heap.size, 0, none⟩) n n)
      have hBn : Hid (∀ k, i ≤ k → k < m → (if k = i then wr.heap.size else br k) ≠ g) := fun k h1 h2 => by
        have := hGr.lt
        by_cases e : k = i
        · rw [if_pos e]; omega
        · rw [if_neg e]; exact hBG.out k (by omega) h2
      clear hTr hBG hGr hK
      have f1 := hGn.cell (i := 1) (by omega)
      simp only [Nat.one_ne_zero, if_true, if_false] at f1
      go_wp2_with fail
      clear e0 e0' e1 e2 f1
      obtain ⟨br', HBR⟩ : ∃ br' : Nat → Nat, Hid (br' = fun k => if k = i then wr.heap.size else br k) := ⟨_, rfl⟩
      rw [← HBR.out] at hNew
      have hBn' : Hid (∀ k, i ≤ k → k < m → br' k ≠ g) := by rw [HBR.out]; exact hBn.out
      clear hBn HBR
      generalize (wr.alloc (.cells (madeCells #[.int .i64 0] n) 3)).setCell ⟨lb, i, none⟩ (.slice (some ⟨wr.heap.size, 0, none⟩) n n) = W1 at *
      go_loopg [7] n (fun gg s7 wi => ∃ c : Nat, c ≤ n ∧ gg = c ∧ s7 = .int .i64 ((c : Int) - 1) ∧ Kept w wi ∧ wi.rowIs g 89 3 (fun t => if t = 0 then .int .i64 m else if t = 1 then .int .i64 n else FarV ba bb) ∧ TabC w.heap.size wi m n lb br' R i c)
      case atStart => exact ⟨n, Nat.le_refl _, rfl, rfl, hKn, hGn, hNew⟩
      case round =>
        obtain ⟨c, hc, hgk, hs, hK, hGr, hT⟩ := hrel
        obtain rfl : c = gk := hgk.symm
        clear hgk hKn hGn hNew
        cases c with
        | zero =>
          have hs' : u7 = Value.int .i64 (-1) := hs
          subst hs'
          clear hs
          have s3 : IntKind.i64.wrap ((i : Int) - 1) = (i : Int) - 1 := IntWalk.i64_in _ (by omega)
          go_wp2_with fail
          go_roundg i
          case measure => omega
          case rel => exact ⟨i, br', by omega, rfl, rfl, hK, hGr, hT.done, hBn'⟩
        | succ j =>
          have hs' : u7 = Value.int .i64 (j : Int) := by rw [hs]; congr 1; omega
          subst hs'
          clear hs
          have s3 : (0 : Int) ≤ (j : Int) := by omega
          have s4 : (j : Int) < (n : Int) := by omega
          go_wp2_with fail
          have hkA := (Kept.refl wr).alloc (.cells #[.int .i64 i, .int .i64 j] 98)
          obtain ⟨q0, q1⟩ := box2 wr (.int .i64 i) (.int .i64 j) 98
          have hKW := hK.trans hkA
          have hTW := hT.kept hkA
          have hGW := hkA.row hGr
          have hgw := hGr.lt
          have habr : ∀ k, i ≤ k → k < m → br' k ≠ wr.heap.size := fun k h1 h2 => by
            by_cases e : k = i
            · subst e; obtain ⟨z, hz⟩ := hT.cur; have := hz.lt; omega
            · have := (hT.row k (by omega) h2).lt; omega
          have habl : lb ≠ wr.heap.size := by have := hT.top.lt; omega
          obtain ⟨ab, HAB⟩ : ∃ ab, Hid (ab = wr.heap.size) := ⟨_, rfl⟩
          rw [← HAB.out] at q0 q1 habr habl hgw ⊢
          clear hK hT hGr hkA
          generalize wr.alloc (.cells #[.int .i64 i, .int .i64 j] 98) = W at *
          have t1 := hTW.topAt (Nat.le_refl i) (by omega)
          have f2 := hGW.cell (i := 2) (by omega)
          rw [if_neg (by omega), if_neg (by omega)] at f2
          unfold FarV at f2
          have hbg := hBn'.out i (Nat.le_refl _) (by omega)
          have hbl := hTW.ne i (Nat.le_refl _) (by omega)
          have hba := habr i (Nat.le_refl _) (by omega)
          have HKP := Lib.hid (fun (W' : World) (hk : Kept W W') (v : Value) => kp4s (p := ⟨br' i, j, none⟩) (v := v) t1 f2 q0 q1 hbl hbg hba hba hk)
          obtain ⟨⟨v0, c0⟩, z0⟩ := hTW.can (show j < n by omega)
          obtain ⟨d, HD⟩ : ∃ d, Hid (d = F i j) := ⟨_, rfl⟩
          go_region_held3 (fun w' => w'.cell? ⟨lb, i, none⟩ = some (.slice (some ⟨br' i, 0, none⟩) n n) ∧ w'.cell? ⟨g, 2, none⟩ = some (.func (.func 71) #[] #[.pointer (some ⟨ba, 0, none⟩), .pointer (some ⟨bb, 0, none⟩)]) ∧ w'.cell? ⟨ab, 0, none⟩ = some (.int .i64 i) ∧ w'.cell? ⟨ab, 1, none⟩ = some (.int .i64 j))
            (first | exact HKP.out _ hKc _ | exact kp4 t1 f2 q0 q1 (by repeat (first | assumption | exact Kept.refl _ | apply Kept.drew | apply Kept.drewN | apply Kept.alloc | refine Kept.trans ?_ (by assumption))))
            (first | (go_at_call 71; refine (HFAR.out _ (hKW.trans (by repeat (first | assumption | exact Kept.refl _ | apply Kept.drew | apply Kept.drewN | apply Kept.alloc | refine Kept.trans ?_ (by assumption)))) i j (by omega) (by omega)).mono ?_; rw [← HD.out]; rintro e w2 ⟨rfl, hk2⟩; have hKc : Kept W w2 := (by repeat (first | assumption | exact Kept.refl _ | apply Kept.drew | apply Kept.drewN | apply Kept.alloc | refine Kept.trans ?_ (by assumption))); have c0' := hKc.cellSome c0; have z0' := (hTW.kept hKc).can (show j < n by omega)))
          have hT2 := (hTW.kept hKc).pre (show i < m by omega) d
          have hK2 : Kept w (w2.setCell ⟨br' i, j, none⟩ (.int .i64 d)) := (hKW.trans hKc).setCell (p := ⟨br' i, j, none⟩) (hTW.br0 i (Nat.le_refl _) (by omega)) _
          have hG2 := (hKc.row hGW).setOther (a := ⟨br' i, j, none⟩) hbg.symm (.int .i64 d)
          obtain ⟨k1, k2, k3, k4⟩ := HKP.out _ hKc (.int .i64 d)
          have dd0 : (w2.setCell ⟨br' i, j, none⟩ (.int .i64 d)).cell? ⟨br' i, j, none⟩ = some (.int .i64 d) := World.cell?_setCell_same' _ _ _ (by rw [c0']; rfl)
          clear t1 f2 q0 q1 c0 z0 c0' z0' HKP hTW hKW hGW hk2
          go_wp2_with fail
          have hab2 : ab < (w2.setCell ⟨br' i, j, none⟩ (.int .i64 d)).heap.size := World.block_lt_of_cell? _ _ k3
          generalize w2.setCell ⟨br' i, j, none⟩ (.int .i64 d) = W3 at *
          have g0 := hG2.cell (i := 0) (by omega)
          have g1 := hG2.cell (i := 1) (by omega)
          rw [if_pos rfl] at g0
          rw [if_neg (by omega), if_pos rfl] at g1
          have hd : d = F i j := HD.out
          have hdb := HFB.out i j (by omega) (by omega)
          rw [← hd] at hdb
          have heq := rst_eq (jn := addI) (F := fun i j => F i j) (m := m) (n := n) (i := i) (j := j) (by omega) (by omega)
          rw [← HRR.out] at heq
          by_cases hlast : i + 1 = m ∧ j + 1 = n
          · have hR : d = R i j := by rw [heq, if_pos hlast]; exact hd
            have hT3 := hT2
            have HRV := Lib.hid hR
            have hne := neq_no i j
            have p1 : i = m - 1 := by omega
            have p2 : j = n - 1 := by omega
            have HP1 := Lib.hid p1
            have HP2 := Lib.hid p2
            clear heq hd hR p1 p2
            go_region_held3 (fun w' => w'.cell? ⟨ab, 0, none⟩ = some (.int .i64 i) ∧ w'.cell? ⟨ab, 1, none⟩ = some (.int .i64 j) ∧ w'.cell? ⟨g, 0, none⟩ = some (.int .i64 m) ∧ w'.cell? ⟨g, 1, none⟩ = some (.int .i64 n) ∧ w'.cell? ⟨g, 2, none⟩ = some (.func (.func 71) #[] #[.pointer (some ⟨ba, 0, none⟩), .pointer (some ⟨bb, 0, none⟩)]))
              (exact kp5 k3 k4 g0 g1 k2 (by repeat (first | assumption | exact Kept.refl _ | apply Kept.drew | apply Kept.drewN | apply Kept.alloc | refine Kept.trans ?_ (by assumption))))
              (first | (go_at_call 76; refine (last_at _ m n i j _ HP1.out HP2.out hm hn (by omega) (by omega)).mono ?_; rintro e w4 ⟨rfl, hk4⟩))
            all_goals
              have hK4 : Kept W3 w4 := (by repeat (first | assumption | exact Kept.refl _ | apply Kept.drew | apply Kept.drewN | apply Kept.alloc | refine Kept.trans ?_ (by assumption)))
              have hT4 := (hT2.kept hK4).close (show j < n by omega) (hK4.cellSome (by rw [← HRV.out]; exact dd0))
              have hG4 := hK4.row hG2
              have s5 : IntKind.i64.wrap ((j : Int) - 1) = (j : Int) - 1 := IntWalk.i64_in _ (by omega)
              clear k1 k2 k3 k4 g0 g1 dd0 hdb
              go_wp2_with fail
              go_roundg j
              case measure => omega
              case rel => exact ⟨j, by omega, rfl, rfl, hK2.trans hK4, hG4, hT4⟩
          · have hne := neq_yes i j (m - 1) (n - 1) (by omega)
            obtain ⟨p1, hp1⟩ : ∃ p1, p1 = m - 1 := ⟨_, rfl⟩
            obtain ⟨p2, hp2⟩ : ∃ p2, p2 = n - 1 := ⟨_, rfl⟩
            rw [← hp1, ← hp2] at hne
            have HP1 := Lib.hid hp1
            have HP2 := Lib.hid hp2
            have hR : R i j = addI d (best3 m n R i j) := by rw [heq, if_neg hlast, hd]
            have HRV := Lib.hid hR
            have HLA := Lib.hid hlast
            clear heq hd hR hp1 hp2
            go_region_held3 (fun w' => w'.cell? ⟨ab, 0, none⟩ = some (.int .i64 i) ∧ w'.cell? ⟨ab, 1, none⟩ = some (.int .i64 j) ∧ w'.cell? ⟨g, 0, none⟩ = some (.int .i64 m) ∧ w'.cell? ⟨g, 1, none⟩ = some (.int .i64 n) ∧ w'.cell? ⟨g, 2, none⟩ = some (.func (.func 71) #[] #[.pointer (some ⟨ba, 0, none⟩), .pointer (some ⟨bb, 0, none⟩)]))
              (exact kp5 k3 k4 g0 g1 k2 (by repeat (first | assumption | exact Kept.refl _ | apply Kept.drew | apply Kept.drewN | apply Kept.alloc | refine Kept.trans ?_ (by assumption))))
              (first | (go_at_call 76; refine (last_at _ m n p1 p2 _ HP1.out HP2.out hm hn (by omega) (by omega)).mono ?_; rintro e w4 ⟨rfl, hk4⟩))
            all_goals
              have hK4 : Kept W3 w4 := (by repeat (first | assumption | exact Kept.refl _ | apply Kept.drew | apply Kept.drewN | apply Kept.alloc | refine Kept.trans ?_ (by assumption)))
              have hT4 := hT2.kept hK4
              have hG4 := hK4.row hG2
              have hKw4 := hK2.trans hK4
              have kk1 := hK4.cellSome k1
              have kk2 := hK4.cellSome k2
              have kk3 := hK4.cellSome k3
              have kk4 := hK4.cellSome k4
              have gg0 := hK4.cellSome g0
              have gg1 := hK4.cellSome g1
              have dd1 := hK4.cellSome dd0
              have hab4 : ab < w4.heap.size := World.block_lt_of_cell? _ _ kk3
              clear k1 k2 k3 k4 g0 g1 dd0 hT2 hG2 hK2 hK4 hk4 hne hab2
              go_wp2_with fail
              obtain ⟨px, py, hpp⟩ : ∃ px py, nxt m n R i j = (px, py) := ⟨_, _, rfl⟩
              have hsp := nxt_spec (m := m) (n := n) (L := R) (i := i) (j := j) (by omega) (by omega) HLA.out
              rw [hpp] at hsp
              obtain ⟨n1, n2, n3, n4, n5, n6, n7, n8⟩ := hsp
              have n1' : px < m := n1
              have n2' : py < n := n2
              have n3' : i ≤ px := n3
              have n4' : j ≤ py := n4
              have n5' : i + j < px + py := n5
              have hbv : R px py = best3 m n R i j := n8
              have HBV := Lib.hid hbv
              have HPP := Lib.hid hpp
              clear n1 n2 n3 n4 n5 n6 n7 n8 hbv hpp
              refine (next_at _ m n i j lb px py br' R _ HPP.out (by omega) (by omega) HLA.out (by omega) (by omega) (fun p q h1 h2 h3 h4 h5 _ _ => ⟨hT4.topAt h3 h1, hT4.at h3 h1 h2 (fun e => by omega)⟩)).mono ?_
              rintro e w5 ⟨rfl, hk5⟩
              have hkB := hk5.alloc (.cells #[.int .i64 px, .int .i64 py] 98)
              obtain ⟨b0, b1'⟩ := box2 w5 (.int .i64 px) (.int .i64 py) 98
              have hT6 := hT4.kept hkB
              have hG6 := hkB.row hG4
              have hK6 := hKw4.trans hkB
              have m1 := hT6.topAt (Nat.le_refl i) (show i < m by omega)
              have m2 := hT6.topAt n3' n1'
              have m3 := hT6.at n3' n1' n2' (fun e => by omega)
              have m4 := hkB.cellSome dd1
              have m5 := (hT6.can (show j < n by omega)).2
              have y1 : (px : Int) < (m : Int) := by omega
              have y2 : (py : Int) < (n : Int) := by omega
              have y3 : (0 : Int) ≤ (px : Int) := by omega
              have y4 : (0 : Int) ≤ (py : Int) := by omega
              clear hT4 hG4 hKw4 kk1 kk2 kk3 kk4 gg0 gg1 dd1 hk5 hkB hab4
              go_wp2_with fail
              obtain ⟨nb, HNB⟩ : ∃ nb, Hid (nb = w5.heap.size) := ⟨_, rfl⟩
              rw [← HNB.out] at b0 b1' ⊢
              generalize w5.alloc (.cells #[.int .i64 px, .int .i64 py] 98) = W6 at *
              obtain ⟨bv, HB2⟩ : ∃ bv, Hid (bv = R px py) := ⟨_, rfl⟩
              rw [← HB2.out] at m3
              have hbb := HRB.out px py n1' n2'
              rw [← HB2.out] at hbb
              refine wp_region_still_tail 24 (by kernel_rfl) (by kernel_rfl) ?_
              change wpStill _ _ (World.drew _) (fun a' => wpList _ _ _ _ a' (World.drew _)) _ _
              simp only [List.take_succ_cons, List.take_zero, List.drop_succ_cons, List.drop_zero]
              repeat still_step
              still_call (join_add _ _ _ hdb hbb)
              repeat still_step
              refine wpStill_nil ?_
              have hT7 := hT6.kept ((Kept.refl W6).drew)
              have hG7 := ((Kept.refl W6).drew).row hG6
              have hK7 := hK6.drew
              have m6 : W6.drew.cell? ⟨br' i, j, none⟩ = some (.int .i64 d) := m4
              have m7 : W6.drew.frozen? ⟨br' i, j, none⟩ = false := m5
              clear hT6 hG6 hK6 m1 m2 m3 m4 m5 b0 b1'
              generalize W6.drew = W7 at *
              have s5 : IntKind.i64.wrap ((j : Int) - 1) = (j : Int) - 1 := IntWalk.i64_in _ (by omega)
              have hval : d + bv = R i j := by rw [HRV.out, HB2.out, HBV.out]; rfl
              have hT8 := hT7.put (show i < m by omega) hval
              have hG8 := hG7.setOther (a := ⟨br' i, j, none⟩) hbg.symm (.int .i64 (d + bv))
              have hK8 : Kept w (W7.setCell ⟨br' i, j, none⟩ (.int .i64 (d + bv))) := hK7.setCell (p := ⟨br' i, j, none⟩) (hT7.br0 i (Nat.le_refl _) (by omega)) _
              clear hval hT7 hG7 hK7
              go_wp2_with fail
              go_roundg j
              case measure => omega
              case rel => exact ⟨j, by omega, rfl, rfl, hK8, hG8, hT8⟩
end Go.Proofs.Ytfmcjbddbomohaa
