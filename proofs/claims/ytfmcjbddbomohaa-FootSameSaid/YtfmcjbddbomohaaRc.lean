/-
  The reference's Rest: the table of what is best from each pair on.
-/
import Derived.Test.YtfmcjbddbomohaaRb
namespace Go.Proofs.Ytfmcjbddbomohaa
open Go.RowKit Go.Deep

def RestPost (w : World) (m n : Nat) (R : Nat → Nat → Int) (e : Ending) (w' : World) : Prop := ∃ (lb cap : Nat) (br : Nat → Nat) (Z : Nat → Nat → Int), e = .returned (.slice (some ⟨lb, 0, none⟩) m cap) ∧ Kept w w' ∧ RTab w.heap.size w' m n lb br Z ∧ ∀ p q, p < m → q < n → Z p q = R p q
set_option maxRecDepth 100000 in
set_option maxHeartbeats 8000000 in
theorem Rest_core (w : World) (m n b1 o1 cap1 b2 o2 cap2 : Nat) (X Y U V : Nat → Int) (s : Bool) (R : Nat → Nat → Int)
    (hA : ∀ i, i < m → w.cell? ⟨b1, o1 + i * 2, none⟩ = some (.int .i64 (X i)) ∧ w.cell? ⟨b1, o1 + i * 2 + 1, none⟩ = some (.int .i64 (Y i))) (hB : ∀ j, j < n → w.cell? ⟨b2, o2 + j * 2, none⟩ = some (.int .i64 (U j)) ∧ w.cell? ⟨b2, o2 + j * 2 + 1, none⟩ = some (.int .i64 (V j)))
    (h1 : InR m X Y) (h2 : InR n U V) (hm : 1 ≤ m) (hn : 1 ≤ n) (hm2 : m ≤ 1000) (hn2 : n ≤ 1000)
    (hR1 : ∀ i j, i + 1 = m → j + 1 = n → R i j = dist (X i) (Y i) (U j) (V j))
    (hR2 : ∀ i j, i < m → j < n → ¬ (i + 1 = m ∧ j + 1 = n) → R i j = if s = true then best3 m n R i j + dist (X i) (Y i) (U j) (V j) else max (best3 m n R i j) (dist (X i) (Y i) (U j) (V j)))
    (hRb : ∀ i j, i < m → j < n → 0 ≤ R i j ∧ R i j ≤ 16000000000) :
    Calls Try.prog 25 #[.slice (some ⟨b1, o1, none⟩) m cap1, .slice (some ⟨b2, o2, none⟩) n cap2, .bool s] w (RestPost w m n R) := by
  have HA := Lib.hid hA
  have HB := Lib.hid hB
  have HI1 := Lib.hid h1
  have HI2 := Lib.hid h2
  have HR1 := Lib.hid hR1
  have HR2 := Lib.hid hR2
  have HRB := Lib.hid hRb
  clear hA hB h1 h2 hR1 hR2 hRb
  obtain ⟨i1, hi, hz0, hz1, hz2⟩ := info_parts Try.infoRow
  have hO0 := own_zeroT w w.heap.size 27 1 (Nat.le_refl _)
  have hK0 : Kept w (w.alloc (.cells #[] 27)) := (Kept.refl w).alloc _
  have hmk := mkInts n n rfl (by omega)
  have hZ0 : Zeros w.heap.size (w.alloc (.cells #[] 27)) n 0 (.slice (some ⟨w.heap.size, 0, none⟩) 0 0) (fun _ => 0) := ⟨hO0, fun t h => absurd h (by omega), fun t h => absurd h (by omega), fun t u h => absurd h (by omega)⟩
  clear hO0
  go_enter Try.func25, Try.ntmps25
  go_wp2_with fail
  generalize w.alloc (.cells #[] 27) = W0 at *
  go_loopg [7, 8] m (fun g s7 s8 wr => ∃ (k : Nat) (br : Nat → Nat), k ≤ m ∧ g = m - k ∧ s8 = .int .i64 k ∧ Kept w wr ∧ Zeros w.heap.size wr n k s7 br)
  case atStart => exact ⟨0, _, by omega, by omega, rfl, hK0, hZ0⟩
  case round =>
    obtain ⟨k, br, hk, rfl, rfl, hK, hZ⟩ := hrel
    clear hK0 hZ0
    obtain ⟨oa, ocap, rfl, _⟩ := own_form hZ.own
    by_cases hlt : k < m
    · have hs0 : w.heap.size ≤ wr.heap.size := Kept.size hK
      have hO := hZ.own
      have hO1 := (hO.alloc (.cells (madeCells #[.int .i64 0] n) 3)).alloc (.cells #[.slice (some ⟨wr.heap.size, 0, none⟩) n n] 27)
      have hrow := (World.rowIs_made wr (.int .i64 0) n 3).alloc (.cells #[.slice (some ⟨wr.heap.size, 0, none⟩) n n] 27)
      have hk2 : Kept wr ((wr.alloc (.cells (madeCells #[.int .i64 0] n) 3)).alloc (.cells #[.slice (some ⟨wr.heap.size, 0, none⟩) n n] 27)) := ((Kept.refl wr).alloc _).alloc _
      have hcell : ∀ (j : Nat) u, [Value.slice (some ⟨wr.heap.size, 0, none⟩) n n][j]? = some u → ((wr.alloc (.cells (madeCells #[.int .i64 0] n) 3)).alloc (.cells #[.slice (some ⟨wr.heap.size, 0, none⟩) n n] 27)).cell? ((⟨wr.heap.size + 1, 0, none⟩ : Addr).add j) = some u := fun j u h => by
        have : j = 0 := by
          rcases Nat.eq_zero_or_pos j with e | e
          · exact e
          · rw [List.getElem?_eq_none (by simp; omega)] at h; cases h
        subst this
        rw [add_at]
        have := one_at (wr.alloc (.cells (madeCells #[.int .i64 0] n) 3)) (.slice (some ⟨wr.heap.size, 0, none⟩) n n) 27 (wr.heap.size + 1) (by simp)
        simp only [List.getElem?_cons_zero, Option.some.injEq] at h
        subst h
        exact this
      have HCELL := Lib.hid hcell
      have HO1 := Lib.hid hO1
      have HROW := Lib.hid hrow
      clear hcell hO1 hrow hO
      go_wp2_with (first | (at_builtin; refine wpList_append_own _ rfl _ _ 39 rfl w.heap.size 27 i1 (.slice none 0 0) 1 24 Try.underlying39 hi hz0 hz1 hz2 rfl (by decide) _ _ _ rfl HO1.out ⟨wr.heap.size + 1, 0, none⟩ 1 1 [.slice (some ⟨wr.heap.size, 0, none⟩) n n] (by first | rfl | simp) rfl ?c1 ?c2 ?c3 ?c4 ?c5 ?_))
      case c1 => exact HCELL.out
      case c2 => simp [Value.oneCell']
      case c3 => unfold maxLen; omega
      case c4 => omega
      case c5 => first | omega | (simp; omega)
      intro v' w2 hO3 hgr _
      have hZ2 := hZ.grow hs0 hk2 wr.heap.size rfl HROW.out HO1.out hgr hO3
      have hK2 : Kept w w2 := (hK.trans hk2).step (grew_X hgr HO1.out) (fun i hi => hi)
      clear hZ hO3 hgr HO1 HROW HCELL hK hk2
      go_wp2_with fail
      go_roundg (m - (k + 1))
      case measure => omega
      case rel => exact ⟨k + 1, _, by omega, rfl, by go_num, hK2, hZ2⟩
    · obtain rfl : k = m := by omega
      obtain ⟨lb, lcap, he, hT0⟩ := hZ.tab hm
      cases he
      clear hZ
      have hT1 : RTab w.heap.size wr k n lb br (fun _ _ => 0) := hT0
      have hS0 : Hid (∀ p q : Nat, k ≤ p → p < k → q < n → (0 : Int) = R p q) := fun p q h1 h2 => absurd h2 (by omega)
      obtain ⟨W1, rfl⟩ : ∃ W1 : World, W1 = wr := ⟨_, rfl⟩
      clear hT0
      go_wp2_with fail
      go_loopg [9] (k + 1) (fun g s9 wi => ∃ (r : Nat) (Z : Nat → Nat → Int), r ≤ k ∧ g = r + 1 ∧ s9 = .int .i64 ((r : Int) - 1) ∧ Kept w wi ∧ RTab w.heap.size wi k n lb br Z ∧ Hid (∀ p q, r ≤ p → p < k → q < n → Z p q = R p q))
      case atStart => exact ⟨k, _, Nat.le_refl _, rfl, rfl, hK, hT1, hS0⟩
      case round =>
        clear hK hT1 hS0
        obtain ⟨r, Z, hr, rfl, rfl, hK, hT, hS⟩ := hrel
        by_cases h0 : 0 < r
        · obtain ⟨i, rfl⟩ : ∃ i, r = i + 1 := ⟨r - 1, by omega⟩
          have hS1 : Hid (∀ p q, i ≤ p → p < k → q < n → (p = i → n ≤ q) → Z p q = R p q) := fun p q h1 h2 h3 h4 => hS.out p q (by have : p ≠ i := fun e => absurd (h4 e) (by omega); omega) h2 h3
          have e1 : (((i + 1 : Nat)) : Int) - 1 = (i : Int) := by omega
          rw [e1]
          have e2 : (0 : Int) ≤ (i : Int) := by omega
          clear hS e1 h0
          go_wp2_with fail
          go_loopg [10] (n + 1) (fun g s10 wj => ∃ (c : Nat) (Z : Nat → Nat → Int), c ≤ n ∧ g = c + 1 ∧ s10 = .int .i64 ((c : Int) - 1) ∧ Kept w wj ∧ RTab w.heap.size wj k n lb br Z ∧ Hid (∀ p q, i ≤ p → p < k → q < n → (p = i → c ≤ q) → Z p q = R p q))
          case atStart => exact ⟨n, Z, Nat.le_refl _, rfl, rfl, hK, hT, hS1⟩
          case round =>
            clear hK hT hS1
            obtain ⟨c, Z, hc, rfl, rfl, hK, hT, hS⟩ := hrel
            by_cases h0 : 0 < c
            · obtain ⟨j, rfl⟩ : ∃ j, c = j + 1 := ⟨c - 1, by omega⟩
              have e1 : (((j + 1 : Nat)) : Int) - 1 = (j : Int) := by omega
              rw [e1]
              have e3 : (0 : Int) ≤ (j : Int) := by omega
              have hi : i < k := by omega
              have hj : j < n := by omega
              have hC := Lib.hid (cells6 wr i j 95)
              have hk6 := (Kept.refl wr).alloc (.cells #[.int .i64 i, .int .i64 ((j : Int) + 1), .int .i64 ((i : Int) + 1), .int .i64 j, .int .i64 ((i : Int) + 1), .int .i64 ((j : Int) + 1)] 95)
              have hb0 : Hid (rb k n R i j 0 = (false, 0)) := rfl
              clear h0 e1
              go_wp2_with fail
              obtain ⟨cb, HCB⟩ : ∃ cb, Hid (cb = wr.heap.size) := ⟨_, rfl⟩
              rw [← HCB.out] at hC ⊢
              generalize wr.alloc (.cells #[.int .i64 i, .int .i64 ((j : Int) + 1), .int .i64 ((i : Int) + 1), .int .i64 j, .int .i64 ((i : Int) + 1), .int .i64 ((j : Int) + 1)] 95) = W6 at *
              obtain ⟨W3, HW3⟩ : ∃ W3 : World, Hid (W3 = wr) := ⟨_, rfl⟩
              rw [← HW3.out] at *
              go_loopg [11, 12, 58] 3 (fun g s11 s12 s58 wr => ∃ t : Nat, t ≤ 3 ∧ g = 3 - t ∧ s58 = .int .i64 t ∧ s12 = .bool (rb k n R i j t).1 ∧ s11 = .int .i64 (rb k n R i j t).2 ∧ Kept W6 wr)
              case atStart => exact ⟨0, by omega, rfl, rfl, rfl, rfl, Kept.refl _⟩
              case round =>
                obtain ⟨t, ht, rfl, rfl, rfl, rfl, hKq⟩ := hrel
                by_cases ht3 : t < 3
                · have hcl := cand_le i j t ht3
                  obtain ⟨c0, c1⟩ := hC.out t ht3
                  have hskip : Hid (¬ ((cand i j t).1 < k ∧ (cand i j t).2 < n) → rb k n R i j (t + 1) = rb k n R i j t) := rb_skip
                  have htake : Hid ((cand i j t).1 < k → (cand i j t).2 < n → (rb k n R i j t).1 = false ∨ R (cand i j t).1 (cand i j t).2 < (rb k n R i j t).2 → rb k n R i j (t + 1) = (true, R (cand i j t).1 (cand i j t).2)) := rb_take
                  have hkeep : Hid ((rb k n R i j t).1 = true → ¬ R (cand i j t).1 (cand i j t).2 < (rb k n R i j t).2 → rb k n R i j (t + 1) = rb k n R i j t) := rb_keep
                  obtain ⟨p, HP⟩ : ∃ p, Hid (p = (cand i j t).1) := ⟨_, rfl⟩
                  obtain ⟨q, HQ⟩ : ∃ q, Hid (q = (cand i j t).2) := ⟨_, rfl⟩
                  obtain ⟨sb, HSB⟩ : ∃ sb, Hid (sb = (rb k n R i j t).1) := ⟨_, rfl⟩
                  obtain ⟨bv, HBV⟩ : ∃ bv, Hid (bv = (rb k n R i j t).2) := ⟨_, rfl⟩
                  rw [← HP.out] at hcl c0 hskip htake hkeep
                  rw [← HQ.out] at hcl c1 hskip htake hkeep
                  rw [← HSB.out] at htake hkeep
                  rw [← HBV.out] at htake hkeep
                  rw [← HSB.out, ← HBV.out]
                  have q0 := hKq.cellSome c0
                  have q1 := hKq.cellSome c1
                  obtain ⟨d0, d1⟩ := box2 wr (.int .i64 p) (.int .i64 q) 95
                  have hkB : Kept wr (wr.alloc (.cells #[.int .i64 p, .int .i64 q] 95)) := (Kept.refl wr).alloc _
                  clear c0 c1
                  by_cases hp : p < k
                  · by_cases hq : q < n
                    · have hTB := ((hT.kept hk6).kept hKq).kept hkB
                      have d2 := hTB.top p hp
                      have d3 := hTB.at hp hq
                      rw [hS.out p q (by omega) hp hq (by omega)] at d3
                      have htake := Lib.hid (htake.out hp hq)
                      clear hskip
                      obtain ⟨v, HV⟩ : ∃ v, Hid (v = R p q) := ⟨_, rfl⟩
                      rw [← HV.out] at d3 htake hkeep
                      have s1 : (p : Int) < k := by omega
                      have s2 : (q : Int) < n := by omega
                      have s3 : (0 : Int) ≤ p := by omega
                      have s4 : (0 : Int) ≤ q := by omega
                      have g1 : decide ((p : Int) < (k : Int)) = true := decide_eq_true s1
                      have g2 : decide ((q : Int) < (n : Int)) = true := decide_eq_true s2
                      clear hTB
                      cases sb
                      · have hn : Hid (rb k n R i j (t + 1) = (true, v)) := by
                          show _ = _
                          rw [htake.out (.inl rfl), HV.out]
                        clear htake hkeep
                        go_wp2_with fail
                        go_quiet (fail)
                        go_wp2_with fail
                        go_quiet (fail)
                        go_wp2_with fail
                        go_roundg (3 - (t + 1))
                        case measure => omega
                        case rel => exact ⟨t + 1, by omega, rfl, by go_num, by rw [hn.out], by rw [hn.out], (by repeat (first | assumption | exact Kept.refl _ | apply Kept.drew | apply Kept.drewN | apply Kept.alloc | refine Kept.trans ?_ (by assumption)))⟩
                      · by_cases hless : v < bv
                        · have hn : Hid (rb k n R i j (t + 1) = (true, v)) := by
                            show _ = _
                            rw [htake.out (.inr hless), HV.out]
                          have g3 : decide (v < bv) = true := decide_eq_true hless
                          clear htake hkeep
                          go_wp2_with fail
                          go_quiet (fail)
                          go_wp2_with fail
                          go_quiet (fail)
                          go_wp2_with fail
                          go_roundg (3 - (t + 1))
                          case measure => omega
                          case rel => exact ⟨t + 1, by omega, rfl, by go_num, by rw [hn.out], by rw [hn.out], (by repeat (first | assumption | exact Kept.refl _ | apply Kept.drew | apply Kept.drewN | apply Kept.alloc | refine Kept.trans ?_ (by assumption)))⟩
                        · have hn : Hid (rb k n R i j (t + 1) = rb k n R i j t) := hkeep.out rfl hless
                          have g3 : decide (v < bv) = false := decide_eq_false hless
                          clear htake hkeep
                          go_wp2_with fail
                          go_quiet (fail)
                          go_wp2_with fail
                          go_roundg (3 - (t + 1))
                          case measure => omega
                          case rel => exact ⟨t + 1, by omega, rfl, by go_num, by rw [hn.out, ← HSB.out], by rw [hn.out, ← HBV.out], (by repeat (first | assumption | exact Kept.refl _ | apply Kept.drew | apply Kept.drewN | apply Kept.alloc | refine Kept.trans ?_ (by assumption)))⟩
                    · have hn : Hid (rb k n R i j (t + 1) = rb k n R i j t) := hskip.out (fun h => hq h.2)
                      have g1 : decide ((p : Int) < (k : Int)) = true := decide_eq_true (by omega)
                      have g2 : decide ((q : Int) < (n : Int)) = false := decide_eq_false (by omega)
                      clear hskip htake hkeep
                      go_wp2_with fail
                      go_quiet (fail)
                      go_wp2_with fail
                      go_roundg (3 - (t + 1))
                      case measure => omega
                      case rel => exact ⟨t + 1, by omega, rfl, by go_num, by rw [hn.out, ← HSB.out], by rw [hn.out, ← HBV.out], (by repeat (first | assumption | exact Kept.refl _ | apply Kept.drew | apply Kept.drewN | apply Kept.alloc | refine Kept.trans ?_ (by assumption)))⟩
                  · have hn : Hid (rb k n R i j (t + 1) = rb k n R i j t) := hskip.out (fun h => hp h.1)
                    have g1 : decide ((p : Int) < (k : Int)) = false := decide_eq_false (by omega)
                    clear hskip htake hkeep
                    go_wp2_with fail
                    go_quiet (fail)
                    go_wp2_with fail
                    go_roundg (3 - (t + 1))
                    case measure => omega
                    case rel => exact ⟨t + 1, by omega, rfl, by go_num, by rw [hn.out, ← HSB.out], by rw [hn.out, ← HBV.out], (by repeat (first | assumption | exact Kept.refl _ | apply Kept.drew | apply Kept.drewN | apply Kept.alloc | refine Kept.trans ?_ (by assumption)))⟩
                · obtain rfl : t = 3 := by omega
                  obtain ⟨d, HD⟩ : ∃ d, Hid (d = dist (X i) (Y i) (U j) (V j)) := ⟨_, rfl⟩
                  obtain ⟨bv, HBV⟩ : ∃ bv, Hid (bv = (rb k n R i j 3).2) := ⟨_, rfl⟩
                  have hdb := dist_bd (HI1.out i hi).1 (HI1.out i hi).2 (HI2.out j hj).1 (HI2.out j hj).2
                  rw [← HD.out] at hdb
                  have hbb := rb_bd (m := k) (n := n) (L := R) (i := i) (j := j) (B := 16000000000) (by omega) (fun p q hp hq _ _ _ => HRB.out p q hp hq) 3 (by omega)
                  rw [← HBV.out] at hbb
                  have hval : R i j = if s = true then bv + d else max bv d := by
                    rw [HBV.out, HD.out]
                    by_cases hl : i + 1 = k ∧ j + 1 = n
                    · rw [rb_last hl.1 hl.2, HR1.out i j hl.1 hl.2, ← HD.out]
                      cases s <;> simp <;> omega
                    · rw [rb_best hi hj hl]; exact HR2.out i j hi hj hl
                  have HVAL := Lib.hid hval
                  clear hval
                  obtain ⟨sb, HSB⟩ : ∃ sb, Hid (sb = (rb k n R i j 3).1) := ⟨_, rfl⟩
                  rw [← HSB.out, ← HBV.out]
                  have hKw : Kept w wr := (hK.trans hk6).trans hKq
                  have hTq := (hT.kept hk6).kept hKq
                  obtain ⟨c0, c1⟩ := HA.out i hi
                  obtain ⟨c2, c3⟩ := HB.out j hj
                  have x0 := hKw.cellSome c0
                  have x1 := hKw.cellSome c1
                  have y0 := hKw.cellSome c2
                  have y1 := hKw.cellSome c3
                  have s1 : (i : Int) < k := by omega
                  have s2 : (j : Int) < n := by omega
                  clear c0 c1 c2 c3 hT hKq hk6 hK hC HSB hb0
                  go_wp2_with fail
                  go_region_held3 (fun w' => w'.cell? ⟨b1, o1 + i * 2, none⟩ = some (.int .i64 (X i)) ∧ w'.cell? ⟨b1, o1 + i * 2 + 1, none⟩ = some (.int .i64 (Y i)) ∧ w'.cell? ⟨b2, o2 + j * 2, none⟩ = some (.int .i64 (U j)) ∧ w'.cell? ⟨b2, o2 + j * 2 + 1, none⟩ = some (.int .i64 (V j)) ∧ Kept wr w')
                    (first | exact keep4 x0 x1 y0 y1 (by repeat (first | assumption | exact Kept.refl _ | apply Kept.drew | apply Kept.drewN | apply Kept.alloc | refine Kept.trans ?_ (by assumption))))
                    (first | (go_at_call 51; refine (far_any _ (X i) (Y i) (U j) (V j) (HI1.out i hi).1 (HI1.out i hi).2 (HI2.out j hj).1 (HI2.out j hj).2).mono ?_; rw [← HD.out]; rintro e w2 ⟨rfl, hk2⟩))
                  all_goals
                    have hkW : Kept wr w2 := (by repeat (first | assumption | exact Kept.refl _ | apply Kept.drew | apply Kept.drewN | apply Kept.alloc | refine Kept.trans ?_ (by assumption)))
                    have hT2 := hTq.kept hkW
                    have hK2 := hKw.trans hkW
                    have z0 := hT2.top i hi
                    have z1 := hT2.at hi hj
                    have z2 := (hT2.row i hi).frozen j
                    have hb0 := hT2.br0 i hi
                    clear x0 x1 y0 y1 hTq hKw
                    cases s
                    · by_cases hmx : bv < d
                      · have hv : Hid (R i j = d) := by
                          show _ = _
                          rw [HVAL.out]
                          show max bv d = _
                          omega
                        have hT3 := hT2.put (j := j) hi (d)
                        have hK3 := hK2.setCell (p := ⟨br i, j, none⟩) hb0 (.int .i64 (d))
                        go_wp2_with fail
                        go_roundg (j + 1)
                        case measure => omega
                        case rel => exact ⟨j, _, by omega, rfl, by go_num, hK3, hT3, fun p q h1 h2 h3 h4 => by
                          by_cases e : p = i ∧ q = j
                          · rw [if_pos e, e.1, e.2, hv.out]
                          · rw [if_neg e]; exact hS.out p q h1 h2 h3 (fun e1 => by have := h4 e1; omega)⟩
                      · have hv : Hid (R i j = bv) := by
                          show _ = _
                          rw [HVAL.out]
                          show max bv d = _
                          omega
                        have hT3 := hT2.put (j := j) hi (bv)
                        have hK3 := hK2.setCell (p := ⟨br i, j, none⟩) hb0 (.int .i64 (bv))
                        go_wp2_with fail
                        go_roundg (j + 1)
                        case measure => omega
                        case rel => exact ⟨j, _, by omega, rfl, by go_num, hK3, hT3, fun p q h1 h2 h3 h4 => by
                          by_cases e : p = i ∧ q = j
                          · rw [if_pos e, e.1, e.2, hv.out]
                          · rw [if_neg e]; exact hS.out p q h1 h2 h3 (fun e1 => by have := h4 e1; omega)⟩
                    · have hv : Hid (R i j = bv + d) := HVAL.out
                      have hT3 := hT2.put (j := j) hi (bv + d)
                      have hK3 := hK2.setCell (p := ⟨br i, j, none⟩) hb0 (.int .i64 (bv + d))
                      have s5 : IntKind.i64.wrap (bv + d) = bv + d := IntWalk.i64_in _ (by omega)
                      go_wp2_with fail
                      go_roundg (j + 1)
                      case measure => omega
                      case rel => exact ⟨j, _, by omega, rfl, by go_num, hK3, hT3, fun p q h1 h2 h3 h4 => by
                        by_cases e : p = i ∧ q = j
                        · rw [if_pos e, e.1, e.2, hv.out]
                        · rw [if_neg e]; exact hS.out p q h1 h2 h3 (fun e1 => by have := h4 e1; omega)⟩
            · obtain rfl : c = 0 := by omega
              have hS' : Hid (∀ p q, i ≤ p → p < k → q < n → Z p q = R p q) := fun p q h1 h2 h3 => hS.out p q h1 h2 h3 (fun _ => Nat.zero_le _)
              clear hS
              go_wp2_with fail
              go_roundg (i + 1)
              case measure => omega
              case rel => exact ⟨i, Z, by omega, rfl, by go_num, hK, hT, hS'⟩
        · obtain rfl : r = 0 := by omega
          go_wp2_with fail
          go_ret
          exact ⟨lb, ocap, br, Z, rfl, hK, hT, fun p q hp hq => hS.out p q (Nat.zero_le _) hp hq⟩
end Go.Proofs.Ytfmcjbddbomohaa
