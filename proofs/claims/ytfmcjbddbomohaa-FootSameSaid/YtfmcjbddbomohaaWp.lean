/-
  The least sum of a walk and the first walk that has it; the program's function.
-/
import Derived.Test.YtfmcjbddbomohaaHs
import Derived.Test.YtfmcjbddbomohaaPa
namespace Go.Proofs.Ytfmcjbddbomohaa
open Go.RowKit Go.Deep

def WarpPost (w : World) (m n : Nat) (R : Nat → Nat → Int) (e : Ending) (w' : World) : Prop := ∃ t a cap, e = .returned (.tuple #[.int .i64 (R 0 0), .slice a (t + 1) cap]) ∧ PairsAt w' (.slice a (t + 1) cap) (t + 1) (pA m n R) (pB m n R) ∧ Kept w w' ∧ EndsAt m n R t
theorem Try.infoPair : (Try.prog.info? 98).map (fun i => (i.zero, i.size, i.bytes)) = some (some (.agg #[.int .i64 0, .int .i64 0]), 2, 16) := by kernel_rfl
theorem warp_meas {m n i j px py g : Nat} (h : g = m + n - (i + j)) (h5 : i + j < px + py) (hi : i < m) (hj : j < n) : m + n - (px + py) < g := by omega
theorem pairs_one1 (A B : Nat → Int) : pairs A B 1 = [.int .i64 (A 0), .int .i64 (B 0)] := rfl
theorem pairs_snoc1 (A B : Nat → Int) (m : Nat) : pairs A B (m + 1) = pairs A B m ++ [.int .i64 (A m), .int .i64 (B m)] := by
  apply List.ext_getElem?
  intro j
  by_cases h1 : j < m * 2
  · rw [List.getElem?_append_left (by rw [pairs_len]; exact h1), pairs_at (by omega), pairs_at h1]
  · rw [List.getElem?_append_right (by rw [pairs_len]; omega), pairs_len]
    by_cases h2 : j < (m + 1) * 2
    · rw [pairs_at h2]
      by_cases e : j % 2 = 0
      · rw [if_pos e, show j / 2 = m by omega, show j - m * 2 = 0 by omega]; rfl
      · rw [if_neg e, show j / 2 = m by omega, show j - m * 2 = 1 by omega]; rfl
    · rw [List.getElem?_eq_none (by rw [pairs_len]; omega), List.getElem?_eq_none (by simp; omega)]
set_option maxRecDepth 100000 in
set_option maxHeartbeats 4000000 in
theorem warpV_any (w : World) (m n ba bb : Nat) (R : Nat → Nat → Int)
    (hL : ∀ (W : World), Kept w W → Calls Try.prog 72 #[WalksV m n (FarV ba bb), .func (.func 75) #[] #[]] W (LeastPost W m n R)) (hm : 1 ≤ m) (hn : 1 ≤ n) (hm2 : m ≤ 1000) (hn2 : n ≤ 1000) :
    Calls Try.prog 55 #[WalksV m n (FarV ba bb)] w (WarpPost w m n R) := by
  have HL := Lib.hid hL
  clear hL
  unfold WalksV FarV at HL
  unfold WalksV FarV
  obtain ⟨i1, hi0, hz0, hz1, hz2⟩ := info_parts Try.infoPair
  have hG0 : (w.alloc (.cells #[.int .i64 m, .int .i64 n, .func (.func 71) #[] #[.pointer (some ⟨ba, 0, none⟩), .pointer (some ⟨bb, 0, none⟩)]] 89)).rowIs w.heap.size 89 3 (fun t => if t = 0 then .int .i64 m else if t = 1 then .int .i64 n else .func (.func 71) #[] #[.pointer (some ⟨ba, 0, none⟩), .pointer (some ⟨bb, 0, none⟩)]) := World.rowIs_alloc w _ _ _ (fun t ht => by
    have : t = 0 ∨ t = 1 ∨ t = 2 := by simp at ht; omega
    rcases this with rfl | rfl | rfl <;> rfl)
  have hK0 : Kept w (w.alloc (.cells #[.int .i64 m, .int .i64 n, .func (.func 71) #[] #[.pointer (some ⟨ba, 0, none⟩), .pointer (some ⟨bb, 0, none⟩)]] 89)) := (Kept.refl w).alloc _
  have d0 := hG0.cell (i := 0) (by omega)
  have d1 := hG0.cell (i := 1) (by omega)
  have d2 := hG0.cell (i := 2) (by omega)
  simp only [if_true, Nat.one_ne_zero, if_false] at d0 d1 d2
  rw [if_neg (by omega), if_neg (by omega)] at d2
  go_enter Try.func55, Try.ntmps55
  go_wp2_with fail
  obtain ⟨g, HG⟩ : ∃ g, Hid (g = w.heap.size) := ⟨_, rfl⟩
  rw [← HG.out] at hG0 d0 d1 d2 ⊢
  have hgw : w.heap.size ≤ g := by rw [HG.out]; omega
  generalize (w.alloc (.cells #[.int .i64 m, .int .i64 n, .func (.func 71) #[] #[.pointer (some ⟨ba, 0, none⟩), .pointer (some ⟨bb, 0, none⟩)]] 89)) = W0 at *
  refine (HL.out _ hK0).mono ?_
  rintro e w2 ⟨lb, br, rfl, hk2, hT⟩
  have hK2 := hK0.trans hk2
  have hG2 := hk2.row hG0
  clear hK0 hG0 d0 d1 d2 HG
  have hZ := World.rowIs_alloc w2 #[.int .i64 0, .int .i64 0] 98 (fun _ => .int .i64 0) (fun t ht => by
    have : t = 0 ∨ t = 1 := by simp at ht; omega
    rcases this with rfl | rfl <;> rfl)
  have hO0 : ((w2.alloc (.cells #[.int .i64 0, .int .i64 0] 98)).alloc (.cells #[.int .i64 0, .int .i64 0] 98)).ownsRow (w2.heap.size + 1) 98 2 (.slice (some ⟨(w2.alloc (.cells #[.int .i64 0, .int .i64 0] 98)).heap.size, 0, none⟩) 1 1) 1 (pairs (pA m n R) (pB m n R) 1) := by
    rw [pairs_one1]
    exact World.ownsRow_lit _ #[.int .i64 0, .int .i64 0] 1 (by simp) (by decide) rfl
  have hA0 := hZ.alloc (.cells #[.int .i64 0, .int .i64 0] 98)
  have hk4 : Kept w2 ((w2.alloc (.cells #[.int .i64 0, .int .i64 0] 98)).alloc (.cells #[.int .i64 0, .int .i64 0] 98)) := ((Kept.refl w2).alloc _).alloc _
  simp only [nblk_alloc] at hO0
  clear hZ
  go_wp2_with fail
  obtain ⟨ab, HAB⟩ : ∃ ab, Hid (ab = w2.heap.size) := ⟨_, rfl⟩
  rw [← HAB.out] at hA0 hO0 ⊢
  have hab : w2.heap.size ≤ ab := by rw [HAB.out]; omega
  have hab2 : ab ≤ w2.heap.size := by rw [HAB.out]; omega
  generalize (w2.alloc (.cells #[.int .i64 0, .int .i64 0] 98)).alloc (.cells #[.int .i64 0, .int .i64 0] 98) = W4 at *
  go_loopg [6] (m + n) (fun gg s6 wr => ∃ t : Nat, gg = m + n - ((pth m n R t).1 + (pth m n R t).2) ∧ Hid (∀ u, u < t → ¬ ((pth m n R u).1 + 1 = m ∧ (pth m n R u).2 + 1 = n)) ∧ Kept w2 wr ∧ wr.rowIs ab 98 2 (fun k => if k = 0 then .int .i64 (pth m n R t).1 else .int .i64 (pth m n R t).2) ∧ wr.ownsRow (ab + 1) 98 2 s6 (t + 1) (pairs (pA m n R) (pB m n R) (t + 1)) ∧ ab < wr.heap.size)
  case atStart => exact ⟨0, rfl, fun u hu => by omega, hk4, hA0.congr (fun t _ => by split <;> rfl), hO0, hA0.lt⟩
  case round =>
    clear hk4 hA0 hO0
    obtain ⟨t, hgg, hN, hK, hA, hO, hlt0⟩ := hrel
    have hin := pth_in (L := R) hm hn t hN.out
    obtain ⟨i, HI⟩ : ∃ i, Hid (i = (pth m n R t).1) := ⟨_, rfl⟩
    obtain ⟨j, HJ⟩ : ∃ j, Hid (j = (pth m n R t).2) := ⟨_, rfl⟩
    rw [← HI.out, ← HJ.out] at hin hA hgg
    obtain ⟨hi, hj, htij⟩ := hin
    obtain ⟨oa, ocap, rfl, _⟩ := own_form hO
    have hT1 := hT.kept hK
    have hG1 := hK.row hG2
    have a0 := hA.cell (i := 0) (by omega)
    have a1 := hA.cell (i := 1) (by omega)
    rw [if_pos rfl] at a0
    rw [if_neg (by omega)] at a1
    have g0 := hG1.cell (i := 0) (by omega)
    have g1 := hG1.cell (i := 1) (by omega)
    have g2 := hG1.cell (i := 2) (by omega)
    rw [if_pos rfl] at g0
    rw [if_neg (by omega), if_pos rfl] at g1
    rw [if_neg (by omega), if_neg (by omega)] at g2
    by_cases hlast : i + 1 = m ∧ j + 1 = n
    · have hne := neq_no i j
      have p1 : i = m - 1 := by omega
      have p2 : j = n - 1 := by omega
      have HP1 := Lib.hid p1
      have HP2 := Lib.hid p2
      have hends : EndsAt m n R t := ⟨by rw [← HI.out, ← HJ.out]; exact hlast, hN.out⟩
      have HE := Lib.hid hends
      clear p1 p2 hends
      go_wp2_with fail
      go_region_held3 (fun w' => w'.cell? ⟨ab, 0, none⟩ = some (.int .i64 i) ∧ w'.cell? ⟨ab, 1, none⟩ = some (.int .i64 j) ∧ w'.cell? ⟨g, 0, none⟩ = some (.int .i64 m) ∧ w'.cell? ⟨g, 1, none⟩ = some (.int .i64 n) ∧ w'.cell? ⟨g, 2, none⟩ = some (.func (.func 71) #[] #[.pointer (some ⟨ba, 0, none⟩), .pointer (some ⟨bb, 0, none⟩)]))
        (exact kp5 a0 a1 g0 g1 g2 (by repeat (first | assumption | exact Kept.refl _ | apply Kept.drew | apply Kept.drewN | apply Kept.alloc | refine Kept.trans ?_ (by assumption))))
        (first | (go_at_call 76; refine (last_at _ m n i j _ HP1.out HP2.out hm hn (by omega) (by omega)).mono ?_; rintro e w4 ⟨rfl, hk4⟩))
      all_goals
        have hK4 : Kept wr w4 := (by repeat (first | assumption | exact Kept.refl _ | apply Kept.drew | apply Kept.drewN | apply Kept.alloc | refine Kept.trans ?_ (by assumption)))
        have hT4 := hT1.kept hK4
        have t1 := hT4.top.cell (show 0 < m by omega)
        rw [if_pos (Nat.zero_le _)] at t1
        have t2 := (hT4.row 0 (Nat.zero_le _) (by omega)).cell (show 0 < n by omega)
        have hO4 := own_pairs (own_kept hO hK4)
        have hm0 : 0 < m := hm
        have hn0 : 0 < n := hn
        clear a0 a1 g0 g1 g2 hT1 hG1 hA hT4
        go_wp2_with fail
        go_ret2
        exact ⟨t, oa, ocap, rfl, hO4, hK2.trans (hK.trans hK4), HE.out⟩
    · have hne := neq_yes i j (m - 1) (n - 1) (by omega)
      obtain ⟨p1, hp1⟩ : ∃ p1, p1 = m - 1 := ⟨_, rfl⟩
      obtain ⟨p2, hp2⟩ : ∃ p2, p2 = n - 1 := ⟨_, rfl⟩
      rw [← hp1, ← hp2] at hne
      have HP1 := Lib.hid hp1
      have HP2 := Lib.hid hp2
      have HLA := Lib.hid hlast
      have hN2 : Hid (∀ u, u < t + 1 → ¬ ((pth m n R u).1 + 1 = m ∧ (pth m n R u).2 + 1 = n)) := fun u hu => by
        by_cases e : u = t
        · subst e; rw [← HI.out, ← HJ.out]; exact hlast
        · exact hN.out u (by omega)
      have hnp : Hid (pth m n R (t + 1) = nxt m n R i j) := by show _ = _; rw [HI.out, HJ.out]; rfl
      clear hp1 hp2
      go_wp2_with fail
      go_region_held3 (fun w' => w'.cell? ⟨ab, 0, none⟩ = some (.int .i64 i) ∧ w'.cell? ⟨ab, 1, none⟩ = some (.int .i64 j) ∧ w'.cell? ⟨g, 0, none⟩ = some (.int .i64 m) ∧ w'.cell? ⟨g, 1, none⟩ = some (.int .i64 n) ∧ w'.cell? ⟨g, 2, none⟩ = some (.func (.func 71) #[] #[.pointer (some ⟨ba, 0, none⟩), .pointer (some ⟨bb, 0, none⟩)]))
        (exact kp5 a0 a1 g0 g1 g2 (by repeat (first | assumption | exact Kept.refl _ | apply Kept.drew | apply Kept.drewN | apply Kept.alloc | refine Kept.trans ?_ (by assumption))))
        (first | (go_at_call 76; refine (last_at _ m n p1 p2 _ HP1.out HP2.out hm hn (by omega) (by omega)).mono ?_; rintro e w4 ⟨rfl, hk4⟩))
      all_goals
        have hK4 : Kept wr w4 := (by repeat (first | assumption | exact Kept.refl _ | apply Kept.drew | apply Kept.drewN | apply Kept.alloc | refine Kept.trans ?_ (by assumption)))
        have hT4 := hT1.kept hK4
        have hKK := hK.trans hK4
        have hA4 := hK4.row hA
        have hO4 := own_kept hO hK4
        have aa0 := hK4.cellSome a0
        have aa1 := hK4.cellSome a1
        have gg0 := hK4.cellSome g0
        have gg1 := hK4.cellSome g1
        have gg2 := hK4.cellSome g2
        have hab4 : ab < w4.heap.size := hA4.lt
        clear a0 a1 g0 g1 g2 hT1 hG1 hA hO hK hK4 hk4 hne
        go_wp2_with fail
        obtain ⟨px, py, hpp⟩ : ∃ px py, nxt m n R i j = (px, py) := ⟨_, _, rfl⟩
        have hsp := nxt_spec (m := m) (n := n) (L := R) (i := i) (j := j) hi hj HLA.out
        rw [hpp] at hsp
        obtain ⟨n1, n2, n3, n4, n5, n6, n7, n8⟩ := hsp
        have n1' : px < m := n1
        have n2' : py < n := n2
        have n3' : i ≤ px := n3
        have n4' : j ≤ py := n4
        have n5' : i + j < px + py := n5
        have HPP := Lib.hid hpp
        have hq1 : Hid (pA m n R (t + 1) = (px : Int)) := by show ((pth m n R (t + 1)).1 : Int) = _; rw [hnp.out, hpp]
        have hq2 : Hid (pB m n R (t + 1) = (py : Int)) := by show ((pth m n R (t + 1)).2 : Int) = _; rw [hnp.out, hpp]
        clear n1 n2 n3 n4 n5 n6 n7 n8 hpp
        refine (next_at _ m n i j lb px py br R _ HPP.out hi hj HLA.out (by omega) (by omega) (fun p q h1 h2 h3 h4 h5 _ _ => ⟨by have := hT4.top.cell h1; rwa [if_pos (Nat.zero_le _)] at this, (hT4.row p (Nat.zero_le _) h1).cell h2⟩)).mono ?_
        rintro e w5 ⟨rfl, hk5⟩
        have hK5 := hKK.trans hk5
        have hA5 := hk5.row hA4
        have hO5 := own_kept hO4 hk5
        have hab5 : ab < w5.heap.size := hA5.lt
        have e0 := hA5.cell (i := 0) (by omega)
        have e1 := hA5.cell (i := 1) (by omega)
        have e2 := hA5.frozen 0
        have e3 := hA5.frozen 1
        have hA6 := pair_set hA5 (.int .i64 px) (.int .i64 py)
        have hK6 : Kept w2 ((w5.setCell ⟨ab, 0, none⟩ (.int .i64 px)).setCell ⟨ab, 1, none⟩ (.int .i64 py)) := (hK5.setCell (p := ⟨ab, 0, none⟩) hab _).setCell (p := ⟨ab, 1, none⟩) hab _
        have hX6 : KeptX (fun k => k = ab) w5 ((w5.setCell ⟨ab, 0, none⟩ (.int .i64 px)).setCell ⟨ab, 1, none⟩ (.int .i64 py)) := KeptX.setIn (r := ab) (KeptX.setIn (r := ab) (KeptX.refl (fun k => k = ab) w5) 0 (.int .i64 px)) 1 (.int .i64 py)
        have hO6 := own_keptX hO5 hX6 (fun b hb => by omega)
        clear hT4 hKK hA4 hO4 aa0 aa1 gg0 gg1 gg2 hK5 hA5 hO5 hX6 hk5
        have f0 := hA6.cell (i := 0) (by omega)
        have f1 := hA6.cell (i := 1) (by omega)
        rw [if_pos rfl] at f0
        rw [if_neg (by omega)] at f1
        have hsz6 : ab < ((w5.setCell ⟨ab, 0, none⟩ (.int .i64 px)).setCell ⟨ab, 1, none⟩ (.int .i64 py)).heap.size := hA6.lt
        have hO7 := hO6.alloc (.cells #[.int .i64 px, .int .i64 py] 98)
        have hA7 := hA6.alloc (.cells #[.int .i64 px, .int .i64 py] 98)
        have hK7 := hK6.alloc (.cells #[.int .i64 px, .int .i64 py] 98)
        have hbx := box2 ((w5.setCell ⟨ab, 0, none⟩ (.int .i64 px)).setCell ⟨ab, 1, none⟩ (.int .i64 py)) (.int .i64 px) (.int .i64 py) 98
        have hsz7 : ab + 1 ≤ (((w5.setCell ⟨ab, 0, none⟩ (.int .i64 px)).setCell ⟨ab, 1, none⟩ (.int .i64 py)).alloc (.cells #[.int .i64 px, .int .i64 py] 98)).heap.size := by have := hA7.lt; omega
        simp only [nblk_setCell] at hbx
        have hnews : ∀ (k : Nat) u, [Value.int .i64 px, .int .i64 py][k]? = some u → (((w5.setCell ⟨ab, 0, none⟩ (.int .i64 px)).setCell ⟨ab, 1, none⟩ (.int .i64 py)).alloc (.cells #[.int .i64 px, .int .i64 py] 98)).cell? ((⟨w5.heap.size, 0, none⟩ : Addr).add k) = some u := fun k u h => by
          have : k = 0 ∨ k = 1 := by
            rcases Nat.lt_or_ge k 2 with e | e
            · omega
            · rw [List.getElem?_eq_none (by simp; omega)] at h; cases h
          rcases this with rfl | rfl
          · cases h; rw [add_at]; exact hbx.1
          · cases h; rw [add_at]; exact hbx.2
        have HN := Lib.hid hnews
        have HO7 := Lib.hid hO7
        have HSZ := Lib.hid hsz7
        clear hnews hO7 hbx hA6 hK6 hO6 hsz7
        go_wp2_with (first | (at_builtin; refine wpList_append_own _ rfl _ _ 36 rfl (ab + 1) 98 i1 (.agg #[.int .i64 0, .int .i64 0]) 2 16 Try.underlying36 hi0 hz0 hz1 hz2 rfl (by decide) _ _ _ rfl HO7.out ⟨w5.heap.size, 0, none⟩ 1 1 [.int .i64 px, .int .i64 py] rfl rfl HN.out (by simp [Value.oneCell']) ?c3 ?c4 HSZ.out ?_))
        case c3 => unfold maxLen; omega
        case c4 => omega
        intro v' w8 hO8 hgr _
        have hX8 := grew_X hgr HO7.out
        have hK8 : Kept w2 w8 := hK7.step hX8 (fun k hk => by omega)
        have hA8 := KeptX.row hX8 hA7 (by omega)
        have hO9 : w8.ownsRow (ab + 1) 98 2 v' (t + 1 + 1) (pairs (pA m n R) (pB m n R) (t + 1 + 1)) := by rw [pairs_snoc1, hq1.out, hq2.out]; exact hO8
        have hpp2 : (pth m n R (t + 1)).1 = px ∧ (pth m n R (t + 1)).2 = py := by rw [hnp.out, HPP.out]; exact ⟨rfl, rfl⟩
        have hA9 : w8.rowIs ab 98 2 (fun k => if k = 0 then .int .i64 (pth m n R (t + 1)).1 else .int .i64 (pth m n R (t + 1)).2) := by rw [hpp2.1, hpp2.2]; exact hA8
        have hfin : (pth m n R (t + 1)).1 + (pth m n R (t + 1)).2 = px + py := by rw [hpp2.1, hpp2.2]
        have HFIN := Lib.hid hfin
        have hlt8 : ab < w8.heap.size := hA8.lt
        clear HO7 HN hgr hO8 hX8 hA8 hpp2 hA7 hK7 hfin f0 f1 e0 e1 e2 e3
        go_wp2_with fail
        go_roundg (m + n - (px + py))
        case measure => exact warp_meas hgg n5' hi hj
        case rel => exact ⟨t + 1, by rw [HFIN.out], hN2, hK8, hA9, hO9, hlt8⟩
end Go.Proofs.Ytfmcjbddbomohaa
