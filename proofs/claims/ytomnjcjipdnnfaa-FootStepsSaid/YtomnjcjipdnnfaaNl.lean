/-
  The reference's numbers of any size: less.
-/
import Derived.Test.YtomnjcjipdnnfaaNc
namespace Go.Proofs.Ytomnjcjipdnnfaa
open Go.RowKit Go.Deep

set_option maxRecDepth 100000 in
set_option maxHeartbeats 4000000 in
theorem less_any (w : World) (va vb : Value) (la lb : Nat) (D E : Nat → Int) (ha : IntsAt w va la D) (hb : IntsAt w vb lb E) (hD : DigZ D la) (hE : DigZ E lb) (hla : la ≤ 100000) (hlb : lb ≤ la) (hle : valZ E lb ≤ valZ D la) :
    Calls Try.prog 87 #[va, vb] w (DigPost w la (valZ D la - valZ E lb)) := by
  obtain ⟨a, b, o, cap, rfl, ha, hc⟩ := ha
  obtain ⟨a2, b2, o2, cap2, rfl, ha2, hc2⟩ := hb
  obtain ⟨i0, hi, hz0, hz1, hz2⟩ := info_parts Try.info3
  have HD := Lib.hid hD
  have HE := Lib.hid hE
  have HC := Lib.hid hc
  have HC2 := Lib.hid hc2
  have HLE := Lib.hid hle
  have hO0 := own_zeroT w w.heap.size 3 1 (Nat.le_refl _)
  have hK0 : Kept w (w.alloc (.cells #[] 3)) := (Kept.refl w).alloc _
  have hsz0 : w.heap.size ≤ (w.alloc (.cells #[] 3)).heap.size := by simp
  have hO1 : (w.alloc (.cells #[] 3)).ownsRow w.heap.size 3 1 (.slice (some ⟨w.heap.size, 0, none⟩) 0 0) 0 (ints (fun _ => 0) 0) := hO0
  clear hD hE hc hc2 hO0 hle
  go_enter Try.func87, Try.ntmps87
  go_wp2_with fail
  generalize w.alloc (.cells #[] 3) = W0 at *
  go_loopg [5, 6, 7] la (fun g s5 s6 s7 wr => ∃ (i : Nat) (c : Int) (O : Nat → Int), i ≤ la ∧ g = la - i ∧ s6 = .int .i64 c ∧ s7 = .int .i64 i ∧ 0 ≤ c ∧ c ≤ 1 ∧ Kept w wr ∧ wr.ownsRow w.heap.size 3 1 s5 i (ints O i) ∧ w.heap.size ≤ wr.heap.size ∧ Hid (DigZ O i) ∧ Hid (valZ O i - c * 10000 ^ i = valZ D i - valZ (extZ E lb) i))
  case atStart => exact ⟨0, 0, fun _ => 0, by omega, rfl, rfl, rfl, by omega, by omega, hK0, hO1, hsz0, (fun i h => by omega), (by show valZ _ 0 - _ = _; simp [valZ])⟩
  case round =>
    obtain ⟨i, c, O, hi2, rfl, rfl, rfl, c0, c1, hK, hO, hsz, hG, hV⟩ := hrel
    clear hK0 hO1 hsz0
    obtain ⟨oa, ocap, rfl, _⟩ := own_form hO
    have s0 : (0 : Int) ≤ (i : Int) := by omega
    by_cases hA : i < la
    · obtain rfl := ha (by omega)
      have t1 := hK.cellSome (HC.out i hA)
      have s1 : (i : Int) < (la : Int) := by omega
      have bx := HD.out i hA
      obtain ⟨x, HX⟩ : ∃ x, Hid (x = D i) := ⟨_, rfl⟩
      rw [← HX.out] at t1 bx
      by_cases hB : i < lb
      · by_cases hneg : x - c - (E i) < 0
        · skip
          obtain rfl := ha2 (by omega)
          have t2 := hK.cellSome (HC2.out i hB)
          have s2 : (i : Int) < (lb : Int) := by omega
          have hye : Hid (extZ E lb i = E i) := by show _ = _; unfold extZ; rw [if_pos hB]
          have by' := HE.out i hB
          obtain ⟨y, HY⟩ : ∃ y, Hid (y = E i) := ⟨_, rfl⟩
          rw [← HY.out] at t2 hye by' hneg
          have hst := less_step (P := 10000 ^ i) (a := x) (b := y) (s := (x - c - y + 10000)) (c' := 1) hV.out (by omega)
          have hrb : 0 ≤ (x - c - y + 10000) ∧ (x - c - y + 10000) < 10000 := by omega
          have HST := Lib.hid hst
          have hV2 : Hid (valZ (snI O i (x - c - y + 10000)) (i + 1) - 1 * 10000 ^ (i + 1) = valZ D (i + 1) - valZ (extZ E lb) (i + 1)) := by
            show _ = _
            have g1 : valZ (snI O i (x - c - y + 10000)) i = valZ O i := valZ_congr (fun k hk => by unfold snI; rw [if_neg (by omega)])
            have g2 : snI O i (x - c - y + 10000) i = (x - c - y + 10000) := by unfold snI; rw [if_pos rfl]
            simp only [valZ, g1, g2, hye.out, ← HX.out, pw_succ]
            exact HST.out
          have hG2 : Hid (DigZ (snI O i (x - c - y + 10000)) (i + 1)) := fun k hk => by
            unfold snI
            by_cases e : k = i
            · rw [if_pos e]; exact hrb
            · rw [if_neg e]; exact hG.out k (by omega)
          clear hst hye hV hrb
          go_wp2_with (first | (at_builtin; refine wpList_append_own _ rfl _ _ 27 rfl w.heap.size 3 i0 (.int .i64 0) 1 8 Try.underlying27 hi hz0 hz1 hz2 rfl (by decide) _ _ _ rfl (hO.alloc _) ⟨wr.heap.size, 0, none⟩ 1 1 [.int .i64 (x - c - y + 10000)] rfl rfl (news_one _ _ _) ?c2 ?c3 ?c4 ?c5 ?_))
          case c2 => simp [Value.oneCell']
          case c3 => unfold maxLen; omega
          case c4 => omega
          case c5 => first | omega | (simp; omega)
          intro v' w2 hO3 hgr _
          have hX2 := grew_X hgr (hO.alloc (.cells #[.int .i64 (x - c - y + 10000)] 3))
          have hK2 : Kept w w2 := (hK.alloc _).step hX2 (fun i hi => hi)
          have hs2 : w.heap.size ≤ w2.heap.size := Kept.size hK2
          have hO4 : w2.ownsRow w.heap.size 3 1 v' (i + 1) (ints (snI O i (x - c - y + 10000)) (i + 1)) := by rw [ints_sn]; exact hO3
          clear hO3 hX2 hgr hK hO hsz HST
          go_wp2_with fail
          go_roundg (la - (i + 1))
          case measure => omega
          case rel => exact ⟨i + 1, 1, snI O i (x - c - y + 10000), by omega, rfl, rfl, by go_num, by omega, by omega, hK2, hO4, hs2, hG2.out, hV2.out⟩
        · skip
          obtain rfl := ha2 (by omega)
          have t2 := hK.cellSome (HC2.out i hB)
          have s2 : (i : Int) < (lb : Int) := by omega
          have hye : Hid (extZ E lb i = E i) := by show _ = _; unfold extZ; rw [if_pos hB]
          have by' := HE.out i hB
          obtain ⟨y, HY⟩ : ∃ y, Hid (y = E i) := ⟨_, rfl⟩
          rw [← HY.out] at t2 hye by' hneg
          have hst := less_step (P := 10000 ^ i) (a := x) (b := y) (s := (x - c - y)) (c' := 0) hV.out (by omega)
          have hrb : 0 ≤ (x - c - y) ∧ (x - c - y) < 10000 := by omega
          have HST := Lib.hid hst
          have hV2 : Hid (valZ (snI O i (x - c - y)) (i + 1) - 0 * 10000 ^ (i + 1) = valZ D (i + 1) - valZ (extZ E lb) (i + 1)) := by
            show _ = _
            have g1 : valZ (snI O i (x - c - y)) i = valZ O i := valZ_congr (fun k hk => by unfold snI; rw [if_neg (by omega)])
            have g2 : snI O i (x - c - y) i = (x - c - y) := by unfold snI; rw [if_pos rfl]
            simp only [valZ, g1, g2, hye.out, ← HX.out, pw_succ]
            exact HST.out
          have hG2 : Hid (DigZ (snI O i (x - c - y)) (i + 1)) := fun k hk => by
            unfold snI
            by_cases e : k = i
            · rw [if_pos e]; exact hrb
            · rw [if_neg e]; exact hG.out k (by omega)
          clear hst hye hV hrb
          go_wp2_with (first | (at_builtin; refine wpList_append_own _ rfl _ _ 27 rfl w.heap.size 3 i0 (.int .i64 0) 1 8 Try.underlying27 hi hz0 hz1 hz2 rfl (by decide) _ _ _ rfl (hO.alloc _) ⟨wr.heap.size, 0, none⟩ 1 1 [.int .i64 (x - c - y)] rfl rfl (news_one _ _ _) ?c2 ?c3 ?c4 ?c5 ?_))
          case c2 => simp [Value.oneCell']
          case c3 => unfold maxLen; omega
          case c4 => omega
          case c5 => first | omega | (simp; omega)
          intro v' w2 hO3 hgr _
          have hX2 := grew_X hgr (hO.alloc (.cells #[.int .i64 (x - c - y)] 3))
          have hK2 : Kept w w2 := (hK.alloc _).step hX2 (fun i hi => hi)
          have hs2 : w.heap.size ≤ w2.heap.size := Kept.size hK2
          have hO4 : w2.ownsRow w.heap.size 3 1 v' (i + 1) (ints (snI O i (x - c - y)) (i + 1)) := by rw [ints_sn]; exact hO3
          clear hO3 hX2 hgr hK hO hsz HST
          go_wp2_with fail
          go_roundg (la - (i + 1))
          case measure => omega
          case rel => exact ⟨i + 1, 0, snI O i (x - c - y), by omega, rfl, rfl, by go_num, by omega, by omega, hK2, hO4, hs2, hG2.out, hV2.out⟩
      · by_cases hneg : x - c < 0
        · skip
          have s2 : ¬ (i : Int) < (lb : Int) := by omega
          have hye : Hid (extZ E lb i = 0) := by show _ = _; unfold extZ; rw [if_neg hB]
          have hst := less_step (P := 10000 ^ i) (a := x) (b := 0) (s := (x - c + 10000)) (c' := 1) hV.out (by omega)
          have hrb : 0 ≤ (x - c + 10000) ∧ (x - c + 10000) < 10000 := by omega
          have HST := Lib.hid hst
          have hV2 : Hid (valZ (snI O i (x - c + 10000)) (i + 1) - 1 * 10000 ^ (i + 1) = valZ D (i + 1) - valZ (extZ E lb) (i + 1)) := by
            show _ = _
            have g1 : valZ (snI O i (x - c + 10000)) i = valZ O i := valZ_congr (fun k hk => by unfold snI; rw [if_neg (by omega)])
            have g2 : snI O i (x - c + 10000) i = (x - c + 10000) := by unfold snI; rw [if_pos rfl]
            simp only [valZ, g1, g2, hye.out, ← HX.out, pw_succ]
            exact HST.out
          have hG2 : Hid (DigZ (snI O i (x - c + 10000)) (i + 1)) := fun k hk => by
            unfold snI
            by_cases e : k = i
            · rw [if_pos e]; exact hrb
            · rw [if_neg e]; exact hG.out k (by omega)
          clear hst hye hV hrb
          go_wp2_with (first | (at_builtin; refine wpList_append_own _ rfl _ _ 27 rfl w.heap.size 3 i0 (.int .i64 0) 1 8 Try.underlying27 hi hz0 hz1 hz2 rfl (by decide) _ _ _ rfl (hO.alloc _) ⟨wr.heap.size, 0, none⟩ 1 1 [.int .i64 (x - c + 10000)] rfl rfl (news_one _ _ _) ?c2 ?c3 ?c4 ?c5 ?_))
          case c2 => simp [Value.oneCell']
          case c3 => unfold maxLen; omega
          case c4 => omega
          case c5 => first | omega | (simp; omega)
          intro v' w2 hO3 hgr _
          have hX2 := grew_X hgr (hO.alloc (.cells #[.int .i64 (x - c + 10000)] 3))
          have hK2 : Kept w w2 := (hK.alloc _).step hX2 (fun i hi => hi)
          have hs2 : w.heap.size ≤ w2.heap.size := Kept.size hK2
          have hO4 : w2.ownsRow w.heap.size 3 1 v' (i + 1) (ints (snI O i (x - c + 10000)) (i + 1)) := by rw [ints_sn]; exact hO3
          clear hO3 hX2 hgr hK hO hsz HST
          go_wp2_with fail
          go_roundg (la - (i + 1))
          case measure => omega
          case rel => exact ⟨i + 1, 1, snI O i (x - c + 10000), by omega, rfl, rfl, by go_num, by omega, by omega, hK2, hO4, hs2, hG2.out, hV2.out⟩
        · skip
          have s2 : ¬ (i : Int) < (lb : Int) := by omega
          have hye : Hid (extZ E lb i = 0) := by show _ = _; unfold extZ; rw [if_neg hB]
          have hst := less_step (P := 10000 ^ i) (a := x) (b := 0) (s := (x - c)) (c' := 0) hV.out (by omega)
          have hrb : 0 ≤ (x - c) ∧ (x - c) < 10000 := by omega
          have HST := Lib.hid hst
          have hV2 : Hid (valZ (snI O i (x - c)) (i + 1) - 0 * 10000 ^ (i + 1) = valZ D (i + 1) - valZ (extZ E lb) (i + 1)) := by
            show _ = _
            have g1 : valZ (snI O i (x - c)) i = valZ O i := valZ_congr (fun k hk => by unfold snI; rw [if_neg (by omega)])
            have g2 : snI O i (x - c) i = (x - c) := by unfold snI; rw [if_pos rfl]
            simp only [valZ, g1, g2, hye.out, ← HX.out, pw_succ]
            exact HST.out
          have hG2 : Hid (DigZ (snI O i (x - c)) (i + 1)) := fun k hk => by
            unfold snI
            by_cases e : k = i
            · rw [if_pos e]; exact hrb
            · rw [if_neg e]; exact hG.out k (by omega)
          clear hst hye hV hrb
          go_wp2_with (first | (at_builtin; refine wpList_append_own _ rfl _ _ 27 rfl w.heap.size 3 i0 (.int .i64 0) 1 8 Try.underlying27 hi hz0 hz1 hz2 rfl (by decide) _ _ _ rfl (hO.alloc _) ⟨wr.heap.size, 0, none⟩ 1 1 [.int .i64 (x - c)] rfl rfl (news_one _ _ _) ?c2 ?c3 ?c4 ?c5 ?_))
          case c2 => simp [Value.oneCell']
          case c3 => unfold maxLen; omega
          case c4 => omega
          case c5 => first | omega | (simp; omega)
          intro v' w2 hO3 hgr _
          have hX2 := grew_X hgr (hO.alloc (.cells #[.int .i64 (x - c)] 3))
          have hK2 : Kept w w2 := (hK.alloc _).step hX2 (fun i hi => hi)
          have hs2 : w.heap.size ≤ w2.heap.size := Kept.size hK2
          have hO4 : w2.ownsRow w.heap.size 3 1 v' (i + 1) (ints (snI O i (x - c)) (i + 1)) := by rw [ints_sn]; exact hO3
          clear hO3 hX2 hgr hK hO hsz HST
          go_wp2_with fail
          go_roundg (la - (i + 1))
          case measure => omega
          case rel => exact ⟨i + 1, 0, snI O i (x - c), by omega, rfl, rfl, by go_num, by omega, by omega, hK2, hO4, hs2, hG2.out, hV2.out⟩
    · obtain rfl : i = la := by omega
      have s1 : ¬ (i : Int) < (i : Int) := by omega
      have hval : Hid (valZ O i = valZ D i - valZ E lb) := by
        have h1 := hV.out
        rw [extZ_le (by omega)] at h1
        have h2 := valZ_bd hG.out
        have h3 := HLE.out
        have h4 : c = 0 := by
          rcases (show c = 0 ∨ c = 1 by omega) with e | e
          · exact e
          · rw [e, Int.one_mul] at h1; omega
        rw [h4, Int.zero_mul] at h1
        show _ = _
        omega
      go_wp2_with fail
      go_ret
      exact ⟨_, i, O, rfl, hO, hG.out, hval.out, Nat.le_refl _, hK⟩
end Go.Proofs.Ytomnjcjipdnnfaa
