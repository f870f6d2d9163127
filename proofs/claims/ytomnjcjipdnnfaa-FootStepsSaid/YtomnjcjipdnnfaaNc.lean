/-
  The reference's numbers of any size: plus and less.
-/
import Derived.Test.YtomnjcjipdnnfaaNb
namespace Go.Proofs.Ytomnjcjipdnnfaa
open Go.RowKit Go.Deep

def DigPost (w : World) (most : Nat) (x : Int) (e : Ending) (w' : World) : Prop := ∃ v n O, e = .returned v ∧ w'.ownsRow w.heap.size 3 1 v n (ints O n) ∧ DigZ O n ∧ valZ O n = x ∧ n ≤ most ∧ Kept w w'
set_option maxRecDepth 100000 in
set_option maxHeartbeats 4000000 in
theorem plus_any (w : World) (va vb : Value) (la lb : Nat) (D E : Nat → Int) (ha : IntsAt w va la D) (hb : IntsAt w vb lb E) (hD : DigZ D la) (hE : DigZ E lb) (hla : la ≤ 100000) (hlb : lb ≤ 100000) :
    Calls Try.prog 85 #[va, vb] w (DigPost w (max la lb + 1) (valZ D la + valZ E lb)) := by
  obtain ⟨a, b, o, cap, rfl, ha, hc⟩ := ha
  obtain ⟨a2, b2, o2, cap2, rfl, ha2, hc2⟩ := hb
  obtain ⟨i0, hi, hz0, hz1, hz2⟩ := info_parts Try.info3
  have HD := Lib.hid hD
  have HE := Lib.hid hE
  have HC := Lib.hid hc
  have HC2 := Lib.hid hc2
  have hO0 := own_zeroT w w.heap.size 3 1 (Nat.le_refl _)
  have hK0 : Kept w (w.alloc (.cells #[] 3)) := (Kept.refl w).alloc _
  have hsz0 : w.heap.size ≤ (w.alloc (.cells #[] 3)).heap.size := by simp
  have hO1 : (w.alloc (.cells #[] 3)).ownsRow w.heap.size 3 1 (.slice (some ⟨w.heap.size, 0, none⟩) 0 0) 0 (ints (fun _ => 0) 0) := hO0
  clear hD hE hc hc2 hO0
  go_enter Try.func85, Try.ntmps85
  go_wp2_with fail
  generalize w.alloc (.cells #[] 3) = W0 at *
  go_loopg [5, 6, 7] (max la lb + 1) (fun g s5 s6 s7 wr => ∃ (i : Nat) (c : Int) (O : Nat → Int), i ≤ max la lb + 1 ∧ g = max la lb + 1 - i ∧ s6 = .int .i64 c ∧ s7 = .int .i64 i ∧ 0 ≤ c ∧ c ≤ 1 ∧ Kept w wr ∧ wr.ownsRow w.heap.size 3 1 s5 i (ints O i) ∧ w.heap.size ≤ wr.heap.size ∧ Hid (DigZ O i) ∧ Hid (valZ O i + c * 10000 ^ i = valZ (extZ D la) i + valZ (extZ E lb) i) ∧ Hid (i ≤ max la lb ∨ c = 0))
  case atStart => exact ⟨0, 0, fun _ => 0, by omega, rfl, rfl, rfl, by omega, by omega, hK0, hO1, hsz0, (fun i h => by omega), (by show valZ _ 0 + _ = _; simp [valZ]), Or.inl (by omega)⟩
  case round =>
    obtain ⟨i, c, O, hi2, rfl, rfl, rfl, c0, c1, hK, hO, hsz, hG, hV, hE2⟩ := hrel
    clear hK0 hO1 hsz0
    obtain ⟨oa, ocap, rfl, _⟩ := own_form hO
    have s0 : (0 : Int) ≤ (i : Int) := by omega
    by_cases hA : i < la
    · by_cases hB : i < lb
      · skip
        obtain rfl := ha (by omega)
        have t1 := hK.cellSome (HC.out i hA)
        obtain rfl := ha2 (by omega)
        have t2 := hK.cellSome (HC2.out i hB)
        have s1 : (i : Int) < (la : Int) := by omega
        have s2 : (i : Int) < (lb : Int) := by omega
        have hxe : Hid (extZ D la i = D i) := by show _ = _; unfold extZ; rw [if_pos hA]
        have hye : Hid (extZ E lb i = E i) := by show _ = _; unfold extZ; rw [if_pos hB]
        have bx : 0 ≤ D i ∧ D i < 10000 := HD.out i hA
        have by' : 0 ≤ E i ∧ E i < 10000 := HE.out i hB
        obtain ⟨x, HX⟩ : ∃ x, Hid (x = D i) := ⟨_, rfl⟩
        rw [← HX.out] at t1 hxe bx
        obtain ⟨y, HY⟩ : ∃ y, Hid (y = E i) := ⟨_, rfl⟩
        rw [← HY.out] at t2 hye by'
        have hst := plus_step (P := 10000 ^ i) (s := c + x + y) (a := x) (b := y) hV.out (by omega)
        have hqb : 0 ≤ (c + x + y) / 10000 ∧ (c + x + y) / 10000 ≤ 1 := by omega
        have hrb : 0 ≤ (c + x + y) % 10000 ∧ (c + x + y) % 10000 < 10000 := by omega
        have h01 : True := by trivial
        have e1 : Int.tmod (c + x + y) 10000 = (c + x + y) % 10000 := Int.tmod_eq_emod_of_nonneg (by omega)
        have e2 : Int.tdiv (c + x + y) 10000 = (c + x + y) / 10000 := Int.tdiv_eq_ediv_of_nonneg (by omega)
        generalize (c + x + y) % 10000 = R at *
        generalize (c + x + y) / 10000 = Q at *
        have HST := Lib.hid hst
        have H01 := Lib.hid h01
        have hV2 : Hid (valZ (snI O i R) (i + 1) + Q * 10000 ^ (i + 1) = valZ (extZ D la) (i + 1) + valZ (extZ E lb) (i + 1)) := by
          show _ = _
          have g1 : valZ (snI O i R) i = valZ O i := valZ_congr (fun k hk => by unfold snI; rw [if_neg (by omega)])
          have g2 : snI O i R i = R := by unfold snI; rw [if_pos rfl]
          simp only [valZ, g1, g2, hxe.out, hye.out, pw_succ]
          exact HST.out
        have hG2 : Hid (DigZ (snI O i R) (i + 1)) := fun k hk => by
          unfold snI
          by_cases e : k = i
          · rw [if_pos e]; exact hrb
          · rw [if_neg e]; exact hG.out k (by omega)
        clear hst h01 hxe hye hV
        go_wp2_with (first | (at_builtin; refine wpList_append_own _ rfl _ _ 27 rfl w.heap.size 3 i0 (.int .i64 0) 1 8 Try.underlying27 hi hz0 hz1 hz2 rfl (by decide) _ _ _ rfl (hO.alloc _) ⟨wr.heap.size, 0, none⟩ 1 1 [.int .i64 R] rfl rfl (news_one _ _ _) ?c2 ?c3 ?c4 ?c5 ?_))
        case c2 => simp [Value.oneCell']
        case c3 => unfold maxLen; omega
        case c4 => omega
        case c5 => first | omega | (simp; omega)
        intro v' w2 hO3 hgr _
        have hX2 := grew_X hgr (hO.alloc (.cells #[.int .i64 R] 3))
        have hK2 : Kept w w2 := (hK.alloc _).step hX2 (fun i hi => hi)
        have hs2 : w.heap.size ≤ w2.heap.size := Kept.size hK2
        have hO4 : w2.ownsRow w.heap.size 3 1 v' (i + 1) (ints (snI O i R) (i + 1)) := by rw [ints_sn]; exact hO3
        have hend : Hid (i + 1 ≤ max la lb ∨ Q = 0) := Or.inl (by omega)
        clear hO3 hX2 hgr hK hO hsz HST H01
        go_wp2_with fail
        go_roundg (max la lb + 1 - (i + 1))
        case measure => omega
        case rel => exact ⟨i + 1, Q, snI O i R, by omega, rfl, rfl, by go_num, hqb.1, hqb.2, hK2, hO4, hs2, hG2.out, hV2.out, hend.out⟩
      · skip
        obtain rfl := ha (by omega)
        have t1 := hK.cellSome (HC.out i hA)
        have s1 : (i : Int) < (la : Int) := by omega
        have s2 : ¬ (i : Int) < (lb : Int) := by omega
        have hxe : Hid (extZ D la i = D i) := by show _ = _; unfold extZ; rw [if_pos hA]
        have hye : Hid (extZ E lb i = 0) := by show _ = _; unfold extZ; rw [if_neg hB]
        have bx : 0 ≤ D i ∧ D i < 10000 := HD.out i hA
        have by' : 0 ≤ (0 : Int) ∧ (0 : Int) < 10000 := ⟨by omega, by omega⟩
        obtain ⟨x, HX⟩ : ∃ x, Hid (x = D i) := ⟨_, rfl⟩
        rw [← HX.out] at t1 hxe bx
        have hst := plus_step (P := 10000 ^ i) (s := c + x) (a := x) (b := 0) hV.out (by omega)
        have hqb : 0 ≤ (c + x) / 10000 ∧ (c + x) / 10000 ≤ 1 := by omega
        have hrb : 0 ≤ (c + x) % 10000 ∧ (c + x) % 10000 < 10000 := by omega
        have h01 : True := by trivial
        have e1 : Int.tmod (c + x) 10000 = (c + x) % 10000 := Int.tmod_eq_emod_of_nonneg (by omega)
        have e2 : Int.tdiv (c + x) 10000 = (c + x) / 10000 := Int.tdiv_eq_ediv_of_nonneg (by omega)
        generalize (c + x) % 10000 = R at *
        generalize (c + x) / 10000 = Q at *
        have HST := Lib.hid hst
        have H01 := Lib.hid h01
        have hV2 : Hid (valZ (snI O i R) (i + 1) + Q * 10000 ^ (i + 1) = valZ (extZ D la) (i + 1) + valZ (extZ E lb) (i + 1)) := by
          show _ = _
          have g1 : valZ (snI O i R) i = valZ O i := valZ_congr (fun k hk => by unfold snI; rw [if_neg (by omega)])
          have g2 : snI O i R i = R := by unfold snI; rw [if_pos rfl]
          simp only [valZ, g1, g2, hxe.out, hye.out, pw_succ]
          exact HST.out
        have hG2 : Hid (DigZ (snI O i R) (i + 1)) := fun k hk => by
          unfold snI
          by_cases e : k = i
          · rw [if_pos e]; exact hrb
          · rw [if_neg e]; exact hG.out k (by omega)
        clear hst h01 hxe hye hV
        go_wp2_with (first | (at_builtin; refine wpList_append_own _ rfl _ _ 27 rfl w.heap.size 3 i0 (.int .i64 0) 1 8 Try.underlying27 hi hz0 hz1 hz2 rfl (by decide) _ _ _ rfl (hO.alloc _) ⟨wr.heap.size, 0, none⟩ 1 1 [.int .i64 R] rfl rfl (news_one _ _ _) ?c2 ?c3 ?c4 ?c5 ?_))
        case c2 => simp [Value.oneCell']
        case c3 => unfold maxLen; omega
        case c4 => omega
        case c5 => first | omega | (simp; omega)
        intro v' w2 hO3 hgr _
        have hX2 := grew_X hgr (hO.alloc (.cells #[.int .i64 R] 3))
        have hK2 : Kept w w2 := (hK.alloc _).step hX2 (fun i hi => hi)
        have hs2 : w.heap.size ≤ w2.heap.size := Kept.size hK2
        have hO4 : w2.ownsRow w.heap.size 3 1 v' (i + 1) (ints (snI O i R) (i + 1)) := by rw [ints_sn]; exact hO3
        have hend : Hid (i + 1 ≤ max la lb ∨ Q = 0) := Or.inl (by omega)
        clear hO3 hX2 hgr hK hO hsz HST H01
        go_wp2_with fail
        go_roundg (max la lb + 1 - (i + 1))
        case measure => omega
        case rel => exact ⟨i + 1, Q, snI O i R, by omega, rfl, rfl, by go_num, hqb.1, hqb.2, hK2, hO4, hs2, hG2.out, hV2.out, hend.out⟩
    · by_cases hB : i < lb
      · skip
        obtain rfl := ha2 (by omega)
        have t2 := hK.cellSome (HC2.out i hB)
        have s1 : ¬ (i : Int) < (la : Int) := by omega
        have s2 : (i : Int) < (lb : Int) := by omega
        have hxe : Hid (extZ D la i = 0) := by show _ = _; unfold extZ; rw [if_neg hA]
        have hye : Hid (extZ E lb i = E i) := by show _ = _; unfold extZ; rw [if_pos hB]
        have bx : 0 ≤ (0 : Int) ∧ (0 : Int) < 10000 := ⟨by omega, by omega⟩
        have by' : 0 ≤ E i ∧ E i < 10000 := HE.out i hB
        obtain ⟨y, HY⟩ : ∃ y, Hid (y = E i) := ⟨_, rfl⟩
        rw [← HY.out] at t2 hye by'
        have hst := plus_step (P := 10000 ^ i) (s := c + y) (a := 0) (b := y) hV.out (by omega)
        have hqb : 0 ≤ (c + y) / 10000 ∧ (c + y) / 10000 ≤ 1 := by omega
        have hrb : 0 ≤ (c + y) % 10000 ∧ (c + y) % 10000 < 10000 := by omega
        have h01 : True := by trivial
        have e1 : Int.tmod (c + y) 10000 = (c + y) % 10000 := Int.tmod_eq_emod_of_nonneg (by omega)
        have e2 : Int.tdiv (c + y) 10000 = (c + y) / 10000 := Int.tdiv_eq_ediv_of_nonneg (by omega)
        generalize (c + y) % 10000 = R at *
        generalize (c + y) / 10000 = Q at *
        have HST := Lib.hid hst
        have H01 := Lib.hid h01
        have hV2 : Hid (valZ (snI O i R) (i + 1) + Q * 10000 ^ (i + 1) = valZ (extZ D la) (i + 1) + valZ (extZ E lb) (i + 1)) := by
          show _ = _
          have g1 : valZ (snI O i R) i = valZ O i := valZ_congr (fun k hk => by unfold snI; rw [if_neg (by omega)])
          have g2 : snI O i R i = R := by unfold snI; rw [if_pos rfl]
          simp only [valZ, g1, g2, hxe.out, hye.out, pw_succ]
          exact HST.out
        have hG2 : Hid (DigZ (snI O i R) (i + 1)) := fun k hk => by
          unfold snI
          by_cases e : k = i
          · rw [if_pos e]; exact hrb
          · rw [if_neg e]; exact hG.out k (by omega)
        clear hst h01 hxe hye hV
        go_wp2_with (first | (at_builtin; refine wpList_append_own _ rfl _ _ 27 rfl w.heap.size 3 i0 (.int .i64 0) 1 8 Try.underlying27 hi hz0 hz1 hz2 rfl (by decide) _ _ _ rfl (hO.alloc _) ⟨wr.heap.size, 0, none⟩ 1 1 [.int .i64 R] rfl rfl (news_one _ _ _) ?c2 ?c3 ?c4 ?c5 ?_))
        case c2 => simp [Value.oneCell']
        case c3 => unfold maxLen; omega
        case c4 => omega
        case c5 => first | omega | (simp; omega)
        intro v' w2 hO3 hgr _
        have hX2 := grew_X hgr (hO.alloc (.cells #[.int .i64 R] 3))
        have hK2 : Kept w w2 := (hK.alloc _).step hX2 (fun i hi => hi)
        have hs2 : w.heap.size ≤ w2.heap.size := Kept.size hK2
        have hO4 : w2.ownsRow w.heap.size 3 1 v' (i + 1) (ints (snI O i R) (i + 1)) := by rw [ints_sn]; exact hO3
        have hend : Hid (i + 1 ≤ max la lb ∨ Q = 0) := Or.inl (by omega)
        clear hO3 hX2 hgr hK hO hsz HST H01
        go_wp2_with fail
        go_roundg (max la lb + 1 - (i + 1))
        case measure => omega
        case rel => exact ⟨i + 1, Q, snI O i R, by omega, rfl, rfl, by go_num, hqb.1, hqb.2, hK2, hO4, hs2, hG2.out, hV2.out, hend.out⟩
      · by_cases hc0 : c = 0
        · have hval : Hid (valZ O i = valZ D la + valZ E lb) := by
            have := hV.out
            rw [extZ_le (by omega), extZ_le (by omega), hc0] at this
            show _ = _
            omega
          have s1 : ¬ (i : Int) < (la : Int) := by omega
          have s2 : ¬ (i : Int) < (lb : Int) := by omega
          have s3 : ¬ (0 : Int) < c := by omega
          go_wp2_with fail
          go_ret
          exact ⟨_, i, O, rfl, hO, hG.out, hval.out, hi2, hK⟩
        · have hi3 : i ≤ max la lb := by rcases hE2.out with h | h; exact h; omega
          have s1 : ¬ (i : Int) < (la : Int) := by omega
          have s2 : ¬ (i : Int) < (lb : Int) := by omega
          have hxe : Hid (extZ D la i = 0) := by show _ = _; unfold extZ; rw [if_neg hA]
          have hye : Hid (extZ E lb i = 0) := by show _ = _; unfold extZ; rw [if_neg hB]
          have bx : 0 ≤ (0 : Int) ∧ (0 : Int) < 10000 := ⟨by omega, by omega⟩
          have by' : 0 ≤ (0 : Int) ∧ (0 : Int) < 10000 := ⟨by omega, by omega⟩
          have hst := plus_step (P := 10000 ^ i) (s := c) (a := 0) (b := 0) hV.out (by omega)
          have hqb : 0 ≤ (c) / 10000 ∧ (c) / 10000 ≤ 1 := by omega
          have hrb : 0 ≤ (c) % 10000 ∧ (c) % 10000 < 10000 := by omega
          have h01 : (c) / 10000 = 0 := by omega
          have e1 : Int.tmod (c) 10000 = (c) % 10000 := Int.tmod_eq_emod_of_nonneg (by omega)
          have e2 : Int.tdiv (c) 10000 = (c) / 10000 := Int.tdiv_eq_ediv_of_nonneg (by omega)
          generalize (c) % 10000 = R at *
          generalize (c) / 10000 = Q at *
          have HST := Lib.hid hst
          have H01 := Lib.hid h01
          have hV2 : Hid (valZ (snI O i R) (i + 1) + Q * 10000 ^ (i + 1) = valZ (extZ D la) (i + 1) + valZ (extZ E lb) (i + 1)) := by
            show _ = _
            have g1 : valZ (snI O i R) i = valZ O i := valZ_congr (fun k hk => by unfold snI; rw [if_neg (by omega)])
            have g2 : snI O i R i = R := by unfold snI; rw [if_pos rfl]
            simp only [valZ, g1, g2, hxe.out, hye.out, pw_succ]
            exact HST.out
          have hG2 : Hid (DigZ (snI O i R) (i + 1)) := fun k hk => by
            unfold snI
            by_cases e : k = i
            · rw [if_pos e]; exact hrb
            · rw [if_neg e]; exact hG.out k (by omega)
          clear hst h01 hxe hye hV
          have s3 : (0 : Int) < c := by omega
          go_wp2_with (first | (at_builtin; refine wpList_append_own _ rfl _ _ 27 rfl w.heap.size 3 i0 (.int .i64 0) 1 8 Try.underlying27 hi hz0 hz1 hz2 rfl (by decide) _ _ _ rfl (hO.alloc _) ⟨wr.heap.size, 0, none⟩ 1 1 [.int .i64 R] rfl rfl (news_one _ _ _) ?c2 ?c3 ?c4 ?c5 ?_))
          case c2 => simp [Value.oneCell']
          case c3 => unfold maxLen; omega
          case c4 => omega
          case c5 => first | omega | (simp; omega)
          intro v' w2 hO3 hgr _
          have hX2 := grew_X hgr (hO.alloc (.cells #[.int .i64 R] 3))
          have hK2 : Kept w w2 := (hK.alloc _).step hX2 (fun i hi => hi)
          have hs2 : w.heap.size ≤ w2.heap.size := Kept.size hK2
          have hO4 : w2.ownsRow w.heap.size 3 1 v' (i + 1) (ints (snI O i R) (i + 1)) := by rw [ints_sn]; exact hO3
          have hend : Hid (i + 1 ≤ max la lb ∨ Q = 0) := Or.inr H01.out
          clear hO3 hX2 hgr hK hO hsz HST H01
          go_wp2_with fail
          go_roundg (max la lb + 1 - (i + 1))
          case measure => omega
          case rel => exact ⟨i + 1, Q, snI O i R, by omega, rfl, rfl, by go_num, hqb.1, hqb.2, hK2, hO4, hs2, hG2.out, hV2.out, hend.out⟩
end Go.Proofs.Ytomnjcjipdnnfaa
