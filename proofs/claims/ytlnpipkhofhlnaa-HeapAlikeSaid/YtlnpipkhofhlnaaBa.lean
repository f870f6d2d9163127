/-
  The laws' bars: heaps out of arbitrary numbers.
-/
import Derived.Test.YtlnpipkhofhlnaaMd
namespace Go.Proofs.Ytlnpipkhofhlnaa
open Go.RowKit Go.Deep

def barF (q : Nat) (Z : Nat → Nat) : Nat → Int := fun i => if i < q then (Z i : Int) else 0
theorem barF_bd {q : Nat} {Z : Nat → Nat} (h : ∀ i, Z i < 256) (i : Nat) : 0 ≤ barF q Z i ∧ barF q Z i ≤ 255 := by
  unfold barF
  have := h i
  split <;> omega
def BarsPost (w : World) (N : Nat) (f : Nat → Int) (e : Ending) (w' : World) : Prop := ∃ a cap, e = .returned (.slice a N cap) ∧ IntsAt w' (.slice a N cap) N f ∧ Kept w w'
set_option maxRecDepth 100000 in
set_option maxHeartbeats 4000000 in
theorem bars_any (w : World) (za : Option Addr) (q qcap N : Nat) (Z : Nat → Nat) (hz : BytesAt w (.slice za q qcap) q Z) (hZ : ∀ i, Z i < 256) (hq : q ≤ maxLen) (hN : N ≤ 100) :
    Calls Try.prog 27 #[.int .i64 ((N : Int) + 1), .slice za q qcap] w (BarsPost w N (barF q Z)) := by
  obtain ⟨za', zb, zo, zcap, e, hza, hzc⟩ := hz
  cases e
  unfold maxLen at hq
  obtain ⟨i0, hi, hz0, hz1, hz2⟩ := info_parts Try.info3
  have hO0 := own_zero w w.heap.size (Nat.le_refl _)
  have hK0 : Kept w (w.alloc (.cells #[] 3)) := (Kept.refl w).alloc _
  have HZC := Lib.hid hzc
  have HZ := Lib.hid hZ
  clear hzc hZ
  go_enter Try.func27, Try.ntmps27
  go_wp2_with fail
  have hsz0 : w.heap.size ≤ (w.alloc (.cells #[] 3)).heap.size := by simp
  have hO1 : (w.alloc (.cells #[] 3)).ownsRow w.heap.size 3 1 (.slice (some ⟨w.heap.size, 0, none⟩) 0 0) 0 (ints (barF q Z) 0) := hO0
  clear hO0
  generalize w.alloc (.cells #[] 3) = W0 at *
  go_loopg [5, 6] N (fun g lv s6 wr => ∃ t : Nat, t ≤ N ∧ g = N - t ∧ s6 = .int .i64 ((t : Int) + 1) ∧ Kept w wr ∧ wr.ownsRow w.heap.size 3 1 lv t (ints (barF q Z) t) ∧ w.heap.size ≤ wr.heap.size)
  case atStart => exact ⟨0, by omega, by omega, rfl, hK0, hO1, hsz0⟩
  case round =>
    obtain ⟨t, htN, rfl, rfl, hK, hO, hsz⟩ := hrel
    clear hK0 hO1 hsz0
    obtain ⟨oa, ocap, rfl⟩ := own_shape hO
    have s3 : (0 : Int) ≤ (t : Int) := by omega
    by_cases hlt : t < N
    · by_cases htq : t < q
      · obtain rfl := hza (by omega)
        have t1 := hK.cellSome (HZC.out t htq)
        have b1 := HZ.out t
        have s4 : (t : Int) < (q : Int) := by omega
        have hbf : barF q Z t = (Z t : Int) := if_pos htq
        obtain ⟨zz, HZZ⟩ : ∃ zz, Hid (zz = Z t) := ⟨_, rfl⟩
        rw [← HZZ.out] at t1 b1
        have HBF : Hid (barF q Z t = (zz : Int)) := by rw [HZZ.out]; exact hbf
        clear hbf
        go_wp2_with (first | (at_builtin; refine wpList_append_own _ rfl _ _ 25 rfl w.heap.size 3 i0 (.int .i64 0) 1 8 Try.underlying25 hi hz0 hz1 hz2 rfl (by decide) _ _ _ rfl (hO.alloc _) ⟨wr.heap.size, 0, none⟩ 1 1 [.int .i64 zz] rfl rfl ?c1 ?c2 ?c3 ?c4 ?c5 ?_))
        case c2 => simp [Value.oneCell']
        case c3 => unfold maxLen; omega
        case c4 => omega
        case c5 => first | omega | (simp; omega)
        intro v' w2 hO3 hgr _
        have hX2 := grew_X hgr (hO.alloc (.cells #[.int .i64 zz] 3))
        have hK2 : Kept w w2 := (hK.alloc _).step hX2 (fun i hi => hi)
        have hs2 : w.heap.size ≤ w2.heap.size := Kept.size hK2
        have hO4 : w2.ownsRow w.heap.size 3 1 v' (t + 1) (ints (barF q Z) (t + 1)) := by
          rw [show ints (barF q Z) (t + 1) = ints (barF q Z) t ++ [.int .i64 zz] by simp [ints, List.range_succ, HBF.out]]; exact hO3
        clear hO3 hX2 hgr hK hO hsz
        go_wp2_with fail
        go_roundg (N - (t + 1))
        case measure => omega
        case rel => exact ⟨t + 1, by omega, rfl, by go_num, hK2, hO4, hs2⟩
      · have s4 : ¬ (t : Int) < (q : Int) := by omega
        have HBF : Hid (barF q Z t = 0) := by show _ = _; exact if_neg htq
        go_wp2_with (first | (at_builtin; refine wpList_append_own _ rfl _ _ 25 rfl w.heap.size 3 i0 (.int .i64 0) 1 8 Try.underlying25 hi hz0 hz1 hz2 rfl (by decide) _ _ _ rfl (hO.alloc _) ⟨wr.heap.size, 0, none⟩ 1 1 [.int .i64 0] rfl rfl ?d1 ?d2 ?d3 ?d4 ?d5 ?_))
        case d2 => simp [Value.oneCell']
        case d3 => unfold maxLen; omega
        case d4 => omega
        case d5 => first | omega | (simp; omega)
        intro v' w2 hO3 hgr _
        have hX2 := grew_X hgr (hO.alloc (.cells #[.int .i64 0] 3))
        have hK2 : Kept w w2 := (hK.alloc _).step hX2 (fun i hi => hi)
        have hs2 : w.heap.size ≤ w2.heap.size := Kept.size hK2
        have hO4 : w2.ownsRow w.heap.size 3 1 v' (t + 1) (ints (barF q Z) (t + 1)) := by
          rw [show ints (barF q Z) (t + 1) = ints (barF q Z) t ++ [.int .i64 0] by simp [ints, List.range_succ, HBF.out]]; exact hO3
        clear hO3 hX2 hgr hK hO hsz
        go_wp2_with fail
        go_roundg (N - (t + 1))
        case measure => omega
        case rel => exact ⟨t + 1, by omega, rfl, by go_num, hK2, hO4, hs2⟩
    · obtain rfl : t = N := by omega
      go_wp2_with fail
      go_ret
      exact ⟨oa, ocap, rfl, ints_at hO, hK⟩
end Go.Proofs.Ytlnpipkhofhlnaa
