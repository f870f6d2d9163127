/-
  Package gait: pairError, IsGolay, Double; the reference's Minus; the law's cut.
-/
import Derived.Test.YtcgbfhjefepafaaDoorRc
import Derived.Test.YtcgbfhjefepafaaDoorGk
namespace Go.Proofs.YtcgbfhjefepafaaDoor
open Go.RowKit Go.Deep Go.Shelf

def twoS (s t : ByteArray) (i : Nat) : ByteArray := if i = 0 then s else t
theorem strs_two (w : World) (s t : ByteArray) : StrsAt (w.alloc (.cells #[.string s, .string t] 9)) (.slice (some ⟨w.heap.size, 0, none⟩) 2 2) 2 (twoS s t) :=
  ⟨_, w.heap.size, 0, 2, rfl, fun _ => rfl, fun i hi => by
    have h : i = 0 ∨ i = 1 := by omega
    rcases h with rfl | rfl <;> (unfold World.cell?; dsimp only; rw [blk_alloc_new]; rfl)⟩
theorem two_good {s t : ByteArray} (h : rowsC 2 (twoS s t) = 0) : rowC s = 0 ∧ rowC t = 0 := by
  unfold rowsC at h
  split at h
  · split at h
    · rename_i h1 h2
      have a1 := allN_true.1 h1 0 (by omega)
      have a2 := allN_true.1 h1 1 (by omega)
      have b1 := allN_true.1 h2 0 (by omega)
      have b2 := allN_true.1 h2 1 (by omega)
      simp only [twoS, if_true, show ¬ (1 = 0) by omega, if_false, decide_eq_true_eq, okS, Bool.and_eq_true] at a1 a2 b1 b2
      constructor
      · unfold rowC; rw [if_neg (by omega), if_neg (by omega), if_pos b1.2]
      · unfold rowC; rw [if_neg (by omega), if_neg (by omega), if_pos b2.2]
    · cases h
  · cases h
def pairC (s t : ByteArray) : Int := if rowsC 2 (twoS s t) = 0 then (if s.size = t.size then 0 else 2) else rowsC 2 (twoS s t)
theorem rows_two (w : World) (s t : ByteArray) (hs : s.size ≤ 9223372036854775807) (ht : t.size ≤ 9223372036854775807) :
    Calls Tryd.prog 56 #[.slice (some ⟨w.heap.size, 0, none⟩) 2 2] (w.alloc (.cells #[.string s, .string t] 9)) fun e w' => e = .returned (.int .i64 (rowsC 2 (twoS s t))) ∧ Kept w w' :=
  (rowsError_any _ _ 2 (twoS s t) (strs_two w s t) (by omega) (fun i _ => by unfold twoS; split <;> first | exact hs | exact ht)).mono fun e w' h => ⟨h.1, ((Kept.refl w).alloc _).trans h.2⟩
theorem rRow_two (w : World) (s t : ByteArray) :
    Calls Tryd.prog 19 #[.slice (some ⟨w.heap.size, 0, none⟩) 2 2] (w.alloc (.cells #[.string s, .string t] 9)) fun e w' => e = .returned (.int .i64 (rowsC 2 (twoS s t))) ∧ Kept w w' :=
  (Row_any _ _ 2 (twoS s t) (strs_two w s t) (by omega)).mono fun e w' h => ⟨h.1, ((Kept.refl w).alloc _).trans h.2.kept⟩
set_option maxRecDepth 100000 in
set_option maxHeartbeats 4000000 in
theorem pairError_any (w : World) (s t : ByteArray) (hs : s.size ≤ 9223372036854775807) (ht : t.size ≤ 9223372036854775807) :
    Calls Tryd.prog 74 #[.string s, .string t] w fun e w' => e = .returned (.int .i64 (pairC s t)) ∧ Kept w w' := by
  have RE := Lib.hid (rows_two w s t hs ht)
  by_cases h0 : rowsC 2 (twoS s t) = 0
  · rw [h0] at RE
    by_cases h1 : s.size = t.size
    · have e1 : ((s.size : Int) != (t.size : Int)) = false := by simp [h1]
      have hr : Hid (pairC s t = 0) := by show _ = _; unfold pairC; rw [if_pos h0, if_pos h1]
      clear h0 h1
      go_enter Tryd.func74, Tryd.ntmps74
      go_wp2_with (first | (go_at_call 56; refine RE.out.mono ?_; rintro e w1 ⟨rfl, hk1⟩))
      go_ret
      exact ⟨by rw [hr.out]; rfl, hk1⟩
    · have e1 : ((s.size : Int) != (t.size : Int)) = true := by simp; omega
      have hr : Hid (pairC s t = 2) := by show _ = _; unfold pairC; rw [if_pos h0, if_neg h1]
      clear h0 h1
      go_enter Tryd.func74, Tryd.ntmps74
      go_wp2_with (first | (go_at_call 56; refine RE.out.mono ?_; rintro e w1 ⟨rfl, hk1⟩))
      go_ret
      exact ⟨by rw [hr.out]; rfl, hk1⟩
  · have hr : Hid (pairC s t = rowsC 2 (twoS s t)) := by show _ = _; unfold pairC; rw [if_neg h0]
    have e1 : (rowsC 2 (twoS s t) != 0) = true := by simpa using h0
    generalize rowsC 2 (twoS s t) = c at *
    clear h0
    go_enter Tryd.func74, Tryd.ntmps74
    go_wp2_with (first | (go_at_call 56; refine RE.out.mono ?_; rintro e w1 ⟨rfl, hk1⟩))
    go_ret
    exact ⟨by rw [hr.out]; rfl, hk1⟩
theorem pair_good {s t : ByteArray} (h : pairC s t = 0) : rowC s = 0 ∧ rowC t = 0 ∧ s.size = t.size := by
  unfold pairC at h
  split at h
  · split at h
    · rename_i h1 h2; exact ⟨(two_good h1).1, (two_good h1).2, h2⟩
    · cases h
  · contradiction
def IsGAns (w : World) (s t : ByteArray) (e : Ending) (w' : World) : Prop :=
  Kept w w' ∧ if pairC s t = 0 then e = .returned (.tuple #[.bool (golS s t s.size), .int .i64 0]) else e = .returned (.tuple #[.bool false, .int .i64 (pairC s t)])
set_option maxRecDepth 100000 in
set_option maxHeartbeats 4000000 in
theorem IsGolay_any (w : World) (s t : ByteArray) (hs : s.size ≤ 9223372036854775807) (ht : t.size ≤ 9223372036854775807) :
    Calls Tryd.prog 32 #[.string s, .string t] w (IsGAns w s t) := by
  have RE := Lib.hid (fun W => pairError_any W s t hs ht)
  unfold IsGAns
  by_cases h0 : pairC s t = 0
  · obtain ⟨g1, g2, g3⟩ := pair_good h0
    have g4 := rowC_good g1
    have IG := Lib.hid (fun W => isGolay_any W s t s.size rfl g3.symm g4.1 (by omega))
    simp only [h0, if_true] at RE ⊢
    generalize golS s t s.size = b at *
    clear h0 g1 g2 g3 g4
    go_enter Tryd.func32, Tryd.ntmps32
    go_wp2_with (first | (go_at_call 74; refine (RE.out _).mono ?_; rintro e w1 ⟨rfl, hk1⟩) | (go_at_call 73; refine (IG.out _).mono ?_; rintro e w2 ⟨rfl, hk2⟩))
    go_ret2
    exact ⟨hk1.trans hk2, rfl⟩
  · simp only [if_neg h0]
    have e1 : (pairC s t != 0) = true := by simpa using h0
    generalize pairC s t = c at *
    clear h0
    go_enter Tryd.func32, Tryd.ntmps32
    go_wp2_with (first | (go_at_call 74; refine (RE.out _).mono ?_; rintro e w1 ⟨rfl, hk1⟩))
    go_ret2
    exact ⟨hk1, rfl⟩
def minS (t : ByteArray) : ByteArray := rowS t.size (fun i => chr t i == 43)
def DoubAns (w : World) (s t : ByteArray) (e : Ending) (w' : World) : Prop :=
  Kept w w' ∧ if 32 < s.size then e = .returned (.tuple #[.string ⟨#[]⟩, .string ⟨#[]⟩, .int .i64 3]) else if pairC s t = 0 then e = .returned (.tuple #[.string (s ++ t), .string (s ++ minS t), .int .i64 0]) else e = .returned (.tuple #[.string ⟨#[]⟩, .string ⟨#[]⟩, .int .i64 (pairC s t)])
set_option maxRecDepth 100000 in
set_option maxHeartbeats 4000000 in
theorem Double_any (w : World) (s t : ByteArray) (hs : s.size ≤ 9223372036854775807) (ht : t.size ≤ 9223372036854775807) :
    Calls Tryd.prog 33 #[.string s, .string t] w (DoubAns w s t) := by
  have RE := Lib.hid (fun W => pairError_any W s t hs ht)
  unfold DoubAns
  by_cases h2 : 32 < s.size
  · simp only [if_pos h2]
    have s1 : (s.size : Int) > 32 := by omega
    go_enter Tryd.func33, Tryd.ntmps33
    go_wp2_with fail
    go_ret3
    exact ⟨Kept.refl _, rfl⟩
  · simp only [if_neg h2]
    have s1 : ¬ (s.size : Int) > 32 := by omega
    by_cases h0 : pairC s t = 0
    · obtain ⟨g1, g2, g3⟩ := pair_good h0
      have g4 := rowC_good g1
      have CH := Lib.hid (fun W => changed_any W t (by omega))
      unfold RowOfPost at CH
      simp only [h0, if_true] at RE ⊢
      have hm : (minS t).size = t.size := rowS_size _ _
      have CH2 := Lib.hid (fun W => show Calls Tryd.prog 75 #[.string t] W fun e w' => e = .returned (.string (minS t)) ∧ Kept W w' from CH.out W)
      have s3 : ¬ 9223372036854775807 < s.size + t.size := by omega
      generalize minS t = M at *
      clear h0 g1 g2 CH
      go_enter Tryd.func33, Tryd.ntmps33
      go_wp2_with (first | (go_at_call 74; refine (RE.out _).mono ?_; rintro e w1 ⟨rfl, hk1⟩) | (go_at_call 75; refine (CH2.out _).mono ?_; rintro e w2 ⟨rfl, hk2⟩))
      go_ret3
      exact ⟨hk1.trans hk2, rfl⟩
    · simp only [if_neg h0]
      have e1 : (pairC s t != 0) = true := by simpa using h0
      generalize pairC s t = c at *
      clear h0
      go_enter Tryd.func33, Tryd.ntmps33
      go_wp2_with (first | (go_at_call 74; refine (RE.out _).mono ?_; rintro e w1 ⟨rfl, hk1⟩))
      go_ret3
      exact ⟨hk1, rfl⟩
end Go.Proofs.YtcgbfhjefepafaaDoor
