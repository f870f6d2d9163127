/-
  Package gait: Like, Around, squares, Merit.
-/
import Derived.Test.YthigeafojekclaaDoorGh
namespace Go.Proofs.YthigeafojekclaaDoor
open Go.RowKit Go.Deep Go.Shelf

theorem strs_one (w : World) (s : ByteArray) : StrsAt (w.alloc (.cells #[.string s] 9)) (.slice (some ⟨w.heap.size, 0, none⟩) 1 1) 1 (fun _ => s) :=
  ⟨_, w.heap.size, 0, 1, rfl, fun _ => rfl, fun i hi => by obtain rfl : i = 0 := by omega
                                                           exact box_cell w (.string s) 9⟩
/-- the rows' error of one string -/
theorem rows_one (w : World) (s : ByteArray) (hs : s.size ≤ 9223372036854775807) :
    Calls Tryd.prog 21 #[.slice (some ⟨w.heap.size, 0, none⟩) 1 1] (w.alloc (.cells #[.string s] 9)) fun e w' => e = .returned (.int .i64 (rowC s)) ∧ Kept w w' :=
  (rowsError_any _ _ 1 (fun _ => s) (strs_one w s) (by omega) (fun _ _ => hs)).mono fun e w' h => ⟨by rw [h.1, rowsC_one], ((Kept.refl w).alloc _).trans h.2⟩
def LikeAns (w : World) (s : ByteArray) (f : Nat → Int) (e : Ending) (w' : World) : Prop :=
  Kept w w' ∧ if rowC s = 0 then ∃ r, e = .returned (.tuple #[.slice (some ⟨r, 0, none⟩) s.size s.size, .int .i64 0]) ∧ w.heap.size ≤ r ∧ w'.rowIs r 3 s.size (fun i => .int .i64 (f i)) else e = .returned (.tuple #[.slice none 0 0, .int .i64 (rowC s)])
set_option maxRecDepth 100000 in
set_option maxHeartbeats 4000000 in
theorem Like_any (w : World) (s : ByteArray) (hs : s.size ≤ 9223372036854775807) : Calls Tryd.prog 6 #[.string s] w (LikeAns w s (likeS s s.size)) := by
  have RE := Lib.hid (rows_one w s hs)
  by_cases h0 : rowC s = 0
  · have hg := rowC_good h0
    have LK := Lib.hid (fun W => likenesses_any W s s.size rfl (by omega))
    have H0 := Lib.hid h0
    rw [h0] at RE
    unfold RowPost at LK
    generalize likeS s s.size = f at *
    clear hg h0
    go_enter Tryd.func6, Tryd.ntmps6
    go_wp2_with (first | (go_at_call 21; refine RE.out.mono ?_; rintro e w1 ⟨rfl, hk1⟩) | (go_at_call 22; refine (LK.out _).mono ?_; rintro e w2 ⟨r, rfl, hr1, hk2, hr2⟩))
    go_ret2
    exact ⟨hk1.trans hk2, by rw [if_pos H0.out]; exact ⟨r, rfl, by have := hk1.size; omega, hr2⟩⟩
  · have H0 := Lib.hid h0
    have e1 : (rowC s != 0) = true := by simpa using h0
    obtain ⟨c, HC⟩ : ∃ c, Hid (c = rowC s) := ⟨_, rfl⟩
    rw [← HC.out] at RE e1
    clear h0
    go_enter Tryd.func6, Tryd.ntmps6
    go_wp2_with (first | (go_at_call 21; refine RE.out.mono ?_; rintro e w1 ⟨rfl, hk1⟩))
    go_ret2
    exact ⟨hk1, by rw [if_neg H0.out, ← HC.out]; rfl⟩
set_option maxRecDepth 100000 in
set_option maxHeartbeats 4000000 in
theorem Around_any (w : World) (s : ByteArray) (hs : s.size ≤ 9223372036854775807) : Calls Tryd.prog 7 #[.string s] w (LikeAns w s (arouS s s.size)) := by
  have RE := Lib.hid (rows_one w s hs)
  by_cases h0 : rowC s = 0
  · have hg := rowC_good h0
    have LK := Lib.hid (fun W => around_any W s s.size rfl (by omega))
    have H0 := Lib.hid h0
    rw [h0] at RE
    unfold RowPost at LK
    generalize arouS s s.size = f at *
    clear hg h0
    go_enter Tryd.func7, Tryd.ntmps7
    go_wp2_with (first | (go_at_call 21; refine RE.out.mono ?_; rintro e w1 ⟨rfl, hk1⟩) | (go_at_call 23; refine (LK.out _).mono ?_; rintro e w2 ⟨r, rfl, hr1, hk2, hr2⟩))
    go_ret2
    exact ⟨hk1.trans hk2, by rw [if_pos H0.out]; exact ⟨r, rfl, by have := hk1.size; omega, hr2⟩⟩
  · have H0 := Lib.hid h0
    have e1 : (rowC s != 0) = true := by simpa using h0
    obtain ⟨c, HC⟩ : ∃ c, Hid (c = rowC s) := ⟨_, rfl⟩
    rw [← HC.out] at RE e1
    clear h0
    go_enter Tryd.func7, Tryd.ntmps7
    go_wp2_with (first | (go_at_call 21; refine RE.out.mono ?_; rintro e w1 ⟨rfl, hk1⟩))
    go_ret2
    exact ⟨hk1, by rw [if_neg H0.out, ← HC.out]; rfl⟩
set_option maxRecDepth 100000 in
set_option maxHeartbeats 4000000 in
theorem squares_any (w : World) (v : Value) (n : Nat) (f : Nat → Int) (hV : IntsAt w v n f) (hn : n ≤ 100) (hf : ∀ i, i < n → -100 ≤ f i ∧ f i ≤ 100) :
    Calls Tryd.prog 24 #[v] w fun e w' => e = .returned (.int .i64 (sumZ (fun i => f i * f i) n)) ∧ w = w' := by
  obtain ⟨a, b, o, cap, rfl, ha, hc⟩ := hV
  have HC := Lib.hid hc
  have HF := Lib.hid hf
  clear hc hf
  go_enter Tryd.func24, Tryd.ntmps24
  go_wp2_with fail
  go_loopg [3, 8] n (fun g s3 s8 wr => ∃ (i : Nat) (x : Int), i ≤ n ∧ g = n - i ∧ s8 = .int .i64 i ∧ s3 = .int .i64 x ∧ w = wr ∧ 0 ≤ x ∧ x ≤ 10000 * i ∧ Hid (x = sumZ (fun i => f i * f i) i))
  case atStart => exact ⟨0, 0, Nat.zero_le _, rfl, rfl, rfl, rfl, by omega, by omega, rfl⟩
  case round =>
    obtain ⟨i, x, hi, rfl, rfl, rfl, rfl, hx0, hx1, hx⟩ := hrel
    by_cases hlt : i < n
    · obtain rfl := ha (by omega)
      have t0 := HC.out i hlt
      have hb := HF.out i hlt
      have s2 : (i : Int) < (n : Int) := by omega
      have s3 : (0 : Int) ≤ (i : Int) := by omega
      have hnx : Hid (sumZ (fun i => f i * f i) (i + 1) = x + f i * f i) := by show _ = _; rw [hx.out]; rfl
      obtain ⟨y, HY⟩ : ∃ y, Hid (y = f i) := ⟨_, rfl⟩
      rw [← HY.out] at t0 hb hnx
      have hsq := sq_bound hb.1 hb.2
      have e1 : wrap64 (y * y) = y * y := IntWalk.wrap64_in _ (by omega)
      have e2 : wrap64 (x + y * y) = x + y * y := IntWalk.wrap64_in _ (by omega)
      obtain ⟨z, HZ⟩ : ∃ z, Hid (z = x + y * y) := ⟨_, rfl⟩
      have hz : 0 ≤ z ∧ z ≤ 10000 * ((i : Int) + 1) := by rw [HZ.out]; omega
      clear hx HY
      go_wp2_with fail
      go_roundg (n - (i + 1))
      case measure => omega
      case rel => exact ⟨i + 1, z, by omega, rfl, by first | rfl | go_num, by rw [HZ.out], rfl, by omega, by omega, by rw [HZ.out]; exact hnx.out.symm⟩
    · obtain rfl : i = n := by omega
      go_wp2_with fail
      go_ret
      exact ⟨ret_int hx.out, rfl⟩
end Go.Proofs.YthigeafojekclaaDoor
