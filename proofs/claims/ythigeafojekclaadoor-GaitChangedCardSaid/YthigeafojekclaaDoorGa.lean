/-
  Package gait: isWithin, likeness.
-/
import Derived.Test.YthigeafojekclaaDoorChecked
import Derived.Test.YthigeafojekclaaDoorQb
import Derived.Lib.Hide
import Derived.Outline
import Derived.Laws.IdiomStrings
import Derived.Deep.QuietTactic
import Derived.BigQuiet
namespace Go.Proofs.YthigeafojekclaaDoor
open Go.RowKit Go.Deep

theorem isWithin_any (w : World) (x a b : Int) : Calls Tryd.prog 40 #[.int .i64 x, .int .i64 a, .int .i64 b] w fun e w' => e = .returned (.bool (decide (a ≤ x ∧ x ≤ b))) ∧ w = w' := by
  by_cases h1 : a ≤ x
  · go_enter Tryd.func40, Tryd.ntmps40
    go_wp2_with fail
    go_ret
    exact ⟨ret_bool (by by_cases e : x ≤ b <;> simp [h1, e]), rfl⟩
  · go_enter Tryd.func40, Tryd.ntmps40
    go_wp2_with fail
    go_ret
    exact ⟨ret_bool (by simp; omega), rfl⟩
set_option maxRecDepth 100000 in
set_option maxHeartbeats 4000000 in
theorem likeness_any (w : World) (s t : ByteArray) (hst : s.size ≤ t.size) (hs : s.size ≤ 1000) :
    Calls Tryd.prog 37 #[.string s, .string t] w fun e w' => e = .returned (.int .i64 (lkS s t s.size)) ∧ Quiet w w' := by
  go_enter Tryd.func37, Tryd.ntmps37
  go_wp2_with fail
  go_loopg [5, 9] (s.size) (fun g s5 s9 wr => ∃ (i : Nat) (x : Int), i ≤ s.size ∧ g = s.size - i ∧ s9 = .int .i64 i ∧ s5 = .int .i64 x ∧ Quiet w wr ∧ Hid (x = lkS s t i) ∧ -(i : Int) ≤ x ∧ x ≤ i)
  case atStart => exact ⟨0, 0, Nat.zero_le _, rfl, rfl, rfl, Quiet.refl _, rfl, by omega, by omega⟩
  case round =>
    obtain ⟨i, x, hi, rfl, rfl, rfl, hQ, hx, hb1, hb2⟩ := hrel
    by_cases hlt : i < s.size
    · have hlt2 : i < t.size := by omega
      have s2 : (i : Int) < (s.size : Int) := by omega
      have s3 : (0 : Int) ≤ (i : Int) := by omega
      have s4 : (i : Int) < (t.size : Int) := by omega
      have hat := chr_at hlt
      have hat2 := chr_at hlt2
      have hnx : Hid (lkS s t (i + 1) = x + if chr s i = chr t i then 1 else -1) := by show _ = _; rw [hx.out]; rfl
      obtain ⟨c, HC⟩ : ∃ c, Hid (c = chr s i) := ⟨_, rfl⟩
      obtain ⟨d, HD⟩ : ∃ d, Hid (d = chr t i) := ⟨_, rfl⟩
      rw [← HC.out] at hat
      rw [← HD.out] at hat2
      rw [← HC.out, ← HD.out] at hnx
      by_cases h1 : c = d
      · have e1 : (c == d) = true := by simp [h1]
        rw [if_pos h1] at hnx
        clear HC HD h1 hx
        go_wp2_with fail
        go_quiet (fail)
        go_wp2_with fail
        go_roundg (s.size - (i + 1))
        case measure => omega
        case rel => exact ⟨i + 1, x + 1, by omega, rfl, by go_num, rfl, hQ.drewN _, hnx.out.symm, by omega, by omega⟩
      · have e1 : (c == d) = false := by simpa using h1
        rw [if_neg h1] at hnx
        clear HC HD h1 hx
        go_wp2_with fail
        go_quiet (fail)
        go_wp2_with fail
        go_roundg (s.size - (i + 1))
        case measure => omega
        case rel => exact ⟨i + 1, x - 1, by omega, rfl, by go_num, rfl, hQ.drewN _, by rw [hnx.out]; rfl, by omega, by omega⟩
    · obtain rfl : i = s.size := by omega
      go_wp2_with fail
      go_ret
      exact ⟨ret_int hx.out, hQ⟩
end Go.Proofs.YthigeafojekclaaDoor
