/-
  The program's Steps, and the law FootSteps.
-/
import Derived.Test.YtomnjcjipdnnfaaOe
import Derived.Test.YtomnjcjipdnnfaaOa
import Derived.Test.YtomnjcjipdnnfaaSc
import Derived.Test.YtomnjcjipdnnfaaLv
namespace Go.Proofs.Ytomnjcjipdnnfaa
open Go.RowKit Go.Deep

theorem ten60 : (100000000000000000000000000000 : Int) * 3 < 10 ^ 60 := by decide
theorem steps_any (w : World) (m n : Nat) (hm : 1 ≤ m) (hn : 1 ≤ n) (hm2 : m ≤ 30) (hn2 : n ≤ 30) :
    Calls Try.prog 61 #[.int .i64 m, .int .i64 n] w fun e w' => e = .returned (.string (dstr (del (m - 1) (n - 1)))) ∧ Kept w w' := by
  have h60 := ten60
  refine stepsN w m n (m - 1) (n - 1) (fun i j => dstr (del i j)) (fun i j => dstr (del i (j + 1) + del (i + 1) j)) (by omega) (by omega) (by omega) (by omega) (fun j => by simp only [del_zl, dstr_one]) (fun i => by simp only [del_zr, dstr_one]) (fun i j W hi hj => ?_) (fun i j W hi hj => ?_)
  · have h1 := del_lt (i := i) (j := j + 1) (by omega) (by omega)
    have h2 := del_lt (i := i + 1) (j := j) (by omega) (by omega)
    exact plus_dstr W _ _ (by omega) (by omega) (by omega)
  · have h1 := del_lt (i := i) (j := j + 1) (by omega) (by omega)
    have h2 := del_lt (i := i + 1) (j := j) (by omega) (by omega)
    have h3 := del_lt (i := i) (j := j) (by omega) (by omega)
    simp only [del_ss]
    exact plus_dstr W _ _ (by omega) (by omega) (by omega)
set_option maxRecDepth 100000 in
set_option maxHeartbeats 4000000 in
theorem Steps_good1 (w : World) (m n : Nat) (S : ByteArray) (hm : 1 ≤ m) (hn : 1 ≤ n) (hm2 : m ≤ 30) (hn2 : n ≤ 30)
    (hS : ∀ W, Calls Try.prog 61 #[.int .i64 m, .int .i64 n] W fun e w' => e = .returned (.string S) ∧ Kept W w') :
    Calls Try.prog 34 #[.int .i64 m, .int .i64 n] w fun e w' => e = .returned (.tuple #[.string S, .int .i64 0]) ∧ Kept w w' := by
  have hc := Lib.hid (fun (W : World) (k : Nat) (h1 : 1 ≤ k) (h2 : k ≤ 30) => counts_at W k true (by simp; omega))
  have ST := Lib.hid hS
  clear hS
  go_enter Try.func34, Try.ntmps34
  go_wp2_with (first | (go_at_call 60; first | (refine (hc.out _ _ hm hm2).mono ?_; rintro e w1 ⟨rfl, rfl⟩) | (refine (hc.out _ _ hn hn2).mono ?_; rintro e w1 ⟨rfl, rfl⟩)))
  refine (ST.out _).mono ?_
  rintro e w2 ⟨rfl, hk2⟩
  go_wp2_with fail
  go_ret2
  exact ⟨rfl, hk2⟩
theorem Steps_good (w : World) (m n : Nat) (hm : 1 ≤ m) (hn : 1 ≤ n) (hm2 : m ≤ 30) (hn2 : n ≤ 30) :
    Calls Try.prog 34 #[.int .i64 m, .int .i64 n] w fun e w' => e = .returned (.tuple #[.string (dstr (del (m - 1) (n - 1))), .int .i64 0]) ∧ Kept w w' :=
  Steps_good1 w m n _ hm hn hm2 hn2 (fun W => steps_any W m n hm hn hm2 hn2)
set_option maxRecDepth 100000 in
set_option maxHeartbeats 4000000 in
theorem Steps_no (w : World) (m n : Int) (h : ¬ (1 ≤ m ∧ m ≤ 30 ∧ 1 ≤ n ∧ n ≤ 30)) :
    Calls Try.prog 34 #[.int .i64 m, .int .i64 n] w fun e w' => e = .returned (.tuple #[.string ⟨#[]⟩, .int .i64 1]) ∧ Kept w w' := by
  by_cases h1 : 1 ≤ m ∧ m ≤ 30
  · have hc1 := Lib.hid (fun W => counts_at W m true (by simp; omega))
    have hc2 := Lib.hid (fun W => counts_at W n false (by simp; omega))
    clear h h1
    go_enter Try.func34, Try.ntmps34
    go_wp2_with (first | (go_at_call 60; first | (refine (hc1.out _).mono ?_; rintro e w1 ⟨rfl, rfl⟩; clear hc1) | (refine (hc2.out _).mono ?_; rintro e w1 ⟨rfl, rfl⟩)))
    go_ret2
    exact ⟨rfl, Kept.refl _⟩
  · have hc1 := Lib.hid (fun W => counts_at W m false (by simp; omega))
    clear h h1
    go_enter Try.func34, Try.ntmps34
    go_wp2_with (first | (go_at_call 60; refine (hc1.out _).mono ?_; rintro e w1 ⟨rfl, rfl⟩))
    go_ret2
    exact ⟨rfl, Kept.refl _⟩
end Go.Proofs.Ytomnjcjipdnnfaa
