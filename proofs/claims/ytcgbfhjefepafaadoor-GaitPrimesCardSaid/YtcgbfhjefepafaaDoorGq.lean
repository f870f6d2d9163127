/-
  Package gait: Legendre.
-/
import Derived.Test.YtcgbfhjefepafaaDoorGf
namespace Go.Proofs.YtcgbfhjefepafaaDoor
open Go.RowKit Go.Deep Go.Shelf

def legOk (p : Int) : Bool := decide (3 ≤ p ∧ p ≤ 61) && primeB p.toNat
def LegAns (w : World) (p : Int) (e : Ending) (w' : World) : Prop :=
  Kept w w' ∧ if legOk p then e = .returned (.tuple #[.string (rowS p.toNat (legP p.toNat)), .int .i64 0]) else e = .returned (.tuple #[.string ⟨#[]⟩, .int .i64 1])
set_option maxRecDepth 100000 in
set_option maxHeartbeats 4000000 in
theorem Legendre_any (w : World) (p : Int) : Calls Tryd.prog 35 #[.int .i64 p] w (LegAns w p) := by
  have IW := Lib.hid (fun W => isWithin_any W p 3 61)
  by_cases h1 : 3 ≤ p ∧ p ≤ 61
  · obtain ⟨n, rfl⟩ : ∃ n : Nat, p = n := ⟨p.toNat, by omega⟩
    have hd : decide (3 ≤ (n : Int) ∧ (n : Int) ≤ 61) = true := decide_eq_true h1
    have IP := Lib.hid (fun W => isPrime_any W n (by omega) (by omega))
    have LE := Lib.hid (fun W => legendre_any W n (by omega) (by omega))
    unfold RowOfPost at LE
    obtain ⟨b, HB⟩ : ∃ b, Hid (b = primeB n) := ⟨_, rfl⟩
    have ha : Hid (legOk (n : Int) = b) := by show _ = _; unfold legOk; rw [hd, Int.toNat_natCast, HB.out]; rfl
    rw [hd] at IW
    rw [← HB.out] at IP
    unfold LegAns
    rw [ha.out, Int.toNat_natCast]
    generalize rowS n (legP n) = S at *
    clear h1 hd
    cases b with
    | true =>
      go_enter Tryd.func35, Tryd.ntmps35
      go_wp2_with (first | (go_at_call 67; refine (IW.out _).mono ?_; rintro e w1 ⟨rfl, rfl⟩) | (go_at_call 76; refine (IP.out _).mono ?_; rintro e w1 ⟨rfl, rfl⟩) | (go_at_call 77; refine (LE.out _).mono ?_; rintro e w1 ⟨rfl, hk1⟩))
      go_ret2
      exact ⟨hk1, rfl⟩
    | false =>
      go_enter Tryd.func35, Tryd.ntmps35
      go_wp2_with (first | (go_at_call 67; refine (IW.out _).mono ?_; rintro e w1 ⟨rfl, rfl⟩) | (go_at_call 76; refine (IP.out _).mono ?_; rintro e w1 ⟨rfl, rfl⟩))
      go_ret2
      exact ⟨Kept.refl _, rfl⟩
  · have hd : decide (3 ≤ p ∧ p ≤ 61) = false := decide_eq_false h1
    have ha : Hid (legOk p = false) := by show _ = _; unfold legOk; rw [hd]; rfl
    rw [hd] at IW
    unfold LegAns
    rw [ha.out]
    clear h1 hd
    go_enter Tryd.func35, Tryd.ntmps35
    go_wp2_with (first | (go_at_call 67; refine (IW.out _).mono ?_; rintro e w1 ⟨rfl, rfl⟩))
    go_ret2
    exact ⟨Kept.refl _, rfl⟩
end Go.Proofs.YtcgbfhjefepafaaDoor
