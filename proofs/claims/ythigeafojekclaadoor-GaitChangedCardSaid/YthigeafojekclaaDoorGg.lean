/-
  Package gait: Paley.
-/
import Derived.Test.YthigeafojekclaaDoorGf
namespace Go.Proofs.YthigeafojekclaaDoor
open Go.RowKit Go.Deep Go.Shelf

def palOk (p : Int) : Bool := decide (3 ≤ p ∧ p ≤ 31) && (p.toNat % 4 == 3) && primeB p.toNat
def PalAns (w : World) (p : Int) (e : Ending) (w' : World) : Prop :=
  Kept w w' ∧ if palOk p then ∃ v, e = .returned (.tuple #[v, .int .i64 0]) ∧ w'.ownsRow w.heap.size 9 1 v (p.toNat + 1) (strs (palS p.toNat) (p.toNat + 1)) else e = .returned (.tuple #[.slice none 0 0, .int .i64 1])
set_option maxRecDepth 100000 in
set_option maxHeartbeats 4000000 in
theorem Paley_any (w : World) (p : Int) : Calls Tryd.prog 26 #[.int .i64 p] w (PalAns w p) := by
  have IW := Lib.hid (fun W => isWithin_any W p 3 31)
  by_cases h1 : 3 ≤ p ∧ p ≤ 31
  · obtain ⟨n, rfl⟩ : ∃ n : Nat, p = n := ⟨p.toNat, by omega⟩
    have hd : decide (3 ≤ (n : Int) ∧ (n : Int) ≤ 31) = true := decide_eq_true h1
    have IP := Lib.hid (fun W => isPrime_any W n (by omega) (by omega))
    have LE := Lib.hid (fun W => paley_any W n (by omega) (by omega))
    unfold StrsPost at LE
    obtain ⟨q, HQ⟩ : ∃ q : Nat, Hid (q = n % 4) := ⟨_, rfl⟩
    have em : Int.tmod (n : Int) 4 = (q : Int) := by rw [HQ.out]; exact (Int.ofNat_tmod n 4).symm
    obtain ⟨b, HB⟩ : ∃ b, Hid (b = primeB n) := ⟨_, rfl⟩
    have ha : Hid (palOk (n : Int) = ((q == 3) && b)) := by show _ = _; unfold palOk; rw [hd, Int.toNat_natCast, HB.out, HQ.out]; rfl
    rw [hd] at IW
    rw [← HB.out] at IP
    unfold PalAns
    rw [ha.out, Int.toNat_natCast]
    clear h1 hd
    by_cases h3 : q = 3
    · have e1 : ((q : Int) != 3) = false := by simp; omega
      have e2 : (q == 3) = true := by simp [h3]
      rw [e2, Bool.true_and]
      clear HQ h3 e2
      cases b with
      | true =>
        go_enter Tryd.func26, Tryd.ntmps26
        go_wp2_with (first | (go_at_call 40; refine (IW.out _).mono ?_; rintro e w1 ⟨rfl, rfl⟩) | (go_at_call 41; refine (IP.out _).mono ?_; rintro e w1 ⟨rfl, rfl⟩) | (go_at_call 42; refine (LE.out _).mono ?_; rintro e w1 ⟨v, rfl, hk1, hO1⟩))
        go_ret2
        exact ⟨hk1, _, rfl, hO1⟩
      | false =>
        go_enter Tryd.func26, Tryd.ntmps26
        go_wp2_with (first | (go_at_call 40; refine (IW.out _).mono ?_; rintro e w1 ⟨rfl, rfl⟩) | (go_at_call 41; refine (IP.out _).mono ?_; rintro e w1 ⟨rfl, rfl⟩))
        go_ret2
        exact ⟨Kept.refl _, rfl⟩
    · have e1 : ((q : Int) != 3) = true := by simp; omega
      have e2 : (q == 3) = false := by simp [h3]
      rw [e2, Bool.false_and]
      clear HQ h3 e2
      go_enter Tryd.func26, Tryd.ntmps26
      go_wp2_with (first | (go_at_call 40; refine (IW.out _).mono ?_; rintro e w1 ⟨rfl, rfl⟩) | (go_at_call 41; refine (IP.out _).mono ?_; rintro e w1 ⟨rfl, rfl⟩))
      go_ret2
      exact ⟨Kept.refl _, rfl⟩
  · have hd : decide (3 ≤ p ∧ p ≤ 31) = false := decide_eq_false h1
    have ha : Hid (palOk p = false) := by show _ = _; unfold palOk; rw [hd]; rfl
    rw [hd] at IW
    unfold PalAns
    rw [ha.out]
    clear h1 hd
    go_enter Tryd.func26, Tryd.ntmps26
    go_wp2_with (first | (go_at_call 40; refine (IW.out _).mono ?_; rintro e w1 ⟨rfl, rfl⟩))
    go_ret2
    exact ⟨Kept.refl _, rfl⟩
end Go.Proofs.YthigeafojekclaaDoor
