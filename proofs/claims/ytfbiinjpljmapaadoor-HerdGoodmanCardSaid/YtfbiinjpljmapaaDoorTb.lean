/-
  Naturals of package herd in memory; trimmed, compare.
-/
import Derived.Test.YtfbiinjpljmapaaDoorChecked
import Derived.Test.YtfbiinjpljmapaaDoorTa
import Derived.Outline
import Derived.Deep.QuietTactic
import Derived.BigQuiet
import Derived.Lib.Hide
namespace Go.Proofs.YtfbiinjpljmapaaDoor
open Go.RowKit Go.Deep

abbrev U64At (w : World) (v : Value) (n : Nat) (D : Nat → Int) : Prop := CellsAt w v n (fun i => .int .u64 (D i))
/-- a slice of elements -/
def SuAt (w : World) (v : Value) (n : Nat) (D : Nat → Int) : Prop := ∃ a cap, v = .slice a n cap ∧ n ≤ cap ∧ (a = none → cap = 0) ∧ cap ≤ maxLen ∧ U64At w v n D
theorem SuAt.kept {w w' : World} {v : Value} {n : Nat} {D : Nat → Int} (h : SuAt w v n D) (k : Kept w w') : SuAt w' v n D := by
  obtain ⟨a, cap, h1, h2, h3, h4, h5⟩ := h
  exact ⟨a, cap, h1, h2, h3, h4, h5.kept k⟩
/-- v is the natural number z -/
def NatAt (w : World) (v : Value) (z : Int) : Prop := ∃ (n : Nat) (D : Nat → Int), SuAt w v n D ∧ LeanN D n ∧ z = valN D n ∧ n ≤ 2000
theorem NatAt.kept {w w' : World} {v : Value} {z : Int} (h : NatAt w v z) (k : Kept w w') : NatAt w' v z := by
  obtain ⟨n, D, h1, h2⟩ := h
  exact ⟨n, D, h1.kept k, h2⟩
def TrimPost (w : World) (a : Option Addr) (cap n : Nat) (D : Nat → Int) (e : Ending) (w' : World) : Prop := ∃ k, k ≤ n ∧ e = .returned (.slice a k cap) ∧ w = w' ∧ (∀ i, k ≤ i → i < n → D i = 0) ∧ (0 < k → D (k - 1) ≠ 0)
set_option maxRecDepth 100000 in
set_option maxHeartbeats 4000000 in
theorem trimmed_any (w : World) (a : Option Addr) (n cap : Nat) (D : Nat → Int) (hS : SuAt w (.slice a n cap) n D) (hn : n ≤ 1000000) :
    Calls Tryd.prog 86 #[.slice a n cap] w (TrimPost w a cap n D) := by
  obtain ⟨a', cap', e, hcap, _, hmx, ⟨a2, b, o, cap2, e2, ha, hc⟩⟩ := hS
  cases e
  cases e2
  have HC := Lib.hid hc
  clear hc
  go_enter Tryd.func86, Tryd.ntmps86
  go_wp2_with fail
  go_loopg [0] (n + 1) (fun g s0 wr => ∃ k : Nat, k ≤ n ∧ g = k + 1 ∧ s0 = .slice a k cap ∧ w = wr ∧ Hid (∀ i, k ≤ i → i < n → D i = 0))
  case atStart => exact ⟨n, Nat.le_refl _, rfl, rfl, rfl, fun i h1 h2 => absurd h1 (by omega)⟩
  case round =>
    obtain ⟨k, hk, rfl, rfl, rfl, hZ⟩ := hrel
    by_cases h0 : 0 < k
    · obtain rfl := ha (by omega)
      have t0 := HC.out (k - 1) (by omega)
      obtain ⟨x, HX⟩ : ∃ x, Hid (x = D (k - 1)) := ⟨_, rfl⟩
      rw [← HX.out] at t0
      have ec1 : IntKind.i64.wrap ((k : Int) - 1) = ((k - 1 : Nat) : Int) := by rw [IntWalk.i64_in _ (by omega)]; omega
      have n1 : k - 1 < k := by omega
      have n2 : ((k - 1 : Nat) : Int) < (k : Int) := by omega
      have n3 : (0 : Int) < (k : Int) := by omega
      have n4 : k - 1 ≤ cap := by omega
      have n5 : ((k - 1 : Nat) : Int) ≤ (cap : Int) := by omega
      by_cases hx : x = 0
      · subst hx
        have hZ2 : Hid (∀ i, k - 1 ≤ i → i < n → D i = 0) := fun i h1 h2 => by
          by_cases e : i = k - 1
          · rw [e]; exact HX.out.symm
          · exact hZ.out i (by omega) h2
        clear hZ HX
        go_wp2_with fail
        go_roundg k
        case measure => omega
        case rel => exact ⟨k - 1, by omega, by omega, rfl, rfl, hZ2.out⟩
      · have hne : (x == 0) = false := by simpa using hx
        have hxd : Hid (D (k - 1) ≠ 0) := by rw [← HX.out]; exact hx
        clear HX
        go_wp2_with fail
        go_ret
        exact ⟨k, hk, rfl, rfl, hZ.out, fun _ => hxd.out⟩
    · obtain rfl : k = 0 := by omega
      go_wp2_with fail
      go_ret
      exact ⟨0, hk, rfl, rfl, hZ.out, fun h => absurd h (by omega)⟩
end Go.Proofs.YtfbiinjpljmapaaDoor
