/-
  How a slice of bytes that came in reads.
-/
import Derived.Test.YthigeafojekclaaDoorFr
import Derived.Test.YthigeafojekclaaDoorRc
namespace Go.Proofs.YthigeafojekclaaDoor
open Go.ChangeShapes Go.WideShapes Go.ChangeAt Go.RowKit Go.Deep Go.Joins

section
variable {H : Type} {enc : TypeId × Value → H}
/-- a slice of bytes that came in -/
theorem bytes_open {w : World} {v : Value} {n : Nat} {y : DataW H × List MemPlace} (h : DataW.trod enc Tryd.prog w 0 (fun _ => true) true n 42 [v] = some y) :
    ∃ (a : Option Addr) (len cap : Nat) (Z : Nat → Nat), v = .slice a len cap ∧ len ≤ maxLen ∧ BytesAt w (.slice a len cap) len Z ∧ ∀ i, Z i < 256 := by
  rcases open_ints Tryd.underlying42 Tryd.underlying5 (by kernel_rfl) h with ⟨hcs, _⟩ | ⟨x, l, c, zs, hcs, _, hl, hm, hz, _, hcell, hwz⟩
  · simp at hcs
    subst hcs
    exact ⟨none, 0, 0, fun _ => 0, rfl, Nat.zero_le _, ⟨none, 0, 0, 0, rfl, fun h => absurd h (by omega), fun i hi => absurd hi (by omega)⟩, fun _ => (by decide : 0 < 256)⟩
  · simp at hcs
    subst hcs
    have hz' : zs.length = c := by simpa using hz
    have hZ : ∀ i : Nat, ∃ k : Nat, k < 256 ∧ (i < c → zs.getD i 0 = (k : Int)) := fun i => by
      by_cases hi : i < c
      · have hi' : i < zs.length := by omega
        obtain ⟨k, h1, h2⟩ := u8_nat (hwz (zs.getD i 0) (by simp [List.getD, hi']))
        exact ⟨k, h2, fun _ => h1⟩
      · exact ⟨0, by omega, fun h => absurd h hi⟩
    obtain ⟨Z, hZ2⟩ := Classical.axiomOfChoice hZ
    refine ⟨some x, l, c, Z, rfl, Nat.le_trans hl hm, ?_, fun i => (hZ2 i).1⟩
    by_cases h0 : l = 0
    · subst h0
      exact ⟨some x, 0, 0, c, rfl, fun h => absurd h (by omega), fun i hi => absurd hi (by omega)⟩
    · have hs : x.spot = none := by have := World.cell?_spot (hcell 0 (by omega)); simpa [Addr.add] using this
      obtain ⟨b, o, sp⟩ := x
      simp only at hs
      subst hs
      refine ⟨_, b, o, c, rfl, fun _ => rfl, fun i hi => ?_⟩
      have := hcell i (by omega)
      rw [add_at, (hZ2 i).2 (by omega)] at this
      exact this
set_option maxRecDepth 100000 in
theorem bytes_arg {w : World} {r : Go.Reach} {b0 : Nat} {v : Value} {d : DataW H} {p : List MemPlace} (hv : Value.okWide Tryd.prog w r b0 42 v) (h : DataW.Trod enc Tryd.prog w 0 (fun _ => true) true 42 v d p) :
    ∃ (a : Option Addr) (len cap : Nat) (Z : Nat → Nat), v = .slice a len cap ∧ len ≤ maxLen ∧ BytesAt w (.slice a len cap) len Z ∧ ∀ i, Z i < 256 := by
  obtain ⟨a, l, c, rfl⟩ := okWide_slice Tryd.underlying42 hv
  obtain ⟨m, hm⟩ := h
  exact bytes_open (n := m) (y := (d, p)) (by simpa [Value.cells] using hm)
end
end Go.Proofs.YthigeafojekclaaDoor
