/-
  An argument that is a list of ints.
-/
import Derived.Test.YtofgadehblpoiaaDoorFr
namespace Go.Proofs.YtofgadehblpoiaaDoor
open Go.ChangeShapes Go.WideShapes Go.ChangeAt Go.RowKit Go.Deep Go.Joins Go.ChangeMaps

section
variable {H : Type} {enc : TypeId × Value → H}
/-- a slice of ints that came in -/
theorem ints_open {w : World} {v : Value} {n : Nat} {y : DataW H × List MemPlace} (h : DataW.trod enc Tryd.prog w 0 (fun _ => true) true n 23 [v] = some y) :
    ∃ (a : Option Addr) (len cap : Nat) (f : Nat → Int), v = .slice a len cap ∧ len ≤ cap ∧ (a = none → cap = 0) ∧ cap ≤ maxLen ∧ IntsAt w (.slice a len cap) len f := by
  rcases open_ints Tryd.underlying23 Tryd.underlying3 (by kernel_rfl) h with ⟨hcs, _⟩ | ⟨x, l, c, zs, hcs, _, hl, hm, hz, _, hcell, hwz⟩
  · simp at hcs
    subst hcs
    exact ⟨none, 0, 0, fun _ => 0, rfl, Nat.le_refl _, fun _ => rfl, Nat.zero_le _, none, 0, 0, 0, rfl, fun h => absurd h (by omega), fun i hi => absurd hi (by omega)⟩
  · simp at hcs
    subst hcs
    have hz' : zs.length = c := by simpa using hz
    refine ⟨some x, l, c, fun i => zs.getD i 0, rfl, hl, (fun h => by cases h), hm, ?_⟩
    by_cases h0 : l = 0
    · subst h0
      exact ⟨some x, 0, 0, c, rfl, fun h => absurd h (by omega), fun i hi => absurd hi (by omega)⟩
    · have hs : x.spot = none := by have := World.cell?_spot (hcell 0 (by omega)); simpa [Addr.add] using this
      obtain ⟨b, o, sp⟩ := x
      simp only at hs
      subst hs
      refine ⟨_, b, o, c, rfl, fun _ => rfl, fun i hi => ?_⟩
      have := hcell i (by omega)
      rw [add_at] at this
      exact this
set_option maxRecDepth 100000 in
theorem ints_arg {w : World} {r : Go.Reach} {b0 : Nat} {v : Value} {d : DataW H} {p : List MemPlace} (hv : Value.okWide Tryd.prog w r b0 23 v) (h : DataW.Trod enc Tryd.prog w 0 (fun _ => true) true 23 v d p) :
    ∃ (a : Option Addr) (len cap : Nat) (f : Nat → Int), v = .slice a len cap ∧ len ≤ cap ∧ (a = none → cap = 0) ∧ cap ≤ maxLen ∧ IntsAt w (.slice a len cap) len f := by
  obtain ⟨a, l, c, rfl⟩ := okWide_slice Tryd.underlying23 hv
  obtain ⟨m, hm⟩ := h
  exact ints_open (n := m) (y := (d, p)) (by simpa [Value.cells] using hm)
end
end Go.Proofs.YtofgadehblpoiaaDoor
