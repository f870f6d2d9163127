/-
  An argument that is a list of strings.
-/
import Derived.Test.YtofgadehblpoiaaDoorFr
import Derived.Test.YtofgadehblpoiaaDoorGb
import Derived.SliceStrings
namespace Go.Proofs.YtofgadehblpoiaaDoor
open Go.ChangeShapes Go.WideShapes Go.ChangeAt Go.RowKit Go.Deep Go.Joins Go.ChangeMaps

section
variable {H : Type} {enc : TypeId × Value → H}
/-- a slice of strings that came in -/
theorem strs_open {w : World} {v : Value} {n : Nat} {y : DataW H × List MemPlace} (h : DataW.trod enc Tryd.prog w 0 (fun _ => true) true n 42 [v] = some y) :
    ∃ (a : Option Addr) (len cap : Nat) (S : Nat → ByteArray), v = .slice a len cap ∧ len ≤ maxLen ∧ StrsAt w (.slice a len cap) len S ∧ ∀ i, (S i).size ≤ 9223372036854775807 := by
  rcases open_strings Tryd.underlying42 Tryd.underlying9 (by kernel_rfl) h with ⟨hcs, _⟩ | ⟨x, l, c, ss, hcs, _, hl, hm, hz, _, hcell, hw⟩
  · simp at hcs
    subst hcs
    exact ⟨none, 0, 0, fun _ => ⟨#[]⟩, rfl, Nat.zero_le _, ⟨none, 0, 0, 0, rfl, fun h => absurd h (by omega), fun i hi => absurd hi (by omega)⟩, fun _ => (by decide : (0 : Nat) ≤ 9223372036854775807)⟩
  · simp at hcs
    subst hcs
    have hz' : ss.length = c := by simpa using hz
    refine ⟨some x, l, c, fun i => ss.getD i ByteArray.empty, rfl, Nat.le_trans hl hm, ?_, fun i => ?_⟩
    · by_cases h0 : l = 0
      · subst h0
        exact ⟨some x, 0, 0, c, rfl, fun h => absurd h (by omega), fun i hi => absurd hi (by omega)⟩
      · have hs : x.spot = none := by have := World.cell?_spot (hcell 0 (by omega)); simpa [Addr.add] using this
        obtain ⟨b, o, sp⟩ := x
        simp only at hs
        subst hs
        refine ⟨_, b, o, c, rfl, fun _ => rfl, fun i hi => ?_⟩
        have := hcell i (by omega)
        rw [add_at] at this
        exact this
    · by_cases hi : i < ss.length
      · have := hw (ss.getD i ByteArray.empty) (by simp [List.getD, hi])
        unfold maxLen at this
        omega
      · dsimp only
        rw [List.getD_eq_getElem?_getD, List.getElem?_eq_none (by omega)]
        exact (by decide : (0 : Nat) ≤ 9223372036854775807)
set_option maxRecDepth 100000 in
theorem strs_arg {w : World} {r : Go.Reach} {b0 : Nat} {v : Value} {d : DataW H} {p : List MemPlace} (hv : Value.okWide Tryd.prog w r b0 42 v) (h : DataW.Trod enc Tryd.prog w 0 (fun _ => true) true 42 v d p) :
    ∃ (a : Option Addr) (len cap : Nat) (S : Nat → ByteArray), v = .slice a len cap ∧ len ≤ maxLen ∧ StrsAt w (.slice a len cap) len S ∧ ∀ i, (S i).size ≤ 9223372036854775807 := by
  obtain ⟨a, l, c, rfl⟩ := okWide_slice Tryd.underlying42 hv
  obtain ⟨m, hm⟩ := h
  exact strs_open (n := m) (y := (d, p)) (by simpa [Value.cells] using hm)
end
end Go.Proofs.YtofgadehblpoiaaDoor
