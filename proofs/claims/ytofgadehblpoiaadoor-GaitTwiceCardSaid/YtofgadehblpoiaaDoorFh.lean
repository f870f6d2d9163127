/-
  An argument that is a list of int16.
-/
import Derived.Test.YtofgadehblpoiaaDoorFr
namespace Go.Proofs.YtofgadehblpoiaaDoor
open Go.ChangeShapes Go.WideShapes Go.ChangeAt Go.RowKit Go.Deep Go.Joins Go.ChangeMaps

/-- v reads as n int16 -/
def I16At (w : World) (v : Value) (n : Nat) (f : Nat → Int) : Prop := CellsAt w v n (fun i => .int .i16 (f i))
section
variable {H : Type} {enc : TypeId × Value → H}
theorem i16_open {w : World} {v : Value} {n : Nat} {y : DataW H × List MemPlace} (h : DataW.trod enc Tryd.prog w 0 (fun _ => true) true n 71 [v] = some y) :
    ∃ (a : Option Addr) (len cap : Nat) (f : Nat → Int), v = .slice a len cap ∧ len ≤ maxLen ∧ I16At w (.slice a len cap) len f ∧ ∀ i, -32768 ≤ f i ∧ f i ≤ 32767 := by
  rcases open_ints Tryd.underlying71 Tryd.underlying72 (by kernel_rfl) h with ⟨hcs, _⟩ | ⟨x, l, c, zs, hcs, _, hl, hm, hz, _, hcell, hwz⟩
  · simp at hcs
    subst hcs
    exact ⟨none, 0, 0, fun _ => 0, rfl, Nat.zero_le _, ⟨none, 0, 0, 0, rfl, fun h => absurd h (by omega), fun i hi => absurd hi (by omega)⟩, fun _ => by dsimp only; omega⟩
  · simp at hcs
    subst hcs
    have hz' : zs.length = c := by simpa using hz
    refine ⟨some x, l, c, fun i => zs.getD i 0, rfl, Nat.le_trans hl hm, ?_, fun i => ?_⟩
    · by_cases h0 : l = 0
      · subst h0
        exact ⟨some x, 0, 0, c, rfl, fun h => absurd h (by omega), fun i hi => absurd hi (by omega)⟩
      · have hs : x.spot = none := by have := World.cell?_spot (hcell 0 (by omega)); simpa [Addr.add] using this
        obtain ⟨b, o, sp⟩ := x
        simp only at hs
        subst hs
        refine ⟨_, b, o, c, rfl, fun _ => rfl, fun i hi => ?_⟩
        have := hcell i (by omega)
        rw [add_at] at this
        exact this
    · by_cases hi : i < zs.length
      · have hb := bounds_i16 (hwz (zs.getD i 0) (by simp [List.getD, hi]))
        omega
      · dsimp only
        rw [List.getD_eq_getElem?_getD, List.getElem?_eq_none (by omega)]
        exact (by decide : -32768 ≤ (0 : Int) ∧ (0 : Int) ≤ 32767)
set_option maxRecDepth 100000 in
theorem i16s_arg {w : World} {r : Go.Reach} {b0 : Nat} {v : Value} {d : DataW H} {p : List MemPlace} (hv : Value.okWide Tryd.prog w r b0 71 v) (h : DataW.Trod enc Tryd.prog w 0 (fun _ => true) true 71 v d p) :
    ∃ (a : Option Addr) (len cap : Nat) (f : Nat → Int), v = .slice a len cap ∧ len ≤ maxLen ∧ I16At w (.slice a len cap) len f ∧ ∀ i, -32768 ≤ f i ∧ f i ≤ 32767 := by
  obtain ⟨a, l, c, rfl⟩ := okWide_slice Tryd.underlying71 hv
  obtain ⟨m, hm⟩ := h
  exact i16_open (n := m) (y := (d, p)) (by simpa [Value.cells] using hm)
end
end Go.Proofs.YtofgadehblpoiaaDoor
