/-
  How a slice of int16s reads that came in.
-/
import Derived.Test.YtlnpipkhofhlnaaFg
namespace Go.Proofs.Ytlnpipkhofhlnaa
open Go.ChangeShapes Go.WideShapes Go.ChangeAt Go.RowKit Go.Deep Go.Joins

def ShortsAt (w : World) (v : Value) (n : Nat) (Z : Nat → Int) : Prop := CellsAt w v n (fun i => .int .i16 (Z i))
section
variable {H : Type} {enc : TypeId × Value → H}
theorem i16_in {z : Int} (h : (Lit.int .i16 z).wf = true) : -32768 ≤ z ∧ z ≤ 32767 := bounds_i16 h
theorem shorts_open {w : World} {v : Value} {n : Nat} {y : DataW H × List MemPlace} (h : DataW.trod enc Try.prog w 0 (fun _ => true) true n 56 [v] = some y) :
    ∃ (a : Option Addr) (len cap : Nat) (Z : Nat → Int), v = .slice a len cap ∧ len ≤ maxLen ∧ ShortsAt w (.slice a len cap) len Z ∧ ∀ i, -32768 ≤ Z i ∧ Z i ≤ 32767 := by
  rcases open_ints Try.underlying56 Try.underlying57 (by kernel_rfl) h with ⟨hcs, _⟩ | ⟨x, l, c, zs, hcs, _, hl, hm, hz, _, hcell, hwz⟩
  · simp at hcs
    subst hcs
    exact ⟨none, 0, 0, fun _ => 0, rfl, Nat.zero_le _, ⟨none, 0, 0, 0, rfl, fun h => absurd h (by omega), fun i hi => absurd hi (by omega)⟩, fun _ => (by decide : (-32768 : Int) ≤ 0 ∧ (0 : Int) ≤ 32767)⟩
  · simp at hcs
    subst hcs
    have hz' : zs.length = c := by simpa using hz
    have hZ : ∀ i : Nat, ∃ k : Int, (-32768 ≤ k ∧ k ≤ 32767) ∧ (i < c → zs.getD i 0 = k) := fun i => by
      by_cases hi : i < c
      · have hi' : i < zs.length := by omega
        exact ⟨_, i16_in (hwz (zs.getD i 0) (by simp [List.getD, hi'])), fun _ => rfl⟩
      · exact ⟨0, by omega, fun h => absurd h hi⟩
    obtain ⟨Z, hZ2⟩ := Classical.axiomOfChoice hZ
    refine ⟨some x, l, c, Z, rfl, Nat.le_trans hl hm, ?_, fun i => (hZ2 i).1⟩
    by_cases h0 : l = 0
    · subst h0
      exact ⟨some x, 0, 0, c, rfl, fun h => absurd h (by omega), fun i hi => absurd hi (by omega)⟩
    · have hs : x.spot = none := by have := World.cell?_spot (hcell 0 (by omega)); simpa [Addr.add] using this
      obtain ⟨b, o, sp⟩ := x
      simp only at hs
      subst hs
      refine ⟨_, b, o, c, rfl, fun _ => rfl, fun i hi => ?_⟩
      have := hcell i (by omega)
      rw [add_at, (hZ2 i).2 (by omega)] at this
      exact this
set_option maxRecDepth 100000 in
theorem shorts_arg {w : World} {r : Go.Reach} {b0 : Nat} {v : Value} {d : DataW H} {p : List MemPlace} (hv : Value.okWide Try.prog w r b0 56 v) (h : DataW.Trod enc Try.prog w 0 (fun _ => true) true 56 v d p) :
    ∃ (a : Option Addr) (len cap : Nat) (Z : Nat → Int), v = .slice a len cap ∧ len ≤ maxLen ∧ ShortsAt w (.slice a len cap) len Z ∧ ∀ i, -32768 ≤ Z i ∧ Z i ≤ 32767 := by
  obtain ⟨a, l, c, rfl⟩ := okWide_slice Try.underlying56 hv
  obtain ⟨m, hm⟩ := h
  exact shorts_open (n := m) (y := (d, p)) (by simpa [Value.cells] using hm)
end
end Go.Proofs.Ytlnpipkhofhlnaa
