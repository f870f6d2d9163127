/-
  Naturals of package herd: plus as a whole.
-/
import Derived.Test.YtfbiinjpljmapaaDoorTd
namespace Go.Proofs.YtfbiinjpljmapaaDoor
open Go.RowKit Go.Deep

theorem plus_any (w : World) (va vb : Value) (x y : Int) (hx : NatAt w va x) (hy : NatAt w vb y) (hB : x + y < bigU) :
    Calls Tryd.prog 78 #[va, vb] w (NatPost w (x + y)) := by
  obtain ⟨n, D, hA, hL, rfl, hn⟩ := hx
  obtain ⟨m, E, hA2, hL2, rfl, hm⟩ := hy
  by_cases hnm : m ≤ n
  · refine (plus_ge w va vb n m D E hA hA2 hL.1 hL2.1 hn hnm).mono ?_
    rintro e w' ⟨g, k, S, rfl, h1, h2, h3, h4, _⟩
    exact ⟨_, rfl, ⟨k, S, h1, h2, h3.symm, lean_leN h2 (by rw [h3]; exact hB)⟩, h4⟩
  · refine (plus_lt w vb va m n E D hA2 hA hL2.1 hL.1 hm (by omega)).mono ?_
    rintro e w' ⟨g, k, S, rfl, h1, h2, h3, h4, _⟩
    exact ⟨_, rfl, ⟨k, S, h1, h2, by rw [h3]; omega, lean_leN h2 (by rw [h3, Int.add_comm]; exact hB)⟩, h4⟩
/-- the result is a new row -/
def NatPostN (w : World) (z : Int) (e : Ending) (w' : World) : Prop := ∃ g k c : Nat, e = .returned (.slice (some ⟨g, 0, none⟩) k c) ∧ NatAt w' (.slice (some ⟨g, 0, none⟩) k c) z ∧ Kept w w' ∧ w.heap.size ≤ g
theorem plus_new (w : World) (va vb : Value) (x y : Int) (hx : NatAt w va x) (hy : NatAt w vb y) (hB : x + y < bigU) :
    Calls Tryd.prog 78 #[va, vb] w (NatPostN w (x + y)) := by
  obtain ⟨n, D, hA, hL, rfl, hn⟩ := hx
  obtain ⟨m, E, hA2, hL2, rfl, hm⟩ := hy
  by_cases hnm : m ≤ n
  · refine (plus_ge w va vb n m D E hA hA2 hL.1 hL2.1 hn hnm).mono ?_
    rintro e w' ⟨g, k, S, rfl, h1, h2, h3, h4, h5⟩
    exact ⟨g, k, _, rfl, ⟨k, S, h1, h2, h3.symm, lean_leN h2 (by rw [h3]; exact hB)⟩, h4, h5⟩
  · refine (plus_lt w vb va m n E D hA2 hA hL2.1 hL.1 hm (by omega)).mono ?_
    rintro e w' ⟨g, k, S, rfl, h1, h2, h3, h4, h5⟩
    exact ⟨g, k, _, rfl, ⟨k, S, h1, h2, by rw [h3]; omega, lean_leN h2 (by rw [h3, Int.add_comm]; exact hB)⟩, h4, h5⟩
/-- a natural number that survives stores into the row r -/
def NatSt (w : World) (r : Nat) (v : Value) (z : Int) : Prop := NatAt w v z ∧ ∀ (a : Addr) (k c : Nat), v = .slice (some a) k c → a.block ≠ r
theorem NatSt.store {w w' : World} {r : Nat} {v : Value} {z : Int} (h : NatSt w r v z) (k : KeptX (fun k => k = r) w w') : NatSt w' r v z := by
  obtain ⟨⟨n, D, ⟨a, cap, rfl, h1, h2, h3, ⟨a2, b, o, cap2, e, ha, hc⟩⟩, h5⟩, hr⟩ := h
  cases e
  refine ⟨⟨n, D, ⟨a, cap, rfl, h1, h2, h3, ⟨a, b, o, cap, rfl, ha, fun i hi => ?_⟩⟩, h5⟩, hr⟩
  have e := ha (by omega)
  have hbr : b ≠ r := hr ⟨b, o, none⟩ n cap (by rw [e])
  exact k.cellSome (hc i hi) hbr
end Go.Proofs.YtfbiinjpljmapaaDoor
