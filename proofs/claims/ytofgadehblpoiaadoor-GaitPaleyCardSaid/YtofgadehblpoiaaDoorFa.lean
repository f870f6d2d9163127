/-
  An argument that is a list of triples of bytes.
-/
import Derived.Test.YtofgadehblpoiaaDoorFb
namespace Go.Proofs.YtofgadehblpoiaaDoor
open Go.ChangeShapes Go.WideShapes Go.ChangeAt Go.RowKit Go.Deep Go.Joins Go.ChangeMaps

/-- v reads as n triples of bytes -/
def TripsAt (w : World) (v : Value) (n : Nat) (X Y Z : Nat → Nat) : Prop :=
  ∃ (a : Option Addr) (b o cap : Nat), v = .slice a n cap ∧ (0 < n → a = some ⟨b, o, none⟩) ∧ ∀ i, i < n → w.cell? ⟨b, o + i * 3, none⟩ = some (.int .u8 ((X i : Nat) : Int)) ∧ w.cell? ⟨b, o + i * 3 + 1, none⟩ = some (.int .u8 ((Y i : Nat) : Int)) ∧ w.cell? ⟨b, o + i * 3 + 2, none⟩ = some (.int .u8 ((Z i : Nat) : Int))
section
variable {H : Type} {enc : TypeId × Value → H}
set_option maxRecDepth 100000 in
theorem trips_open {w : World} {v : Value} {n : Nat} {y : DataW H × List MemPlace} (h : DataW.trod enc Tryd.prog w 0 (fun _ => true) true n 68 [v] = some y) :
    ∃ (a : Option Addr) (len cap : Nat) (X Y Z : Nat → Nat), v = .slice a len cap ∧ len ≤ maxLen ∧ TripsAt w (.slice a len cap) len X Y Z ∧ ∀ i, X i < 256 ∧ Y i < 256 ∧ Z i < 256 := by
  rcases open_slice Tryd.underlying68 h with hcs | ⟨x, l, c, m, fu, D, Pl, hcs, _, hl, hm, hmm, _, hi⟩
  · have hcs := hcs.1
    simp at hcs
    subst hcs
    exact ⟨none, 0, 0, fun _ => 0, fun _ => 0, fun _ => 0, rfl, Nat.zero_le _, ⟨none, 0, 0, 0, rfl, fun h => absurd h (by omega), fun i hi => absurd hi (by omega)⟩, fun _ => by (try dsimp only); omega⟩
  · simp at hcs
    subst hcs
    have hm' : m = c := by simpa using hmm
    subst hm'
    have hC : Tryd.prog.cellsOf 69 = 3 := by kernel_rfl
    have hC1 : Tryd.prog.cellsOf 5 = 1 := by kernel_rfl
    have hf : ∀ i, i < m → ∀ j, j < 3 → ∃ k : Nat, k < 256 ∧ w.cell? (x.add (i * 3 + j)) = some (.int .u8 (k : Int)) := fun i him j hj => by
      obtain ⟨cs', hc, ht⟩ := hi i him
      rw [hC] at hc
      obtain ⟨xs, k, _, _, hlen, hxl, hf⟩ := DataW.trod_array Tryd.underlying69 ht
      rw [hC] at hlen
      obtain ⟨_, hcl, hat⟩ := World.cells?_some hc
      have hcell := hat j hj
      have hv : cs'[j]? = some (cs'[j]'(by omega)) := List.getElem?_eq_getElem (by omega)
      have h1 := hf j hj
      rw [hC1, Nat.mul_one] at h1
      have hone : (cs'.drop j).take 1 = [cs'[j]'(by omega)] := by
        rw [List.drop_eq_getElem_cons (by omega)]
        rfl
      rw [hone] at h1
      have hys : xs[j]? = some (xs[j]'(by omega)) := List.getElem?_eq_getElem (by omega)
      obtain ⟨z, hz1, _, hz3⟩ := DataW.trod_int Tryd.underlying5 (h1.trans hys)
      obtain ⟨k, hk1, hk2⟩ := u8_nat hz3
      simp at hz1
      refine ⟨k, hk2, ?_⟩
      rw [← Go.Deep.add_add, hcell, hv, hz1, hk1]
    have hg : ∀ j, j < 3 → ∃ X : Nat → Nat, (∀ i, X i < 256) ∧ ∀ i, i < m → w.cell? (x.add (i * 3 + j)) = some (.int .u8 ((X i : Nat) : Int)) := fun j hj => by
      have h2 : ∀ i : Nat, ∃ k : Nat, k < 256 ∧ (i < m → w.cell? (x.add (i * 3 + j)) = some (.int .u8 (k : Int))) := fun i => by
        by_cases hi : i < m
        · obtain ⟨k, h1, h2⟩ := hf i hi j hj; exact ⟨k, h1, fun _ => h2⟩
        · exact ⟨0, by omega, fun h => absurd h hi⟩
      obtain ⟨X, hX⟩ := Classical.axiomOfChoice h2
      exact ⟨X, fun i => (hX i).1, fun i hi => (hX i).2 hi⟩
    obtain ⟨X, hX1, hX2⟩ := hg 0 (by omega)
    obtain ⟨Y, hY1, hY2⟩ := hg 1 (by omega)
    obtain ⟨Z, hZ1, hZ2⟩ := hg 2 (by omega)
    refine ⟨some x, l, m, X, Y, Z, rfl, Nat.le_trans hl hm, ?_, fun i => ⟨hX1 i, hY1 i, hZ1 i⟩⟩
    by_cases h0 : l = 0
    · subst h0
      exact ⟨some x, 0, 0, m, rfl, fun h => absurd h (by omega), fun i hi => absurd hi (by omega)⟩
    · have hs : x.spot = none := by have := World.cell?_spot (hX2 0 (by omega)); simpa [Addr.add] using this
      obtain ⟨b, o, sp⟩ := x
      simp only at hs
      subst hs
      refine ⟨_, b, o, m, rfl, fun _ => rfl, fun i hi => ⟨?_, ?_, ?_⟩⟩
      · have h1 := hX2 i (by omega)
        rw [add_at] at h1
        exact h1
      · have h1 := hY2 i (by omega)
        rw [add_at] at h1
        exact h1
      · have h1 := hZ2 i (by omega)
        rw [add_at] at h1
        exact h1
set_option maxRecDepth 100000 in
theorem u8x3_arg {w : World} {r : Go.Reach} {b0 : Nat} {v : Value} {d : DataW H} {p : List MemPlace} (hv : Value.okWide Tryd.prog w r b0 68 v) (h : DataW.Trod enc Tryd.prog w 0 (fun _ => true) true 68 v d p) :
    ∃ (a : Option Addr) (len cap : Nat) (X Y Z : Nat → Nat), v = .slice a len cap ∧ len ≤ maxLen ∧ TripsAt w (.slice a len cap) len X Y Z ∧ ∀ i, X i < 256 ∧ Y i < 256 ∧ Z i < 256 := by
  obtain ⟨a, l, c, rfl⟩ := okWide_slice Tryd.underlying68 hv
  obtain ⟨m, hm⟩ := h
  exact trips_open (n := m) (y := (d, p)) (by simpa [Value.cells] using hm)
end
end Go.Proofs.YtofgadehblpoiaaDoor
