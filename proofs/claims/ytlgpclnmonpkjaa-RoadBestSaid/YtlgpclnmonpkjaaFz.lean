/-
  How the arguments of the laws read: roads, spots, slices of ints and of spots.
-/
import Derived.Test.YtlgpclnmonpkjaaRows
import Derived.Test.YtlgpclnmonpkjaaRep
import Derived.WalkKit
import Derived.ProofKit
import Derived.OpenShut
import Derived.ShutString
import Derived.ChangeOld
import Derived.Below
import Derived.Deep.Slices
import Derived.Deep.Fields
import Derived.ChangeSame
import Derived.Lib.SmallJoins
namespace Go.Proofs.Ytlgpclnmonpkjaa
open Go.ChangeShapes Go.WideShapes Go.ChangeAt Go.RowKit Go.Deep Go.Joins

theorem own : ownKnob Try.prog.godebug = none := by kernel_rfl
theorem laidOut : laidOutB Try.prog = true := by kernel_rfl

section
variable {H : Type} {enc : TypeId × Value → H}
/-- a slice of ints that came in -/
theorem ints_open {w : World} {v : Value} {n : Nat} {y : DataW H × List MemPlace} (h : DataW.trod enc Try.prog w 0 (fun _ => true) true n 22 [v] = some y) :
    ∃ (a : Option Addr) (len cap : Nat) (f : Nat → Int), v = .slice a len cap ∧ len ≤ cap ∧ (a = none → cap = 0) ∧ cap ≤ maxLen ∧ IntsAt w (.slice a len cap) len f := by
  rcases open_ints Try.underlying22 Try.underlying3 (by kernel_rfl) h with ⟨hcs, _⟩ | ⟨x, l, c, zs, hcs, _, hl, hm, hz, _, hcell, hwz⟩
  · simp at hcs
    subst hcs
    exact ⟨none, 0, 0, fun _ => 0, rfl, Nat.le_refl _, fun _ => rfl, Nat.zero_le _, none, 0, 0, 0, rfl, fun h => absurd h (by omega), fun i hi => absurd hi (by omega)⟩
  · simp at hcs
    subst hcs
    have hz' : zs.length = c := by simpa using hz
    refine ⟨some x, l, c, fun i => zs.getD i 0, rfl, hl, (fun h => by cases h), hm, ?_⟩
    by_cases h0 : l = 0
    · subst h0
      exact ⟨some x, 0, 0, c, rfl, fun h => absurd h (by omega), fun i hi => absurd hi (by omega)⟩
    · have hs : x.spot = none := by have := World.cell?_spot (hcell 0 (by omega)); simpa [Addr.add] using this
      obtain ⟨b, o, sp⟩ := x
      simp only at hs
      subst hs
      refine ⟨_, b, o, c, rfl, fun _ => rfl, fun i hi => ?_⟩
      have := hcell i (by omega)
      rw [add_at] at this
      exact this
theorem open_slice_fields {P : Program} {w : World} {base : Nat} {spare : Nat → Bool} {held : Bool} {t e : TypeId} {fs : Array Field} {fuel : Nat} {cs : List Value} {x : DataW H × List MemPlace} (ht : P.underlying t = some (.slice e)) (he : P.underlying e = some (.struct fs))
    (hone : oneCellFields P fs = true) (hC : P.cellsOf e = fs.size) (h : DataW.trod enc P w base spare held fuel t cs = some x) :
    cs = [.slice none 0 0] ∨
    ∃ (a : Addr) (len cap m : Nat), cs = [.slice (some a) len cap] ∧ len ≤ cap ∧ cap ≤ maxLen ∧ m = (if spare a.block then cap else len) ∧
      ∀ i, i < m → ∀ (j : Nat) (f : Field), fs[j]? = some f → ∃ (v : Value) (n : Nat) (y : DataW H × List MemPlace), w.cell? (a.add (i * fs.size + j)) = some v ∧ DataW.trod enc P w base spare held n f.type [v] = some y := by
  rcases open_slice ht h with h0 | ⟨a, len, cap, m, n, D, Pl, hcs, hb, hl, hm, hmm, hx, hi⟩
  · exact .inl h0.1
  · refine .inr ⟨a, len, cap, m, hcs, hl, hm, hmm, fun i him j f hj => ?_⟩
    obtain ⟨cs', hc, ht'⟩ := hi i him
    rw [hC] at hc
    obtain ⟨ys, n', hn', hy, hlen, hyl, hf⟩ := DataW.trod_struct he ht'
    obtain ⟨_, hcl, hat⟩ := World.cells?_some hc
    obtain ⟨ho, hk⟩ := hone_of hone j f hj
    have hjl : j < fs.size := (Array.getElem?_eq_some_iff.1 hj).1
    have hcell := hat j hjl
    have hv : cs'[j]? = some (cs'[j]'(by omega)) := List.getElem?_eq_getElem (by omega)
    have h1 := hf j f hj
    rw [ho, hk] at h1
    have hone' : (cs'.drop j).take 1 = [cs'[j]'(by omega)] := by
      rw [List.drop_eq_getElem_cons (by omega)]
      rfl
    rw [hone'] at h1
    have hys : ys[j]? = some (ys[j]'(by omega)) := List.getElem?_eq_getElem (by omega)
    refine ⟨_, _, _, ?_, h1.trans hys⟩
    rw [← Go.Deep.add_add, hcell, hv]
/-- a slice of spots that came in -/
theorem spots_open {w : World} {v : Value} {n : Nat} {y : DataW H × List MemPlace} (h : DataW.trod enc Try.prog w 0 (fun _ => true) true n 36 [v] = some y) :
    ∃ (a : Option Addr) (len cap : Nat) (A B : Nat → Int), v = .slice a len cap ∧ len ≤ cap ∧ (a = none → cap = 0) ∧ cap ≤ maxLen ∧ PairsAt w (.slice a len cap) len A B := by
  rcases open_slice_fields Try.underlying36 Try.underlying26 (by kernel_rfl) (by kernel_rfl) h with hcs | ⟨x, l, c, m, hcs, hl, hm, hmm, hf⟩
  · simp at hcs
    subst hcs
    exact ⟨none, 0, 0, fun _ => 0, fun _ => 0, rfl, Nat.le_refl _, fun _ => rfl, Nat.zero_le _, none, 0, 0, 0, rfl, fun h => absurd h (by omega), fun i hi => absurd hi (by omega)⟩
  · simp at hcs
    subst hcs
    have hm' : m = c := by simpa using hmm
    subst hm'
    have hA : ∀ i, i < m → ∃ z : Int, w.cell? (x.add (i * 2)) = some (.int .i64 z) := fun i hi => by
      obtain ⟨v, n, y, hc, ht⟩ := hf i hi 0 _ rfl
      obtain ⟨z, hz, _⟩ := DataW.trod_int Try.underlying3 ht
      simp at hz
      subst hz
      exact ⟨z, hc⟩
    have hB : ∀ i, i < m → ∃ z : Int, w.cell? (x.add (i * 2 + 1)) = some (.int .i64 z) := fun i hi => by
      obtain ⟨v, n, y, hc, ht⟩ := hf i hi 1 _ rfl
      obtain ⟨z, hz, _⟩ := DataW.trod_int Try.underlying3 ht
      simp at hz
      subst hz
      exact ⟨z, hc⟩
    have hA2 : ∀ i : Nat, ∃ z : Int, i < m → w.cell? (x.add (i * 2)) = some (.int .i64 z) := fun i => by
      by_cases hi : i < m
      · obtain ⟨z, hz⟩ := hA i hi; exact ⟨z, fun _ => hz⟩
      · exact ⟨0, fun h => absurd h hi⟩
    have hB2 : ∀ i : Nat, ∃ z : Int, i < m → w.cell? (x.add (i * 2 + 1)) = some (.int .i64 z) := fun i => by
      by_cases hi : i < m
      · obtain ⟨z, hz⟩ := hB i hi; exact ⟨z, fun _ => hz⟩
      · exact ⟨0, fun h => absurd h hi⟩
    obtain ⟨A, hA3⟩ := Classical.axiomOfChoice hA2
    obtain ⟨B, hB3⟩ := Classical.axiomOfChoice hB2
    refine ⟨some x, l, m, A, B, rfl, hl, (fun h => by cases h), hm, ?_⟩
    by_cases h0 : l = 0
    · subst h0
      exact ⟨some x, 0, 0, m, rfl, fun h => absurd h (by omega), fun i hi => absurd hi (by omega)⟩
    · have hs : x.spot = none := by have := World.cell?_spot (hA3 0 (by omega)); simpa [Addr.add] using this
      obtain ⟨b, o, sp⟩ := x
      simp only at hs
      subst hs
      refine ⟨_, b, o, m, rfl, fun _ => rfl, fun i hi => ⟨?_, ?_⟩⟩
      · have h1 := hA3 i (by omega)
        rw [add_at] at h1
        exact h1
      · have h1 := hB3 i (by omega)
        rw [add_at] at h1
        exact h1
set_option maxRecDepth 100000 in
theorem ints_arg {w : World} {r : Reach} {b0 : Nat} {v : Value} {d : DataW H} {p : List MemPlace} (hv : Value.okWide Try.prog w r b0 22 v) (h : DataW.Trod enc Try.prog w 0 (fun _ => true) true 22 v d p) :
    ∃ (a : Option Addr) (len cap : Nat) (f : Nat → Int), v = .slice a len cap ∧ len ≤ cap ∧ (a = none → cap = 0) ∧ cap ≤ maxLen ∧ IntsAt w (.slice a len cap) len f := by
  obtain ⟨a, l, c, rfl⟩ := okWide_slice Try.underlying22 hv
  obtain ⟨m, hm⟩ := h
  exact ints_open (n := m) (y := (d, p)) (by simpa [Value.cells] using hm)
set_option maxRecDepth 100000 in
theorem spots_arg {w : World} {r : Reach} {b0 : Nat} {v : Value} {d : DataW H} {p : List MemPlace} (hv : Value.okWide Try.prog w r b0 36 v) (h : DataW.Trod enc Try.prog w 0 (fun _ => true) true 36 v d p) :
    ∃ (a : Option Addr) (len cap : Nat) (A B : Nat → Int), v = .slice a len cap ∧ len ≤ cap ∧ (a = none → cap = 0) ∧ cap ≤ maxLen ∧ PairsAt w (.slice a len cap) len A B := by
  obtain ⟨a, l, c, rfl⟩ := okWide_slice Try.underlying36 hv
  obtain ⟨m, hm⟩ := h
  exact spots_open (n := m) (y := (d, p)) (by simpa [Value.cells] using hm)
set_option maxRecDepth 100000 in
theorem road_arg {w : World} {r : Reach} {b0 : Nat} {v : Value} {d : DataW H} {p : List MemPlace} (hv : Value.okWide Try.prog w r b0 24 v) (h : DataW.Trod enc Try.prog w 0 (fun _ => true) true 24 v d p) :
    ∃ (aO : Option Addr) (nO cO : Nat) (fO : Nat → Int) (aL : Option Addr) (nL cL : Nat) (fL : Nat → Int), v = .agg #[.slice aO nO cO, .slice aL nL cL] ∧ (nO ≤ cO ∧ (aO = none → cO = 0) ∧ cO ≤ maxLen ∧ IntsAt w (.slice aO nO cO) nO fO) ∧ nL ≤ cL ∧ (aL = none → cL = 0) ∧ cL ≤ maxLen ∧ IntsAt w (.slice aL nL cL) nL fL := by
  obtain ⟨c0, c1, y0, y1, n0, rfl, _, _, t0, t1⟩ := open_agg2 Try.underlying24 (by kernel_rfl) (by kernel_rfl) hv h
  obtain ⟨aO, nO, cO, fO, rfl, h1⟩ := ints_open t0
  obtain ⟨aL, nL, cL, fL, rfl, h2⟩ := ints_open t1
  exact ⟨aO, nO, cO, fO, aL, nL, cL, fL, rfl, h1, h2⟩
set_option maxRecDepth 100000 in
theorem spot_arg {w : World} {r : Reach} {b0 : Nat} {v : Value} {d : DataW H} {p : List MemPlace} (hv : Value.okWide Try.prog w r b0 26 v) (h : DataW.Trod enc Try.prog w 0 (fun _ => true) true 26 v d p) :
    ∃ p u : Int, v = .agg #[.int .i64 p, .int .i64 u] := by
  obtain ⟨c0, c1, y0, y1, n0, rfl, _, _, t0, t1⟩ := open_agg2 Try.underlying26 (by kernel_rfl) (by kernel_rfl) hv h
  obtain ⟨p, e0, _, _⟩ := DataW.trod_int Try.underlying3 t0
  obtain ⟨u, e1, _, _⟩ := DataW.trod_int Try.underlying3 t1
  simp at e0 e1
  subst e0
  subst e1
  exact ⟨p, u, rfl⟩
end
end Go.Proofs.Ytlgpclnmonpkjaa
