/-
  How an argument that is a herd (a number and a slice of pairs) reads.
-/
import Derived.Test.YtlnlddnjalfamaaGreatDoorFr
namespace Go.Proofs.YtlnlddnjalfamaaGreatDoor
open Go.ChangeShapes Go.WideShapes Go.ChangeAt Go.RowKit Go.Deep Go.Joins

section
variable {H : Type} {enc : TypeId × Value → H}
theorem open_slice_fields {P : Program} {w : World} {base : Nat} {spare : Nat → Bool} {held : Bool} {t e : TypeId} {fs : Array Field} {fuel : Nat} {cs : List Value} {x : DataW H × List MemPlace} (ht : P.underlying t = some (.slice e)) (he : P.underlying e = some (.struct fs))
    (hone : oneCellFields P fs = true) (hC : P.cellsOf e = fs.size) (h : DataW.trod enc P w base spare held fuel t cs = some x) :
    cs = [.slice none 0 0] ∨
    ∃ (a : Addr) (len cap m : Nat), cs = [.slice (some a) len cap] ∧ len ≤ cap ∧ cap ≤ maxLen ∧ m = (if spare a.block then cap else len) ∧
      ∀ i, i < m → ∀ (j : Nat) (f : Field), fs[j]? = some f → ∃ (v : Value) (n : Nat) (y : DataW H × List MemPlace), w.cell? (a.add (i * fs.size + j)) = some v ∧ DataW.trod enc P w base spare held n f.type [v] = some y := by
  rcases open_slice ht h with h0 | ⟨a, len, cap, m, n, D, Pl, hcs, hb, hl, hm, hmm, hx, hi⟩
  · exact .inl h0.1
  · refine .inr ⟨a, len, cap, m, hcs, hl, hm, hmm, fun i him j f hj => ?_⟩
    obtain ⟨cs', hc, ht'⟩ := hi i him
    rw [hC] at hc
    obtain ⟨ys, n', hn', hy, hlen, hyl, hf⟩ := DataW.trod_struct he ht'
    obtain ⟨_, hcl, hat⟩ := World.cells?_some hc
    obtain ⟨ho, hk⟩ := hone_of hone j f hj
    have hjl : j < fs.size := (Array.getElem?_eq_some_iff.1 hj).1
    have hcell := hat j hjl
    have hv : cs'[j]? = some (cs'[j]'(by omega)) := List.getElem?_eq_getElem (by omega)
    have h1 := hf j f hj
    rw [ho, hk] at h1
    have hone' : (cs'.drop j).take 1 = [cs'[j]'(by omega)] := by
      rw [List.drop_eq_getElem_cons (by omega)]
      rfl
    rw [hone'] at h1
    have hys : ys[j]? = some (ys[j]'(by omega)) := List.getElem?_eq_getElem (by omega)
    refine ⟨_, _, _, ?_, h1.trans hys⟩
    rw [← Go.Deep.add_add, hcell, hv]
/-- a slice of pairs that came in -/
theorem pairs_open {w : World} {v : Value} {n : Nat} {y : DataW H × List MemPlace} (h : DataW.trod enc Tryz.prog w 0 (fun _ => true) true n 22 [v] = some y) :
    ∃ (a : Option Addr) (len cap : Nat) (A B : Nat → Int), v = .slice a len cap ∧ len ≤ cap ∧ (a = none → cap = 0) ∧ cap ≤ maxLen ∧ PairsAt w (.slice a len cap) len A B := by
  rcases open_slice_fields Tryz.underlying22 Tryz.underlying94 (by kernel_rfl) (by kernel_rfl) h with hcs | ⟨x, l, c, m, hcs, hl, hm, hmm, hf⟩
  · simp at hcs
    subst hcs
    exact ⟨none, 0, 0, fun _ => 0, fun _ => 0, rfl, Nat.le_refl _, fun _ => rfl, Nat.zero_le _, none, 0, 0, 0, rfl, fun h => absurd h (by omega), fun i hi => absurd hi (by omega)⟩
  · simp at hcs
    subst hcs
    have hm' : m = c := by simpa using hmm
    subst hm'
    have hA : ∀ i, i < m → ∃ z : Int, w.cell? (x.add (i * 2)) = some (.int .i64 z) := fun i hi => by
      obtain ⟨v, n, y, hc, ht⟩ := hf i hi 0 _ rfl
      obtain ⟨z, hz, _⟩ := DataW.trod_int Tryz.underlying3 ht
      simp at hz
      subst hz
      exact ⟨z, hc⟩
    have hB : ∀ i, i < m → ∃ z : Int, w.cell? (x.add (i * 2 + 1)) = some (.int .i64 z) := fun i hi => by
      obtain ⟨v, n, y, hc, ht⟩ := hf i hi 1 _ rfl
      obtain ⟨z, hz, _⟩ := DataW.trod_int Tryz.underlying3 ht
      simp at hz
      subst hz
      exact ⟨z, hc⟩
    have hA2 : ∀ i : Nat, ∃ z : Int, i < m → w.cell? (x.add (i * 2)) = some (.int .i64 z) := fun i => by
      by_cases hi : i < m
      · obtain ⟨z, hz⟩ := hA i hi; exact ⟨z, fun _ => hz⟩
      · exact ⟨0, fun h => absurd h hi⟩
    have hB2 : ∀ i : Nat, ∃ z : Int, i < m → w.cell? (x.add (i * 2 + 1)) = some (.int .i64 z) := fun i => by
      by_cases hi : i < m
      · obtain ⟨z, hz⟩ := hB i hi; exact ⟨z, fun _ => hz⟩
      · exact ⟨0, fun h => absurd h hi⟩
    obtain ⟨A, hA3⟩ := Classical.axiomOfChoice hA2
    obtain ⟨B, hB3⟩ := Classical.axiomOfChoice hB2
    refine ⟨some x, l, m, A, B, rfl, hl, (fun h => by cases h), hm, ?_⟩
    by_cases h0 : l = 0
    · subst h0
      exact ⟨some x, 0, 0, m, rfl, fun h => absurd h (by omega), fun i hi => absurd hi (by omega)⟩
    · have hs : x.spot = none := by have := World.cell?_spot (hA3 0 (by omega)); simpa [Addr.add] using this
      obtain ⟨b, o, sp⟩ := x
      simp only at hs
      subst hs
      refine ⟨_, b, o, m, rfl, fun _ => rfl, fun i hi => ⟨?_, ?_⟩⟩
      · have h1 := hA3 i (by omega)
        rw [add_at] at h1
        exact h1
      · have h1 := hB3 i (by omega)
        rw [add_at] at h1
        exact h1
set_option maxRecDepth 100000 in
theorem herd_arg {w : World} {r : Reach} {b0 : Nat} {v : Value} {d : DataW H} {p : List MemPlace} (hv : Value.okWide Tryz.prog w r b0 24 v) (h : DataW.Trod enc Tryz.prog w 0 (fun _ => true) true 24 v d p) :
    ∃ (N : Int) (a : Option Addr) (len cap : Nat) (A B : Nat → Int), v = .agg #[.int .i64 N, .slice a len cap] ∧ (-9223372036854775808 ≤ N ∧ N ≤ 9223372036854775807) ∧ len ≤ cap ∧ (a = none → cap = 0) ∧ cap ≤ maxLen ∧ PairsAt w (.slice a len cap) len A B := by
  obtain ⟨c0, c1, y0, y1, n0, rfl, _, _, t0, t1⟩ := open_agg2 Tryz.underlying24 (by kernel_rfl) (by kernel_rfl) hv h
  obtain ⟨N, e0, _, wN0⟩ := DataW.trod_int Tryz.underlying3 t0
  have wN : -9223372036854775808 ≤ N ∧ N ≤ 9223372036854775807 := by
    have := bounds_i64 wN0
    omega
  simp at e0
  subst e0
  obtain ⟨a, l, cap, A, B, rfl, hl, hnil, hcap, hE⟩ := pairs_open t1
  exact ⟨N, a, l, cap, A, B, rfl, wN, hl, hnil, hcap, hE⟩
end
end Go.Proofs.YtlnlddnjalfamaaGreatDoor
