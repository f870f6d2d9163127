/-
  How the arguments of the laws read: slices of arrays of two small numbers, bytes.
-/
import Derived.Test.YtomnjcjipdnnfaaFr
import Derived.Test.YtomnjcjipdnnfaaMd
namespace Go.Proofs.Ytomnjcjipdnnfaa
open Go.ChangeShapes Go.WideShapes Go.ChangeAt Go.RowKit Go.Deep Go.Joins

section
variable {H : Type} {enc : TypeId × Value → H}
theorem u8_nat {z : Int} (h : (Lit.int .u8 z).wf = true) : ∃ n : Nat, z = (n : Int) ∧ n < 256 := by
  have hb := bounds_u8 h
  exact ⟨z.toNat, by omega, by omega⟩
/-- a slice of arrays of two small numbers that came in -/
theorem int8s_open {w : World} {v : Value} {n : Nat} {y : DataW H × List MemPlace} (h : DataW.trod enc Try.prog w 0 (fun _ => true) true n 66 [v] = some y) :
    ∃ (a : Option Addr) (len cap : Nat) (X Y : Nat → Int), v = .slice a len cap ∧ len ≤ maxLen ∧ Int8sAt w (.slice a len cap) len X Y ∧ small X ∧ small Y := by
  rcases open_slice Try.underlying66 h with h0 | ⟨x, l, c, m, n', D, Pl, hcs, hb, hl, hm, hmm, hx, hi⟩
  · have hcs := h0.1
    simp at hcs
    subst hcs
    exact ⟨none, 0, 0, fun _ => 0, fun _ => 0, rfl, Nat.zero_le _, ⟨none, 0, 0, 0, rfl, fun h => absurd h (by omega), fun i hi => absurd hi (by omega)⟩, fun _ => (⟨by decide, by decide⟩ : (-128 : Int) ≤ 0 ∧ (0 : Int) ≤ 127), fun _ => (⟨by decide, by decide⟩ : (-128 : Int) ≤ 0 ∧ (0 : Int) ≤ 127)⟩
  · simp at hcs
    subst hcs
    have hm' : m = c := by simpa using hmm
    subst hm'
    have hC : Try.prog.cellsOf 107 = 2 := by kernel_rfl
    have hC1 : Try.prog.cellsOf 75 = 1 := by kernel_rfl
    have hall : ∀ i : Nat, ∃ p : Int × Int, (-128 ≤ p.1 ∧ p.1 ≤ 127) ∧ (-128 ≤ p.2 ∧ p.2 ≤ 127) ∧ (i < m → w.cell? (x.add (i * 2)) = some (.int .i8 p.1) ∧ w.cell? (x.add (i * 2 + 1)) = some (.int .i8 p.2)) := fun i => by
      by_cases him : i < m
      · obtain ⟨cs', hc, ht'⟩ := hi i him
        rw [hC] at hc
        obtain ⟨xs, k, _, _, hlen, hxl, hf⟩ := DataW.trod_array Try.underlying107 ht'
        obtain ⟨_, hcl, hat⟩ := World.cells?_some hc
        have hg : ∀ j, j < 2 → ∃ z : Int, (-128 ≤ z ∧ z ≤ 127) ∧ w.cell? (x.add (i * 2 + j)) = some (.int .i8 z) := fun j hj => by
          have h1 := hf j hj
          rw [hC1, Nat.mul_one] at h1
          have hj' : j < cs'.length := by omega
          have hone : (cs'.drop j).take 1 = [cs'[j]] := by
            rw [List.drop_eq_getElem_cons hj']; rfl
          rw [hone] at h1
          have hys : xs[j]? = some (xs[j]'(by omega)) := List.getElem?_eq_getElem (by omega)
          obtain ⟨z, hz1, _, hz3⟩ := DataW.trod_int Try.underlying75 (h1.trans hys)
          refine ⟨z, bounds_i8 hz3, ?_⟩
          rw [← Go.Deep.add_add, hat j (by omega), List.getElem?_eq_getElem hj']
          simp at hz1
          rw [hz1]
        obtain ⟨z0, hz0, hc0⟩ := hg 0 (by omega)
        obtain ⟨z1, hz1, hc1⟩ := hg 1 (by omega)
        exact ⟨(z0, z1), hz0, hz1, fun _ => ⟨hc0, hc1⟩⟩
      · exact ⟨(0, 0), ⟨by decide, by decide⟩, ⟨by decide, by decide⟩, fun h => absurd h him⟩
    obtain ⟨p, hp⟩ := Classical.axiomOfChoice hall
    refine ⟨some x, l, m, fun i => (p i).1, fun i => (p i).2, rfl, Nat.le_trans hl hm, ?_, fun i => (hp i).1, fun i => (hp i).2.1⟩
    by_cases h0 : l = 0
    · subst h0
      exact ⟨some x, 0, 0, m, rfl, fun h => absurd h (by omega), fun i hi => absurd hi (by omega)⟩
    · have hs : x.spot = none := by have := World.cell?_spot ((hp 0).2.2 (by omega)).1; simpa [Addr.add] using this
      obtain ⟨b, o, sp⟩ := x
      simp only at hs
      subst hs
      refine ⟨_, b, o, m, rfl, fun _ => rfl, fun i hi => ?_⟩
      have h1 := (hp i).2.2 (by omega)
      rw [add_at, add_at] at h1
      exact h1
set_option maxRecDepth 100000 in
theorem int8s_arg {w : World} {r : Go.Reach} {b0 : Nat} {v : Value} {d : DataW H} {p : List MemPlace} (hv : Value.okWide Try.prog w r b0 66 v) (h : DataW.Trod enc Try.prog w 0 (fun _ => true) true 66 v d p) :
    ∃ (a : Option Addr) (len cap : Nat) (X Y : Nat → Int), v = .slice a len cap ∧ len ≤ maxLen ∧ Int8sAt w (.slice a len cap) len X Y ∧ small X ∧ small Y := by
  obtain ⟨a, l, c, rfl⟩ := okWide_slice Try.underlying66 hv
  obtain ⟨m, hm⟩ := h
  exact int8s_open (n := m) (y := (d, p)) (by simpa [Value.cells] using hm)
set_option maxRecDepth 100000 in
theorem u8_arg {w : World} {r : Go.Reach} {b0 : Nat} {v : Value} {d : DataW H} {p : List MemPlace} (hv : Value.okWide Try.prog w r b0 5 v) (h : DataW.Trod enc Try.prog w 0 (fun _ => true) true 5 v d p) : ∃ n : Nat, v = .int .u8 n ∧ n < 256 := by
  obtain ⟨z, rfl, _, _, wz⟩ := open_int Try.underlying5 hv h
  obtain ⟨n, rfl, hn⟩ := u8_nat wz
  exact ⟨n, rfl, hn⟩
end
end Go.Proofs.Ytomnjcjipdnnfaa
