/-
  How the arguments of the laws read: bytes, arrays of two bytes, and a ground.
-/
import Derived.Test.YtlnpipkhofhlnaaFr
import Derived.Test.YtlnpipkhofhlnaaMd
namespace Go.Proofs.Ytlnpipkhofhlnaa
open Go.ChangeShapes Go.WideShapes Go.ChangeAt Go.RowKit Go.Deep Go.Joins

section
variable {H : Type} {enc : TypeId × Value → H}
theorem u8_nat {z : Int} (h : (Lit.int .u8 z).wf = true) : ∃ n : Nat, z = (n : Int) ∧ n < 256 := by
  have hb := bounds_u8 h
  exact ⟨z.toNat, by omega, by omega⟩
/-- a slice of bytes that came in -/
theorem bytes_open {w : World} {v : Value} {n : Nat} {y : DataW H × List MemPlace} (h : DataW.trod enc Try.prog w 0 (fun _ => true) true n 48 [v] = some y) :
    ∃ (a : Option Addr) (len cap : Nat) (Z : Nat → Nat), v = .slice a len cap ∧ len ≤ maxLen ∧ BytesAt w (.slice a len cap) len Z ∧ ∀ i, Z i < 256 := by
  rcases open_ints Try.underlying48 Try.underlying5 (by kernel_rfl) h with ⟨hcs, _⟩ | ⟨x, l, c, zs, hcs, _, hl, hm, hz, _, hcell, hwz⟩
  · simp at hcs
    subst hcs
    exact ⟨none, 0, 0, fun _ => 0, rfl, Nat.zero_le _, ⟨none, 0, 0, 0, rfl, fun h => absurd h (by omega), fun i hi => absurd hi (by omega)⟩, fun _ => (by decide : 0 < 256)⟩
  · simp at hcs
    subst hcs
    have hz' : zs.length = c := by simpa using hz
    have hZ : ∀ i : Nat, ∃ k : Nat, k < 256 ∧ (i < c → zs.getD i 0 = (k : Int)) := fun i => by
      by_cases hi : i < c
      · have hi' : i < zs.length := by omega
        obtain ⟨k, h1, h2⟩ := u8_nat (hwz (zs.getD i 0) (by simp [List.getD, hi']))
        exact ⟨k, h2, fun _ => h1⟩
      · exact ⟨0, by omega, fun h => absurd h hi⟩
    obtain ⟨Z, hZ2⟩ := Classical.axiomOfChoice hZ
    refine ⟨some x, l, c, Z, rfl, Nat.le_trans hl hm, ?_, fun i => (hZ2 i).1⟩
    by_cases h0 : l = 0
    · subst h0
      exact ⟨some x, 0, 0, c, rfl, fun h => absurd h (by omega), fun i hi => absurd hi (by omega)⟩
    · have hs : x.spot = none := by have := World.cell?_spot (hcell 0 (by omega)); simpa [Addr.add] using this
      obtain ⟨b, o, sp⟩ := x
      simp only at hs
      subst hs
      refine ⟨_, b, o, c, rfl, fun _ => rfl, fun i hi => ?_⟩
      have := hcell i (by omega)
      rw [add_at, (hZ2 i).2 (by omega)] at this
      exact this
/-- a slice of arrays of two bytes that came in -/
theorem bytes2_open {w : World} {v : Value} {n : Nat} {y : DataW H × List MemPlace} (h : DataW.trod enc Try.prog w 0 (fun _ => true) true n 45 [v] = some y) :
    ∃ (a : Option Addr) (len cap : Nat) (X Y : Nat → Nat), v = .slice a len cap ∧ len ≤ maxLen ∧ Bytes2At w (.slice a len cap) len X Y ∧ (∀ i, X i < 256) ∧ ∀ i, Y i < 256 := by
  rcases open_slice Try.underlying45 h with h0 | ⟨x, l, c, m, n', D, Pl, hcs, hb, hl, hm, hmm, hx, hi⟩
  · have hcs := h0.1
    simp at hcs
    subst hcs
    exact ⟨none, 0, 0, fun _ => 0, fun _ => 0, rfl, Nat.zero_le _, ⟨none, 0, 0, 0, rfl, fun h => absurd h (by omega), fun i hi => absurd hi (by omega)⟩, fun _ => (by decide : 0 < 256), fun _ => (by decide : 0 < 256)⟩
  · simp at hcs
    subst hcs
    have hm' : m = c := by simpa using hmm
    subst hm'
    have hC : Try.prog.cellsOf 69 = 2 := by kernel_rfl
    have hC1 : Try.prog.cellsOf 5 = 1 := by kernel_rfl
    have hall : ∀ i : Nat, ∃ p : Nat × Nat, p.1 < 256 ∧ p.2 < 256 ∧ (i < m → w.cell? (x.add (i * 2)) = some (.int .u8 (p.1 : Int)) ∧ w.cell? (x.add (i * 2 + 1)) = some (.int .u8 (p.2 : Int))) := fun i => by
      by_cases him : i < m
      · obtain ⟨cs', hc, ht'⟩ := hi i him
        rw [hC] at hc
        obtain ⟨xs, k, _, _, hlen, hxl, hf⟩ := DataW.trod_array Try.underlying69 ht'
        obtain ⟨_, hcl, hat⟩ := World.cells?_some hc
        have hg : ∀ j, j < 2 → ∃ z : Nat, z < 256 ∧ w.cell? (x.add (i * 2 + j)) = some (.int .u8 (z : Int)) := fun j hj => by
          have h1 := hf j hj
          rw [hC1, Nat.mul_one] at h1
          have hj' : j < cs'.length := by omega
          have hone : (cs'.drop j).take 1 = [cs'[j]] := by
            rw [List.drop_eq_getElem_cons hj']; rfl
          rw [hone] at h1
          have hys : xs[j]? = some (xs[j]'(by omega)) := List.getElem?_eq_getElem (by omega)
          obtain ⟨z, hz1, _, hz3⟩ := DataW.trod_int Try.underlying5 (h1.trans hys)
          obtain ⟨k, hk1, hk2⟩ := u8_nat hz3
          refine ⟨k, hk2, ?_⟩
          rw [← Go.Deep.add_add, hat j (by omega), List.getElem?_eq_getElem hj']
          simp at hz1
          rw [hz1, hk1]
        obtain ⟨z0, hz0, hc0⟩ := hg 0 (by omega)
        obtain ⟨z1, hz1, hc1⟩ := hg 1 (by omega)
        exact ⟨(z0, z1), hz0, hz1, fun _ => ⟨hc0, hc1⟩⟩
      · exact ⟨(0, 0), by omega, by omega, fun h => absurd h him⟩
    obtain ⟨p, hp⟩ := Classical.axiomOfChoice hall
    refine ⟨some x, l, m, fun i => (p i).1, fun i => (p i).2, rfl, Nat.le_trans hl hm, ?_, fun i => (hp i).1, fun i => (hp i).2.1⟩
    by_cases h0 : l = 0
    · subst h0
      exact ⟨some x, 0, 0, m, rfl, fun h => absurd h (by omega), fun i hi => absurd hi (by omega)⟩
    · have hs : x.spot = none := by have := World.cell?_spot ((hp 0).2.2 (by omega)).1; simpa [Addr.add] using this
      obtain ⟨b, o, sp⟩ := x
      simp only at hs
      subst hs
      refine ⟨_, b, o, m, rfl, fun _ => rfl, fun i hi => ?_⟩
      have h1 := (hp i).2.2 (by omega)
      rw [add_at, add_at] at h1
      exact h1
set_option maxRecDepth 100000 in
theorem bytes_arg {w : World} {r : Go.Reach} {b0 : Nat} {v : Value} {d : DataW H} {p : List MemPlace} (hv : Value.okWide Try.prog w r b0 48 v) (h : DataW.Trod enc Try.prog w 0 (fun _ => true) true 48 v d p) :
    ∃ (a : Option Addr) (len cap : Nat) (Z : Nat → Nat), v = .slice a len cap ∧ len ≤ maxLen ∧ BytesAt w (.slice a len cap) len Z ∧ ∀ i, Z i < 256 := by
  obtain ⟨a, l, c, rfl⟩ := okWide_slice Try.underlying48 hv
  obtain ⟨m, hm⟩ := h
  exact bytes_open (n := m) (y := (d, p)) (by simpa [Value.cells] using hm)
set_option maxRecDepth 100000 in
theorem ground_arg {w : World} {r : Go.Reach} {b0 : Nat} {v : Value} {d : DataW H} {p : List MemPlace} (hv : Value.okWide Try.prog w r b0 47 v) (h : DataW.Trod enc Try.prog w 0 (fun _ => true) true 47 v d p) :
    ∃ (N : Nat) (a : Option Addr) (len cap : Nat) (X Y : Nat → Nat), v = .agg #[.int .u8 N, .slice a len cap] ∧ N < 256 ∧ len ≤ maxLen ∧ Bytes2At w (.slice a len cap) len X Y ∧ (∀ i, X i < 256) ∧ ∀ i, Y i < 256 := by
  obtain ⟨c0, c1, y0, y1, n0, rfl, _, _, t0, t1⟩ := open_agg2 Try.underlying47 (by kernel_rfl) (by kernel_rfl) hv h
  obtain ⟨z, e0, _, wz⟩ := DataW.trod_int Try.underlying5 t0
  simp at e0
  subst e0
  obtain ⟨N, rfl, hN⟩ := u8_nat wz
  obtain ⟨a, l, cap, X, Y, rfl, hl, hE, hX, hY⟩ := bytes2_open t1
  exact ⟨N, a, l, cap, X, Y, rfl, hN, hl, hE, hX, hY⟩
end
end Go.Proofs.Ytlnpipkhofhlnaa
