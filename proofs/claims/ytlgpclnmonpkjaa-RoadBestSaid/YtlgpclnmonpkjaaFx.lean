/-
  How arguments of the type Map read: places, farriers and calls as bytes; a byte; a list of pairs of bytes.
-/
import Derived.Test.YtlgpclnmonpkjaaFz
import Derived.Test.YtlgpclnmonpkjaaWq
namespace Go.Proofs.Ytlgpclnmonpkjaa
open Go.ChangeShapes Go.WideShapes Go.ChangeAt Go.RowKit Go.Deep Go.Joins Go.ChangeMaps

theorem u8_nat {z : Int} (h : (Lit.int .u8 z).wf = true) : ∃ n : Nat, z = (n : Int) ∧ n < 256 := by
  have hb := bounds_u8 h
  exact ⟨z.toNat, by omega, by omega⟩
section
variable {H : Type} {enc : TypeId × Value → H}
set_option maxRecDepth 100000 in
theorem u8_arg {w : World} {r : Go.Reach} {b0 : Nat} {v : Value} {d : DataW H} {p : List MemPlace} (hv : Value.okWide Try.prog w r b0 5 v) (h : DataW.Trod enc Try.prog w 0 (fun _ => true) true 5 v d p) : ∃ n : Nat, v = .int .u8 n ∧ n < 256 := by
  obtain ⟨z, rfl, _, _, wz⟩ := open_int Try.underlying5 hv h
  obtain ⟨n, rfl, hn⟩ := u8_nat wz
  exact ⟨n, rfl, hn⟩
theorem pairs8_open {w : World} {v : Value} {n : Nat} {y : DataW H × List MemPlace} (h : DataW.trod enc Try.prog w 0 (fun _ => true) true n 72 [v] = some y) :
    ∃ (len : Nat) (X Y : Nat → Nat), U8Pairs w v len X Y := by
  rcases open_slice Try.underlying72 h with hcs | ⟨x, l, c, m, fu, D, Pl, hcs, _, hl, hm, hmm, _, hi⟩
  · have hcs := hcs.1
    simp at hcs
    subst hcs
    exact ⟨0, fun _ => 0, fun _ => 0, none, 0, 0, 0, rfl, fun h => absurd h (by omega), fun i hi => absurd hi (by omega)⟩
  · simp at hcs
    subst hcs
    have hm' : m = c := by simpa using hmm
    subst hm'
    have hC : Try.prog.cellsOf 82 = 2 := by kernel_rfl
    have hC1 : Try.prog.cellsOf 5 = 1 := by kernel_rfl
    have hf : ∀ i, i < m → ∀ j, j < 2 → ∃ k : Nat, k < 256 ∧ w.cell? (x.add (i * 2 + j)) = some (.int .u8 (k : Int)) := fun i him j hj => by
      obtain ⟨cs', hc, ht⟩ := hi i him
      rw [hC] at hc
      obtain ⟨xs, k, _, _, hlen, hxl, hf⟩ := DataW.trod_array Try.underlying82 ht
      rw [hC] at hlen
      obtain ⟨_, hcl, hat⟩ := World.cells?_some hc
      have hcell := hat j hj
      have hv : cs'[j]? = some (cs'[j]'(by omega)) := List.getElem?_eq_getElem (by omega)
      have h1 := hf j hj
      rw [hC1, Nat.mul_one] at h1
      have hone : (cs'.drop j).take 1 = [cs'[j]'(by omega)] := by
        rw [List.drop_eq_getElem_cons (by omega)]
        rfl
      rw [hone] at h1
      have hys : xs[j]? = some (xs[j]'(by omega)) := List.getElem?_eq_getElem (by omega)
      obtain ⟨z, hz1, _, hz3⟩ := DataW.trod_int Try.underlying5 (h1.trans hys)
      obtain ⟨k, hk1, hk2⟩ := u8_nat hz3
      simp at hz1
      refine ⟨k, hk2, ?_⟩
      rw [← Go.Deep.add_add, hcell, hv, hz1, hk1]
    have hg : ∀ j, j < 2 → ∃ X : Nat → Nat, (∀ i, X i < 256) ∧ ∀ i, i < m → w.cell? (x.add (i * 2 + j)) = some (.int .u8 ((X i : Nat) : Int)) := fun j hj => by
      have h2 : ∀ i : Nat, ∃ k : Nat, k < 256 ∧ (i < m → w.cell? (x.add (i * 2 + j)) = some (.int .u8 (k : Int))) := fun i => by
        by_cases hi : i < m
        · obtain ⟨k, h1, h2⟩ := hf i hi j hj; exact ⟨k, h1, fun _ => h2⟩
        · exact ⟨0, by omega, fun h => absurd h hi⟩
      obtain ⟨X, hX⟩ := Classical.axiomOfChoice h2
      exact ⟨X, fun i => (hX i).1, fun i hi => (hX i).2 hi⟩
    obtain ⟨X, hX1, hX2⟩ := hg 0 (by omega)
    obtain ⟨Y, hY1, hY2⟩ := hg 1 (by omega)
    refine ⟨l, X, Y, ?_⟩
    by_cases h0 : l = 0
    · subst h0
      exact ⟨some x, 0, 0, m, rfl, fun h => absurd h (by omega), fun i hi => absurd hi (by omega)⟩
    · have hs : x.spot = none := by have := World.cell?_spot (hX2 0 (by omega)); simpa [Addr.add] using this
      obtain ⟨b, o, sp⟩ := x
      simp only at hs
      subst hs
      refine ⟨_, b, o, m, rfl, fun _ => rfl, fun i hi => ⟨hX1 i, hY1 i, ?_, ?_⟩⟩
      · have h1 := hX2 i (by omega)
        rw [add_at] at h1
        exact h1
      · have h1 := hY2 i (by omega)
        rw [add_at] at h1
        exact h1
theorem bytes8_open {w : World} {v : Value} {n : Nat} {y : DataW H × List MemPlace} (h : DataW.trod enc Try.prog w 0 (fun _ => true) true n 73 [v] = some y) :
    ∃ (len : Nat) (Z : Nat → Nat), U8s w v len Z := by
  rcases open_ints Try.underlying73 Try.underlying5 (by kernel_rfl) h with ⟨hcs, _⟩ | ⟨x, l, c, zs, hcs, _, hl, hm, hz, _, hcell, hwz⟩
  · simp at hcs
    subst hcs
    exact ⟨0, fun _ => 0, none, 0, 0, 0, rfl, fun h => absurd h (by omega), fun i hi => absurd hi (by omega)⟩
  · simp at hcs
    subst hcs
    have hz' : zs.length = c := by simpa using hz
    have hZ : ∀ i : Nat, ∃ k : Nat, k < 256 ∧ (i < c → zs.getD i 0 = (k : Int)) := fun i => by
      by_cases hi : i < c
      · have hi' : i < zs.length := by omega
        obtain ⟨k, h1, h2⟩ := u8_nat (hwz (zs.getD i 0) (by simp [List.getD, hi']))
        exact ⟨k, h2, fun _ => h1⟩
      · exact ⟨0, by omega, fun h => absurd h hi⟩
    obtain ⟨Z, hZ2⟩ := Classical.axiomOfChoice hZ
    refine ⟨l, Z, ?_⟩
    by_cases h0 : l = 0
    · subst h0
      exact ⟨some x, 0, 0, c, rfl, fun h => absurd h (by omega), fun i hi => absurd hi (by omega)⟩
    · have hs : x.spot = none := by have := World.cell?_spot (hcell 0 (by omega)); simpa [Addr.add] using this
      obtain ⟨b, o, sp⟩ := x
      simp only at hs
      subst hs
      refine ⟨_, b, o, c, rfl, fun _ => rfl, fun i hi => ⟨(hZ2 i).1, ?_⟩⟩
      have := hcell i (by omega)
      rw [add_at, (hZ2 i).2 (by omega)] at this
      exact this
set_option maxRecDepth 100000 in
theorem map_arg {w : World} {r : Go.Reach} {b0 : Nat} {v : Value} {d : DataW H} {p : List MemPlace} (hv : Value.okWide Try.prog w r b0 75 v) (h : DataW.Trod enc Try.prog w 0 (fun _ => true) true 75 v d p) :
    ∃ (vP vH vC : Value) (nP nH nC : Nat) (p0 p1 h0 h1 c0 : Nat → Nat), v = .agg #[vP, vH, vC] ∧ U8Pairs w vP nP p0 p1 ∧ U8Pairs w vH nH h0 h1 ∧ U8s w vC nC c0 := by
  obtain ⟨c0, c1, c2, y0, y1, y2, n0, rfl, _, _, t0, t1, t2⟩ := open_agg3 Try.underlying75 (by kernel_rfl) (by kernel_rfl) hv h
  obtain ⟨nP, p0, p1, hP⟩ := pairs8_open t0
  obtain ⟨nH, h0, h1, hH⟩ := pairs8_open t1
  obtain ⟨nC, c, hC⟩ := bytes8_open t2
  exact ⟨c0, c1, c2, nP, nH, nC, p0, p1, h0, h1, c, rfl, hP, hH, hC⟩
set_option maxRecDepth 100000 in
theorem pairs8_arg {w : World} {r : Go.Reach} {b0 : Nat} {v : Value} {d : DataW H} {p : List MemPlace} (hv : Value.okWide Try.prog w r b0 72 v) (h : DataW.Trod enc Try.prog w 0 (fun _ => true) true 72 v d p) :
    ∃ (len : Nat) (X Y : Nat → Nat), U8Pairs w v len X Y := by
  obtain ⟨a, l, c, rfl⟩ := okWide_slice Try.underlying72 hv
  obtain ⟨m, hm⟩ := h
  exact pairs8_open (n := m) (y := (d, p)) (by simpa [Value.cells] using hm)
set_option maxRecDepth 100000 in
theorem u8s_arg {w : World} {r : Go.Reach} {b0 : Nat} {v : Value} {d : DataW H} {p : List MemPlace} (hv : Value.okWide Try.prog w r b0 73 v) (h : DataW.Trod enc Try.prog w 0 (fun _ => true) true 73 v d p) :
    ∃ (len : Nat) (X : Nat → Nat), U8s w v len X := by
  obtain ⟨a, l, c, rfl⟩ := okWide_slice Try.underlying73 hv
  obtain ⟨m, hm⟩ := h
  exact bytes8_open (n := m) (y := (d, p)) (by simpa [Value.cells] using hm)
end
end Go.Proofs.Ytlgpclnmonpkjaa
