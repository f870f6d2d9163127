/-
  How the arguments of the laws read.
  How an argument of 64 bits reads.
-/
import Derived.Test.YtjjeoloifggdpaaRows
import Derived.Test.YtjjeoloifggdpaaRep
import Derived.WalkKit
import Derived.ProofKit
import Derived.OpenShut
import Derived.ShutString
import Derived.ChangeOld
import Derived.Below
import Derived.Deep.Slices
import Derived.Deep.Fields
import Derived.ChangeSame
import Derived.Lib.SmallJoins
import Derived.ChangeMaps5
namespace Go.Proofs.Ytjjeoloifggdpaa
open Go.ChangeShapes Go.WideShapes Go.ChangeAt Go.RowKit Go.Deep Go.Joins Go.ChangeMaps

/-- v reads as a slice of n bytes -/
def BytesAt (w : World) (v : Value) (n : Nat) (Z : Nat → Nat) : Prop := CellsAt w v n (fun i => .int .u8 ((Z i : Nat) : Int))
theorem own : ownKnob Try.prog.godebug = none := by kernel_rfl
theorem laidOut : laidOutB Try.prog = true := by kernel_rfl
theorem u8_nat {z : Int} (h : (Lit.int .u8 z).wf = true) : ∃ n : Nat, z = (n : Int) ∧ n < 256 := by
  have hb := bounds_u8 h
  exact ⟨z.toNat, by omega, by omega⟩
section
variable {H : Type} {enc : TypeId × Value → H}
set_option maxRecDepth 100000 in
theorem u8_arg {w : World} {r : Go.Reach} {b0 : Nat} {v : Value} {d : DataW H} {p : List MemPlace} (hv : Value.okWide Try.prog w r b0 5 v) (h : DataW.Trod enc Try.prog w 0 (fun _ => true) true 5 v d p) : ∃ n : Nat, v = .int .u8 n ∧ n < 256 := by
  obtain ⟨z, rfl, _, _, wz⟩ := open_int Try.underlying5 hv h
  obtain ⟨n, rfl, hn⟩ := u8_nat wz
  exact ⟨n, rfl, hn⟩
set_option maxRecDepth 100000 in
theorem two_arg {w : World} {r : Go.Reach} {b0 : Nat} {v : Value} {d : DataW H} {p : List MemPlace} (hv : Value.okWide Try.prog w r b0 60 v) (h : DataW.Trod enc Try.prog w 0 (fun _ => true) true 60 v d p) :
    ∃ x y : Nat, v = .agg #[.int .u8 x, .int .u8 y] ∧ x < 256 ∧ y < 256 := by
  simp only [Value.okWide, Try.underlying60] at hv
  obtain ⟨cs, rfl, hsz, _⟩ := hv
  have hC : Try.prog.cellsOf 60 = 2 := by kernel_rfl
  have hC1 : Try.prog.cellsOf 5 = 1 := by kernel_rfl
  obtain ⟨c0, c1, rfl⟩ := array2 (hsz.trans hC)
  obtain ⟨m, hm⟩ := h
  have ht : DataW.trod enc Try.prog w 0 (fun _ => true) true m 60 [c0, c1] = some (d, p) := by simpa [Value.cells] using hm
  obtain ⟨xs, k, _, _, hlen, hxl, hf⟩ := DataW.trod_array Try.underlying60 ht
  have hg : ∀ j, j < 2 → ∃ z : Nat, z < 256 ∧ (([c0, c1].drop j).take 1) = [Value.int .u8 (z : Int)] := fun j hj => by
    have h1 := hf j hj
    rw [hC1, Nat.mul_one] at h1
    have hone : (([c0, c1].drop j).take 1) = [[c0, c1][j]'(by simp; omega)] := by
      rw [List.drop_eq_getElem_cons (by simp; omega)]; rfl
    rw [hone] at h1
    have hys : xs[j]? = some (xs[j]'(by omega)) := List.getElem?_eq_getElem (by omega)
    obtain ⟨z, hz1, _, hz3⟩ := DataW.trod_int Try.underlying5 (h1.trans hys)
    obtain ⟨k, hk1, hk2⟩ := u8_nat hz3
    refine ⟨k, hk2, ?_⟩
    rw [hone, hz1, hk1]
  obtain ⟨x, hx, ex⟩ := hg 0 (by omega)
  obtain ⟨y, hy, ey⟩ := hg 1 (by omega)
  simp at ex ey
  exact ⟨x, y, by rw [ex, ey], hx, hy⟩
/-- a slice of bytes that came in -/
theorem bytes_open {w : World} {v : Value} {n : Nat} {y : DataW H × List MemPlace} (h : DataW.trod enc Try.prog w 0 (fun _ => true) true n 43 [v] = some y) :
    ∃ (a : Option Addr) (len cap : Nat) (Z : Nat → Nat), v = .slice a len cap ∧ len ≤ maxLen ∧ BytesAt w (.slice a len cap) len Z ∧ ∀ i, Z i < 256 := by
  rcases open_ints Try.underlying43 Try.underlying5 (by kernel_rfl) h with ⟨hcs, _⟩ | ⟨x, l, c, zs, hcs, _, hl, hm, hz, _, hcell, hwz⟩
  · simp at hcs
    subst hcs
    exact ⟨none, 0, 0, fun _ => 0, rfl, Nat.zero_le _, ⟨none, 0, 0, 0, rfl, fun h => absurd h (by omega), fun i hi => absurd hi (by omega)⟩, fun _ => (by decide : 0 < 256)⟩
  · simp at hcs
    subst hcs
    have hz' : zs.length = c := by simpa using hz
    have hZ : ∀ i : Nat, ∃ k : Nat, k < 256 ∧ (i < c → zs.getD i 0 = (k : Int)) := fun i => by
      by_cases hi : i < c
      · have hi' : i < zs.length := by omega
        obtain ⟨k, h1, h2⟩ := u8_nat (hwz (zs.getD i 0) (by simp [List.getD, hi']))
        exact ⟨k, h2, fun _ => h1⟩
      · exact ⟨0, by omega, fun h => absurd h hi⟩
    obtain ⟨Z, hZ2⟩ := Classical.axiomOfChoice hZ
    refine ⟨some x, l, c, Z, rfl, Nat.le_trans hl hm, ?_, fun i => (hZ2 i).1⟩
    by_cases h0 : l = 0
    · subst h0
      exact ⟨some x, 0, 0, c, rfl, fun h => absurd h (by omega), fun i hi => absurd hi (by omega)⟩
    · have hs : x.spot = none := by have := World.cell?_spot (hcell 0 (by omega)); simpa [Addr.add] using this
      obtain ⟨b, o, sp⟩ := x
      simp only at hs
      subst hs
      refine ⟨_, b, o, c, rfl, fun _ => rfl, fun i hi => ?_⟩
      have := hcell i (by omega)
      rw [add_at, (hZ2 i).2 (by omega)] at this
      exact this
set_option maxRecDepth 100000 in
theorem bytes_arg {w : World} {r : Go.Reach} {b0 : Nat} {v : Value} {d : DataW H} {p : List MemPlace} (hv : Value.okWide Try.prog w r b0 43 v) (h : DataW.Trod enc Try.prog w 0 (fun _ => true) true 43 v d p) :
    ∃ (a : Option Addr) (len cap : Nat) (Z : Nat → Nat), v = .slice a len cap ∧ len ≤ maxLen ∧ BytesAt w (.slice a len cap) len Z ∧ ∀ i, Z i < 256 := by
  obtain ⟨a, l, c, rfl⟩ := okWide_slice Try.underlying43 hv
  obtain ⟨m, hm⟩ := h
  exact bytes_open (n := m) (y := (d, p)) (by simpa [Value.cells] using hm)
/-- a slice of ints that came in -/
theorem ints_open {w : World} {v : Value} {n : Nat} {y : DataW H × List MemPlace} (h : DataW.trod enc Try.prog w 0 (fun _ => true) true n 22 [v] = some y) :
    ∃ (a : Option Addr) (len cap : Nat) (f : Nat → Int), v = .slice a len cap ∧ len ≤ cap ∧ (a = none → cap = 0) ∧ cap ≤ maxLen ∧ IntsAt w (.slice a len cap) len f := by
  rcases open_ints Try.underlying22 Try.underlying3 (by kernel_rfl) h with ⟨hcs, _⟩ | ⟨x, l, c, zs, hcs, _, hl, hm, hz, _, hcell, hwz⟩
  · simp at hcs
    subst hcs
    exact ⟨none, 0, 0, fun _ => 0, rfl, Nat.le_refl _, fun _ => rfl, Nat.zero_le _, none, 0, 0, 0, rfl, fun h => absurd h (by omega), fun i hi => absurd hi (by omega)⟩
  · simp at hcs
    subst hcs
    have hz' : zs.length = c := by simpa using hz
    refine ⟨some x, l, c, fun i => zs.getD i 0, rfl, hl, (fun h => by cases h), hm, ?_⟩
    by_cases h0 : l = 0
    · subst h0
      exact ⟨some x, 0, 0, c, rfl, fun h => absurd h (by omega), fun i hi => absurd hi (by omega)⟩
    · have hs : x.spot = none := by have := World.cell?_spot (hcell 0 (by omega)); simpa [Addr.add] using this
      obtain ⟨b, o, sp⟩ := x
      simp only at hs
      subst hs
      refine ⟨_, b, o, c, rfl, fun _ => rfl, fun i hi => ?_⟩
      have := hcell i (by omega)
      rw [add_at] at this
      exact this
set_option maxRecDepth 100000 in
theorem ints_arg {w : World} {r : Reach} {b0 : Nat} {v : Value} {d : DataW H} {p : List MemPlace} (hv : Value.okWide Try.prog w r b0 22 v) (h : DataW.Trod enc Try.prog w 0 (fun _ => true) true 22 v d p) :
    ∃ (a : Option Addr) (len cap : Nat) (f : Nat → Int), v = .slice a len cap ∧ len ≤ cap ∧ (a = none → cap = 0) ∧ cap ≤ maxLen ∧ IntsAt w (.slice a len cap) len f := by
  obtain ⟨a, l, c, rfl⟩ := okWide_slice Try.underlying22 hv
  obtain ⟨m, hm⟩ := h
  exact ints_open (n := m) (y := (d, p)) (by simpa [Value.cells] using hm)
end
end Go.Proofs.Ytjjeoloifggdpaa
