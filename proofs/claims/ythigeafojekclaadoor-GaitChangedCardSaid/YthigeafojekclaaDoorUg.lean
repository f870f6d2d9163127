/-
  The decimal digits of the library's Itoa are the only ones; Itoa of any number.
-/
import Derived.Test.YthigeafojekclaaDoorUf
import Derived.Test.YthigeafojekclaaDoorGp
import Derived.Lib.LaidTab
import Derived.Stop.LaidErr
namespace Go.Proofs.YthigeafojekclaaDoor
open Go.RowKit Go.Deep Go.Shelf Go.Sort

theorem digB {u : Nat} (h : u < 10) : (UInt8.ofNat (48 + u)).toNat = 48 + u := by
  rw [UInt8.toNat_ofNat']
  omega
theorem dec_dig : ∀ (k u : Nat), 0 < u → u < 10 ^ k → Num.DecD (Lib.decDigits u) ∧ Num.decV (Lib.decDigits u) = (u : Int) ∧ (Lib.decDigits u).head?.map (fun b => b.toNat) ≠ some 48 ∧ Lib.decDigits u ≠ [] ∧ (Lib.decDigits u).length ≤ k
  | 0, u, h0, h1 => by simp at h1; omega
  | k + 1, u, h0, h1 => by
    by_cases h : u < 10
    · rw [Lib.decDigits_one h]
      refine ⟨fun b hb => ?_, ?_, ?_, by simp, by simp⟩
      · rw [List.mem_singleton.1 hb, digB h]; omega
      · have := Num.decV_snoc [] (UInt8.ofNat (48 + u))
        rw [List.nil_append] at this
        rw [this, digB h]
        show (0 : Int) * 10 + _ = _
        omega
      · simp only [List.head?_cons, Option.map_some]
        rw [digB h]
        intro e
        have := Option.some.inj e
        omega
    · obtain ⟨i1, i2, i3, i4, i5⟩ := dec_dig k (u / 10) (by omega) (by rw [Nat.pow_succ] at h1; omega)
      have e : Lib.decDigits u = Lib.decDigits (u / 10) ++ [UInt8.ofNat (48 + u % 10)] := by rw [Lib.decDigits, dif_neg h]
      rw [e]
      refine ⟨fun b hb => ?_, ?_, ?_, by simp, by simp; omega⟩
      · rcases List.mem_append.1 hb with h2 | h2
        · exact i1 b h2
        · rw [List.mem_singleton.1 h2, digB (by omega)]; omega
      · rw [Num.decV_snoc, i2, digB (by omega)]
        omega
      · rw [Num.head_snoc _ _ i4]; exact i3
theorem dec_decL {u : Nat} (h0 : 0 < u) (h1 : u < 1000000000000000000) : Num.DecL (Lib.decDigits u) (u : Int) := by
  obtain ⟨i1, i2, i3, _, i5⟩ := dec_dig 18 u h0 h1
  exact ⟨i1, i2, i3, by omega⟩
theorem tab_kept {w w' : World} {name : String} {k : IntKind} {zs : List Int} (h : Lib.TabIs Tryd.prog w name k zs) (hk : Kept w w') : Lib.TabIs Tryd.prog w' name k zs := by
  unfold Lib.TabIs World.var? at *
  cases hg : Program.globalNamed Tryd.prog name with
  | none => rw [hg] at h; cases h
  | some g =>
    rw [hg] at h
    simp only [Option.bind_some] at h ⊢
    have hlt : g < w.heap.size := by
      rcases Nat.lt_or_ge g w.heap.size with h2 | h2
      · exact h2
      · rw [Array.getElem?_eq_none h2] at h; cases h
    rw [KeptX.block hk g hlt id]
    exact h
/-- the library's powers of 10 lie where they are laid -/
def PowAt (w : World) : Prop := Lib.TabIs Tryd.prog w "internal/strconv.uint64pow10" .u64 Lib.pow10Tab
theorem kept_grow (w : World) (k : Nat) (os : Array Obj) : Kept w (grow (w.drewN k) os) := by
  refine ⟨rfl, rfl, rfl, ?_, fun b hb _ => ?_⟩
  · show w.heap.size ≤ ((w.drewN k).heap ++ os).size
    rw [Array.size_append]
    exact Nat.le_add_right _ _
  · show ((w.drewN k).heap ++ os)[b]? = w.heap[b]?
    exact Array.getElem?_append_left hb
theorem ItoaOk.any {w : World} (hP : PowAt w) (i : Nat) (hi : i < 1000000000000000000) : ItoaOk w i := fun W hk => by
  refine Calls.mono (show Calls Tryd.prog 39 #[.int .i64 i] W _ from Any.strconv_Itoa { Tryd.laysM171 with } (i : Int) (by omega) (by omega) W (tab_kept hP hk)) ?_
  rintro e w' ⟨rfl, k, os, rfl⟩
  refine ⟨?_, kept_grow _ _ _⟩
  rw [Lib.itoa_nonneg]
  rfl
end Go.Proofs.YthigeafojekclaaDoor
