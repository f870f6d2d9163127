/-
  Package road: the least cost in plain words; what is kept of it in the map.
  Package road: the map of what is known.
  Package road: leastWith and least, with the map of what is known.
  Package road: least.
  Package road: Best.
  With one farrier Serve, Best and Nearest cost the same.
-/
import Derived.Test.YtlgpclnmonpkjaaTy
import Derived.Maps.OwnSet
import Derived.Maps.OwnOps
import Derived.DeepKeys4
import Derived.Test.YtlgpclnmonpkjaaVb
import Derived.Test.YtlgpclnmonpkjaaWr
namespace Go.Proofs.Ytlgpclnmonpkjaa
open Go.RowKit Go.Deep Go.Maps

/-- the least of the first n, or 1048576 -/
def minB (f : Nat → Nat) : Nat → Nat
  | 0 => 1048576
  | i + 1 => min (minB f i) (f i)
/-- the least cost of the r calls that are left from the stage s, P on -/
def lst (R : Road) (C : Nat → Nat) (k : Nat) : Nat → Nat → (Nat → Nat) → Nat
  | 0, _, _ => 0
  | r + 1, s, P => minB (fun h => wayP R C s P h + lst R C k r (s + 1) (sentP C s P h)) k
theorem minB_le (f : Nat → Nat) : ∀ n i, i < n → minB f n ≤ f i := by
  intro n
  induction n with
  | zero => intro i hi; omega
  | succ n ih =>
    intro i hi
    simp only [minB]
    by_cases e : i = n
    · subst e; omega
    · have := ih i (by omega); omega
theorem sentP_place {R : Road} {C : Nat → Nat} {m s h : Nat} {P : Nat → Nat} (hC : ∀ i, i < m → C i < R.n) (hs : s < m) (hP : ∀ j, j < 3 → P j < R.n) : ∀ j, j < 3 → sentP C s P h j < R.n := fun j hj => by
  unfold sentP
  split
  · exact hC s hs
  · exact hP j hj
theorem lst_le {R : Road} (ok : R.Ok) {C : Nat → Nat} {m k : Nat} (hC : ∀ i, i < m → C i < R.n) (hk1 : 1 ≤ k) (hk3 : k ≤ 3) : ∀ r s P, s + r ≤ m → (∀ j, j < 3 → P j < R.n) → lst R C k r s P ≤ 360 * r := by
  intro r
  induction r with
  | zero => intro s P _ _; simp [lst]
  | succ r ih =>
    intro s P hs hP
    simp only [lst]
    have h1 := minB_le (fun h => wayP R C s P h + lst R C k r (s + 1) (sentP C s P h)) k 0 (by omega)
    have h2 := ih (s + 1) (sentP C s P 0) (by omega) (sentP_place hC (by omega) hP)
    have h3 : wayP R C s P 0 ≤ 360 := Road.dist_le ok (Road.place_spot (hP 0 (by omega))) (Road.place_spot (hC s (by omega)))
    (try dsimp only at h1)
    omega
/-! the keys -/
set_option maxRecDepth 100000 in
theorem Try.laidOutE : laidOutB Try.prog = true := by kernel_rfl
set_option maxRecDepth 100000 in
theorem stage_keyed : Keyed Try.prog 103 := Keyed.of_law (deep_law_laid Try.laidOutE (m := Try.prog.types.size + 1) (of_decide_eq_true (by kernel_rfl)) (of_decide_eq_true (by kernel_rfl)) (by kernel_rfl) (by kernel_rfl))
def stL (s : Nat) (P : Nat → Nat) : List Lit := [.int .i64 (s : Int), .int .i64 ((P 0 : Nat) : Int), .int .i64 ((P 1 : Nat) : Int), .int .i64 ((P 2 : Nat) : Int)]
def stK (s : Nat) (P : Nat → Nat) : Lit := .string (keyBytes (stL s P))
theorem wf_nat {n : Nat} (h : n ≤ 1000) : (Lit.int .i64 (n : Int)).wf = true := WalkArith.wf_i64 ⟨by omega, by omega⟩
set_option maxRecDepth 100000 in
theorem stage_fields : (match Try.prog.underlying 103 with | some (.struct fs) => fs.toList.map (fun f => (f.name, f.type, f.offset)) | _ => []) = [("served", 3, 0), ("at", 84, 1)] := by kernel_rfl
theorem stage_struct : ∃ f0 f1 : Field, Try.prog.underlying 103 = some (.struct #[f0, f1]) ∧ f0.name = "served" ∧ f0.type = 3 ∧ f0.offset = 0 ∧ f1.name = "at" ∧ f1.type = 84 ∧ f1.offset = 1 := by
  have h := stage_fields
  revert h
  generalize Try.prog.underlying 103 = o
  intro h
  split at h
  · next fs =>
    obtain ⟨l⟩ := fs
    cases l with
    | nil => cases h
    | cons f0 l => cases l with
      | nil => simp at h
      | cons f1 l => cases l with
        | cons f2 l => simp at h
        | nil =>
          simp only [List.map_cons, List.map_nil, List.cons.injEq, Prod.mk.injEq, and_true] at h
          exact ⟨f0, f1, rfl, h.1.1, h.1.2.1, h.1.2.2, h.2.1, h.2.2.1, h.2.2.2⟩
  · cases h
set_option maxRecDepth 100000 in
theorem Try.under3E : Try.prog.underlying 3 = some (.int .i64) := by kernel_rfl
set_option maxRecDepth 100000 in
theorem Try.underAE : Try.prog.underlying 84 = some (.array 3 3) := by kernel_rfl
set_option maxRecDepth 100000 in
theorem Try.cellsE : Try.prog.cellsOf 103 = 4 ∧ Try.prog.cellsOf 84 = 3 ∧ Try.prog.cellsOf 3 = 1 := ⟨by kernel_rfl, by kernel_rfl, by kernel_rfl⟩
set_option maxRecDepth 100000 in
theorem Try.sizeE : 2 ≤ Try.prog.types.size ∧ Try.prog.keyType 103 = true := ⟨of_decide_eq_true (by kernel_rfl), by kernel_rfl⟩
theorem key_int (d : Nat) (n : Int) (h : (Lit.int .i64 n).wf = true) : Try.prog.keyLits (d + 1) 3 [.int .i64 n] = some [.int .i64 n] := by
  unfold Program.keyLits
  rw [Try.under3E]
  simp [h]
theorem key_arr (d : Nat) (a b c : Int) (ha : (Lit.int .i64 a).wf = true) (hb : (Lit.int .i64 b).wf = true) (hc : (Lit.int .i64 c).wf = true) : Try.prog.keyLits (d + 2) 84 [.int .i64 a, .int .i64 b, .int .i64 c] = some [.int .i64 a, .int .i64 b, .int .i64 c] := by
  obtain ⟨c1, c2, c3⟩ := Try.cellsE
  unfold Program.keyLits
  rw [Try.underAE]
  simp only [c2, c3]
  rw [if_pos (by rfl)]
  simp [List.range, List.range.loop, key_int d _ ha, key_int d _ hb, key_int d _ hc]
theorem stage_key (s : Nat) (P : Nat → Nat) (hs : s ≤ 1000) (hP : ∀ j, j < 3 → P j ≤ 1000) : keyOf Try.prog 103 (StgV s P) = some (stK s P) := by
  have w0 := wf_nat hs
  have w1 := wf_nat (hP 0 (by omega))
  have w2 := wf_nat (hP 1 (by omega))
  have w3 := wf_nat (hP 2 (by omega))
  obtain ⟨c1, c2, c3⟩ := Try.cellsE
  obtain ⟨h2, hkt⟩ := Try.sizeE
  obtain ⟨f0, f1, hu, e1, e2, e3, e4, e5, e6⟩ := stage_struct
  obtain ⟨d, hd⟩ : ∃ d, Try.prog.types.size = d + 2 := ⟨Try.prog.types.size - 2, by omega⟩
  have hf : (StgV s P).formed Try.prog 103 = true := by
    unfold StgV Value.formed
    rw [hu, c1]
    rfl
  have hk : Try.prog.keyLits (Try.prog.types.size + 1) 103 (StgV s P).cells.toList = some (stL s P) := by
    rw [hd]
    show Try.prog.keyLits (d + 2 + 1) 103 [.int .i64 (s : Int), .int .i64 ((P 0 : Nat) : Int), .int .i64 ((P 1 : Nat) : Int), .int .i64 ((P 2 : Nat) : Int)] = _
    unfold Program.keyLits
    rw [hu]
    simp only [c1]
    rw [if_pos ⟨by rfl, by simp [e1, e4]⟩]
    simp [e2, e3, e5, e6, c2, c3, key_int (d + 1) _ w0, key_arr d _ _ _ w1 w2 w3, stL]
  unfold keyOf
  rw [hu]
  dsimp only
  rw [if_pos (by rw [hkt, hf]; rfl), hk]
  rfl
theorem stK_inj {s s' : Nat} {P P' : Nat → Nat} (hs : s ≤ 1000) (hP : ∀ j, j < 3 → P j ≤ 1000) (hs' : s' ≤ 1000) (hP' : ∀ j, j < 3 → P' j ≤ 1000) (h : stK s P = stK s' P') : s = s' ∧ P 0 = P' 0 ∧ P 1 = P' 1 ∧ P 2 = P' 2 := by
  have h1 := stage_key s P hs hP
  have h2 := stage_key s' P' hs' hP'
  rw [← h] at h2
  have h3 := stage_keyed.inj h1 h2
  unfold StgV at h3
  simp at h3
  omega
end Go.Proofs.Ytlgpclnmonpkjaa
namespace Go.Proofs.Ytlgpclnmonpkjaa
open Go.RowKit Go.Deep Go.Maps

abbrev KM (M : Nat) (w w' : World) : Prop := KeptX (fun b => b = M) w w'
theorem Kept.km {w w' : World} (h : Kept w w') (M : Nat) : KM M w w' := KeptX.weaken h (fun _ e => e.elim)
theorem minB_congr {f g : Nat → Nat} : ∀ n, (∀ i, i < n → f i = g i) → minB f n = minB g n := by
  intro n
  induction n with
  | zero => intro _; rfl
  | succ n ih => intro h; simp only [minB]; rw [ih (fun i hi => h i (by omega)), h n (by omega)]
theorem lst_congr (R : Road) (C : Nat → Nat) (k : Nat) (hk : k ≤ 3) : ∀ r s (P P' : Nat → Nat), (∀ j, j < 3 → P j = P' j) → lst R C k r s P = lst R C k r s P' := by
  intro r
  induction r with
  | zero => intro s P P' _; rfl
  | succ r ih =>
    intro s P P' h
    simp only [lst]
    refine minB_congr k fun i hi => ?_
    have e1 : wayP R C s P i = wayP R C s P' i := by unfold wayP; rw [h i (by omega)]
    have e2 := ih (s + 1) (sentP C s P i) (sentP C s P' i) (fun j hj => by unfold sentP; split; rfl; exact h j hj)
    rw [e1, e2]
def isSt (kl : Lit) : Prop := ∃ s P, s ≤ 12 ∧ (∀ j, j < 3 → P j < 10) ∧ kl = stK s P
def goodD (R : Road) (C : Nat → Nat) (k m : Nat) (D : DataW Unit) : Prop :=
  (∀ es, D = .map es → ∀ p ∈ es, isSt p.1) ∧ ∀ s P, s ≤ m → (∀ j, j < 3 → P j < R.n) → has D (stK s P) = true → D.atKey (stK s P) (.lit (.int .i64 0)) = .lit (.int .i64 ((lst R C k (m - s) s P : Nat) : Int))
theorem stK_congr {s : Nat} {P P' : Nat → Nat} (h0 : P 0 = P' 0) (h1 : P 1 = P' 1) (h2 : P 2 = P' 2) : stK s P = stK s P' := by unfold stK stL; rw [h0, h1, h2]
theorem nodup_sub : ∀ (l L : List Lit), l.Pairwise (fun p q => p ≠ q) → (∀ x ∈ l, x ∈ L) → l.length ≤ L.length := by
  classical
  intro l
  induction l with
  | nil => intro L _ _; exact Nat.zero_le _
  | cons x l ih =>
    intro L hp hs
    obtain ⟨h1, h2⟩ := List.pairwise_cons.1 hp
    have hx := hs x (by simp)
    have h3 := ih (L.erase x) h2 (fun y hy => (List.mem_erase_of_ne (h1 y hy).symm).2 (hs y (by simp [hy])))
    rw [List.length_erase_of_mem hx] at h3
    have h4 := List.length_pos_of_mem hx
    simp only [List.length_cons]
    omega
def allK : List Lit := (List.range 13000).map fun x => stK (x / 1000) (fun j => if j = 0 then x / 100 % 10 else if j = 1 then x / 10 % 10 else x % 10)
theorem allK_len : allK.length = 13000 := by unfold allK; rw [List.length_map, List.length_range]
theorem allK_mem {kl : Lit} (h : isSt kl) : kl ∈ allK := by
  obtain ⟨s, P, hs, hP, rfl⟩ := h
  have p0 := hP 0 (by omega)
  have p1 := hP 1 (by omega)
  have p2 := hP 2 (by omega)
  unfold allK
  refine List.mem_map.2 ⟨s * 1000 + P 0 * 100 + P 1 * 10 + P 2, List.mem_range.2 (by omega), ?_⟩
  have e : (s * 1000 + P 0 * 100 + P 1 * 10 + P 2) / 1000 = s := by omega
  rw [e]
  refine stK_congr ?_ ?_ ?_
  · show (s * 1000 + P 0 * 100 + P 1 * 10 + P 2) / 100 % 10 = P 0; omega
  · show (s * 1000 + P 0 * 100 + P 1 * 10 + P 2) / 10 % 10 = P 1; omega
  · show (s * 1000 + P 0 * 100 + P 1 * 10 + P 2) % 10 = P 2; omega
theorem good_size {R : Road} {C : Nat → Nat} {k m : Nat} {D : DataW Unit} (h : goodD R C k m D) (ht : Tidy D) : size D ≤ 13000 := by
  obtain ⟨es, rfl, hp⟩ := ht
  have h1 := nodup_sub (es.map fun p => p.1) allK (List.pairwise_map.2 hp) (fun x hx => by
    obtain ⟨p, hp2, rfl⟩ := List.mem_map.1 hx
    exact allK_mem (h.1 es rfl p hp2))
  rw [allK_len, List.length_map] at h1
  exact h1
theorem good_put {R : Road} (ok : R.Ok) {C : Nat → Nat} {k m : Nat} {D : DataW Unit} (h : goodD R C k m D) (hm : IsMap D) (hm12 : m ≤ 12) (hk3 : k ≤ 3) {s : Nat} {P : Nat → Nat} (hs : s ≤ m) (hP : ∀ j, j < 3 → P j < R.n) : goodD R C k m (D.put (stK s P) (.lit (.int .i64 ((lst R C k (m - s) s P : Nat) : Int)))) := by
  have hn := ok.max
  obtain ⟨es, rfl⟩ := hm
  have hkl : WideAt.IsKeyLit (stK s P) := stage_keyed.key (stage_key s P (by omega) (fun j hj => by have := hP j hj; omega))
  refine ⟨?_, ?_⟩
  · intro es' he p hp
    have e2 : es' = DataW.insert (stK s P, .lit (.int .i64 ((lst R C k (m - s) s P : Nat) : Int))) (es.filter fun p => !p.1.sameKey (stK s P)) := by
      have : (DataW.map es' : DataW Unit) = .map (DataW.insert (stK s P, .lit (.int .i64 ((lst R C k (m - s) s P : Nat) : Int))) (es.filter fun p => !p.1.sameKey (stK s P))) := he.symm
      injection this
    subst e2
    rcases ChangeMaps.mem_insert_iff.1 hp with rfl | hq
    · exact ⟨s, P, by omega, fun j hj => by have := hP j hj; omega, rfl⟩
    · exact h.1 es rfl p (List.mem_filter.1 hq).1
  · intro s' P' hs' hP' hh
    by_cases e : stK s' P' = stK s P
    · rw [e, atKey_put_same ⟨es, rfl⟩ hkl]
      obtain ⟨rfl, e0, e1, e2⟩ := stK_inj (by omega) (fun j hj => by have := hP' j hj; omega) (by omega) (fun j hj => by have := hP j hj; omega) e
      rw [lst_congr R C k hk3 (m - s') s' P P' (fun j hj => by
        have : j = 0 ∨ j = 1 ∨ j = 2 := by omega
        rcases this with rfl | rfl | rfl
        · exact e0.symm
        · exact e1.symm
        · exact e2.symm)]
    · rw [has_put_other e] at hh
      rw [atKey_put_other e]
      exact h.2 s' P' hs' hP' hh
/-- what is known of the least costs lies in the map M -/
def Memo (w : World) (R : Road) (C : Nat → Nat) (k m M : Nat) : Prop := ∃ D n, w.ownsMap Try.prog 103 (plainElem Try.prog 3) M n D ∧ n < maxLen ∧ goodD R C k m D
theorem owns_size {P : Program} {kt : TypeId} {RR : Value → Option (DataW Unit × List MemPlace)} {w : World} {b n : Nat} {D : DataW Unit} (h : w.ownsMap P kt RR b n D) : w.ownsMap P kt RR b (size D) D := by
  obtain ⟨es, clock, hb, F, hn, rfl⟩ := h
  refine ⟨es, clock, hb, F, ?_, rfl⟩
  show es.size ≤ ((es.toList.map (Go.WideElems.rg P kt RR)).foldr DataW.insert []).length
  rw [length_read]
  exact Nat.le_refl _
theorem Memo.of {w : World} {R : Road} {C : Nat → Nat} {k m M n : Nat} {D : DataW Unit} (h : w.ownsMap Try.prog 103 (plainElem Try.prog 3) M n D) (hg : goodD R C k m D) : Memo w R C k m M :=
  ⟨D, size D, owns_size h, by have := good_size hg (h.tidy stage_keyed); unfold maxLen; omega, hg⟩
theorem Memo.keptX {w w' : World} {R : Road} {C : Nat → Nat} {k m M : Nat} {S : Nat → Prop} (h : Memo w R C k m M) (kk : KeptX S w w') (hS : ¬ S M) : Memo w' R C k m M := by
  obtain ⟨D, n, ho, hn, hg⟩ := h
  obtain ⟨es, clock, hb, rest⟩ := ho
  exact ⟨D, n, ⟨es, clock, by rw [kk.block M (Array.getElem?_eq_some_iff.1 hb).1 hS]; exact hb, rest⟩, hn, hg⟩
theorem Memo.kept {w w' : World} {R : Road} {C : Nat → Nat} {k m M : Nat} (h : Memo w R C k m M) (kk : Kept w w') : Memo w' R C k m M := h.keptX kk id
theorem Memo.made {w : World} {R : Road} {C : Nat → Nat} {k m M : Nat} (h : w.heap[M]? = some (.map #[] 0)) : Memo w R C k m M := by
  have h1 : w.ownsMap Try.prog 103 (plainElem (H := Unit) Try.prog 3) M 0 (.map []) := by
    have h2 := World.ownsMap_made (H := Unit) w Try.prog 103 (plainElem Try.prog 3)
    obtain ⟨es, clock, hb, rest⟩ := h2
    have e : (w.alloc (.map #[] 0)).heap[w.heap.size]? = some (.map #[] 0) := blk_alloc_new _ _
    rw [e] at hb
    cases hb
    exact ⟨#[], 0, h, rest⟩
  have hg : goodD R C k m (.map []) := by
    refine ⟨fun es he p hp => ?_, fun s P _ _ hh => ?_⟩
    · injection he with he
      subst he
      simp at hp
    · simp [has] at hh
  exact Memo.of h1 hg
/-- no cell lies in a map -/
def Cells (w w' : World) : Prop := ∀ a v, w.cell? a = some v → w'.cell? a = some v
theorem Memo.cells {w w' : World} {R : Road} {C : Nat → Nat} {k m M : Nat} (h : Memo w R C k m M) (kk : KM M w w') : Cells w w' := fun a v hc => by
  refine kk.cellSome hc ?_
  intro e
  obtain ⟨D, n, ⟨es, clock, hb, _⟩, _⟩ := h
  rw [← e] at hb
  unfold World.cell? at hc
  rw [hb] at hc
  cases hc
theorem Cells.trans {a b c : World} (h : Cells a b) (k : Cells b c) : Cells a c := fun x v hv => k x v (h x v hv)
theorem Kept.cells {w w' : World} (h : Kept w w') : Cells w w' := fun _ _ hv => h.cellSome hv
theorem CellsAt.ofCells {w w' : World} {v : Value} {n : Nat} {f : Nat → Value} (h : CellsAt w v n f) (k : Cells w w') : CellsAt w' v n f := by
  obtain ⟨a, b, o, cap, e, ha, hc⟩ := h
  exact ⟨a, b, o, cap, e, ha, fun i hi => k _ _ (hc i hi)⟩
theorem TreeAt.ofCells {w w' : World} {v : Value} {R : Road} (h : TreeAt w v R) (k : Cells w w') : TreeAt w' v R := by
  obtain ⟨x, y, z, e, h1, h2, h3⟩ := h
  exact ⟨x, y, z, e, CellsAt.ofCells h1 k, CellsAt.ofCells h2 k, CellsAt.ofCells h3 k⟩
theorem PlansAt.ofCells {w w' : World} {v : Value} {R : Road} {k m : Nat} {C : Nat → Nat} {s0 : Nat} {S : Nat → Nat} {M : Nat} (h : PlansAt w v R k m C s0 S M) (kk : Cells w w') : PlansAt w' v R k m C s0 S M := by
  obtain ⟨x, y, z, cv, e, h1, h2⟩ := h
  exact ⟨x, y, z, cv, e, h1.ofCells kk, CellsAt.ofCells h2 kk⟩
end Go.Proofs.Ytlgpclnmonpkjaa
namespace Go.Proofs.Ytlgpclnmonpkjaa
open Go.RowKit Go.Deep Go.Maps

theorem keepM14 {w w' : World} {R : Road} {C : Nat → Nat} {k m M : Nat} {a1 : Addr} {v1 : Value} {a2 : Addr} {v2 : Value} {a3 : Addr} {v3 : Value} {a4 : Addr} {v4 : Value} {a5 : Addr} {v5 : Value} {a6 : Addr} {v6 : Value} {a7 : Addr} {v7 : Value} {a8 : Addr} {v8 : Value} {a9 : Addr} {v9 : Value} {a10 : Addr} {v10 : Value} {a11 : Addr} {v11 : Value} {a12 : Addr} {v12 : Value} {a13 : Addr} {v13 : Value} {a14 : Addr} {v14 : Value} (h1 : w.cell? a1 = some v1) (h2 : w.cell? a2 = some v2) (h3 : w.cell? a3 = some v3) (h4 : w.cell? a4 = some v4) (h5 : w.cell? a5 = some v5) (h6 : w.cell? a6 = some v6) (h7 : w.cell? a7 = some v7) (h8 : w.cell? a8 = some v8) (h9 : w.cell? a9 = some v9) (h10 : w.cell? a10 = some v10) (h11 : w.cell? a11 = some v11) (h12 : w.cell? a12 = some v12) (h13 : w.cell? a13 = some v13) (h14 : w.cell? a14 = some v14) (hM : Memo w R C k m M) (hk : KM M w w') : w'.cell? a1 = some v1 ∧ w'.cell? a2 = some v2 ∧ w'.cell? a3 = some v3 ∧ w'.cell? a4 = some v4 ∧ w'.cell? a5 = some v5 ∧ w'.cell? a6 = some v6 ∧ w'.cell? a7 = some v7 ∧ w'.cell? a8 = some v8 ∧ w'.cell? a9 = some v9 ∧ w'.cell? a10 = some v10 ∧ w'.cell? a11 = some v11 ∧ w'.cell? a12 = some v12 ∧ w'.cell? a13 = some v13 ∧ w'.cell? a14 = some v14 ∧ KM M w w' := ⟨hM.cells hk _ _ h1, hM.cells hk _ _ h2, hM.cells hk _ _ h3, hM.cells hk _ _ h4, hM.cells hk _ _ h5, hM.cells hk _ _ h6, hM.cells hk _ _ h7, hM.cells hk _ _ h8, hM.cells hk _ _ h9, hM.cells hk _ _ h10, hM.cells hk _ _ h11, hM.cells hk _ _ h12, hM.cells hk _ _ h13, hM.cells hk _ _ h14, hk⟩
theorem keepM10 {w w' : World} {R : Road} {C : Nat → Nat} {k m M : Nat} {a1 : Addr} {v1 : Value} {a2 : Addr} {v2 : Value} {a3 : Addr} {v3 : Value} {a4 : Addr} {v4 : Value} {a5 : Addr} {v5 : Value} {a6 : Addr} {v6 : Value} {a7 : Addr} {v7 : Value} {a8 : Addr} {v8 : Value} {a9 : Addr} {v9 : Value} {a10 : Addr} {v10 : Value} (h1 : w.cell? a1 = some v1) (h2 : w.cell? a2 = some v2) (h3 : w.cell? a3 = some v3) (h4 : w.cell? a4 = some v4) (h5 : w.cell? a5 = some v5) (h6 : w.cell? a6 = some v6) (h7 : w.cell? a7 = some v7) (h8 : w.cell? a8 = some v8) (h9 : w.cell? a9 = some v9) (h10 : w.cell? a10 = some v10) (hM : Memo w R C k m M) (hk : KM M w w') : w'.cell? a1 = some v1 ∧ w'.cell? a2 = some v2 ∧ w'.cell? a3 = some v3 ∧ w'.cell? a4 = some v4 ∧ w'.cell? a5 = some v5 ∧ w'.cell? a6 = some v6 ∧ w'.cell? a7 = some v7 ∧ w'.cell? a8 = some v8 ∧ w'.cell? a9 = some v9 ∧ w'.cell? a10 = some v10 ∧ KM M w w' := ⟨hM.cells hk _ _ h1, hM.cells hk _ _ h2, hM.cells hk _ _ h3, hM.cells hk _ _ h4, hM.cells hk _ _ h5, hM.cells hk _ _ h6, hM.cells hk _ _ h7, hM.cells hk _ _ h8, hM.cells hk _ _ h9, hM.cells hk _ _ h10, hk⟩
set_option maxRecDepth 100000 in
set_option maxHeartbeats 4000000 in
theorem leastWithM_any (w : World) (v : Value) (R : Road) (ok : R.Ok) (k m : Nat) (C : Nat → Nat) (s0 : Nat) (S : Nat → Nat) (M : Nat) (hP : PlansAt w v R k m C s0 S M) (hm : m ≤ 100) (hC : ∀ i, i < m → C i < R.n) (s : Nat) (P : Nat → Nat) (h : Nat) (hs : s < m) (hh : h < 3) (hPh : P h < R.n) (hMem : Memo w R C k m M) (L : Nat) (hL : L ≤ 1000000000)
    (LE : ∀ W, PlansAt W v R k m C s0 S M → Memo W R C k m M → Calls Try.prog 59 #[v, StgV (s + 1) (sentP C s P h)] W fun e w' => e = .returned (.int .i64 ((L : Nat) : Int)) ∧ KM M W w' ∧ Memo w' R C k m M) :
    Calls Try.prog 61 #[v, StgV s P, .int .i64 h] w fun e w' => e = .returned (.int .i64 ((wayP R C s P h + L : Nat) : Int)) ∧ KM M w w' ∧ Memo w' R C k m M := by
  have hP0 := hP
  obtain ⟨b0, o0, c0, b1, o1, c1, b2, o2, c2, ca, cb, co, ccap, rfl, _, hca, hc⟩ := hP.open ok
  have LE2 := Lib.hid LE
  have WY := Lib.hid (fun W (hW : PlansAt W (.agg #[.slice (some ⟨b0, o0, none⟩) R.n c0, .slice (some ⟨b1, o1, none⟩) R.n c1, .slice (some ⟨b2, o2, none⟩) R.n c2, .slice ca m ccap, .int .i64 (k : Int), .int .i64 (s0 : Int), .int .i64 (S 0 : Int), .int .i64 (S 1 : Int), .int .i64 (S 2 : Int), .map (some M)]) R k m C s0 S M) => way_any W _ R ok k m C s0 S M hW hm hC s P h hs hh hPh)
  have SN := Lib.hid (fun W (hW : PlansAt W (.agg #[.slice (some ⟨b0, o0, none⟩) R.n c0, .slice (some ⟨b1, o1, none⟩) R.n c1, .slice (some ⟨b2, o2, none⟩) R.n c2, .slice ca m ccap, .int .i64 (k : Int), .int .i64 (s0 : Int), .int .i64 (S 0 : Int), .int .i64 (S 1 : Int), .int .i64 (S 2 : Int), .map (some M)]) R k m C s0 S M) => sent_any W _ R ok k m C s0 S M hW hm s P h hs hh)
  have hwl : wayP R C s P h ≤ 360 := Road.dist_le ok (Road.place_spot hPh) (Road.place_spot (hC s hs))
  obtain ⟨d, HD⟩ : ∃ d, Hid (d = wayP R C s P h) := ⟨_, rfl⟩
  rw [← HD.out] at WY hwl ⊢
  obtain ⟨Q, HQ⟩ : ∃ Q, Hid (Q = sentP C s P h) := ⟨_, rfl⟩
  rw [← HQ.out] at SN LE2
  unfold StgV at WY SN LE2 ⊢
  obtain ⟨n0, HN0⟩ : ∃ n0, w.heap.size = n0 := ⟨_, rfl⟩
  obtain ⟨W1, hW1, hsz, q0, q1, q2, q3, q4, q5, q6, q7, q8, q9, hK⟩ := newbox10 w n0 HN0 (.slice (some ⟨b0, o0, none⟩) R.n c0) (.slice (some ⟨b1, o1, none⟩) R.n c1) (.slice (some ⟨b2, o2, none⟩) R.n c2) (.slice ca m ccap) (.int .i64 (k : Int)) (.int .i64 (s0 : Int)) (.int .i64 (S 0 : Int)) (.int .i64 (S 1 : Int)) (.int .i64 (S 2 : Int)) (.map (some M)) 106
  obtain ⟨W2, hW2, hsz2, y0, y1, y2, y3, hK1⟩ := newbox4 W1 (n0 + 1) hsz (.int .i64 (s : Int)) (.int .i64 ((P 0 : Nat) : Int)) (.int .i64 ((P 1 : Nat) : Int)) (.int .i64 ((P 2 : Nat) : Int)) 103
  obtain ⟨z0, z1, z2, z3, z4, z5, z6, z7, z8, z9, _⟩ := keep10 q0 q1 q2 q3 q4 q5 q6 q7 q8 q9 hK1
  have hK2 := hK.trans hK1
  have hP2 := hP0.kept hK2
  have hM2 := hMem.kept hK2
  have HM2 := Lib.hid (fun w' (k6 : KM M W2 w') => hP2.ofCells (hM2.cells k6))
  have hKM := hK2.km M
  have s1 : IntKind.i64.wrap ((d : Int) + (L : Int)) = (d : Int) + (L : Int) := IntWalk.i64_in _ (by omega)
  clear q0 q1 q2 q3 q4 q5 q6 q7 q8 q9 hc hP hP0 LE hL HD HQ hMem
  go_enter Try.func61, Try.ntmps61
  go_upto_region 1 with fail
  clear hW1 hW2 hsz hsz2 HN0
  go_region_held3 (fun w' => w'.cell? ⟨n0, 0, none⟩ = some (.slice (some ⟨b0, o0, none⟩) R.n c0) ∧ w'.cell? ⟨n0, 1, none⟩ = some (.slice (some ⟨b1, o1, none⟩) R.n c1) ∧ w'.cell? ⟨n0, 2, none⟩ = some (.slice (some ⟨b2, o2, none⟩) R.n c2) ∧ w'.cell? ⟨n0, 3, none⟩ = some (.slice ca m ccap) ∧ w'.cell? ⟨n0, 4, none⟩ = some (.int .i64 (k : Int)) ∧ w'.cell? ⟨n0, 5, none⟩ = some (.int .i64 (s0 : Int)) ∧ w'.cell? ⟨n0, 6, none⟩ = some (.int .i64 (S 0 : Int)) ∧ w'.cell? ⟨n0, 7, none⟩ = some (.int .i64 (S 1 : Int)) ∧ w'.cell? ⟨n0, 8, none⟩ = some (.int .i64 (S 2 : Int)) ∧ w'.cell? ⟨n0, 9, none⟩ = some (.map (some M)) ∧ w'.cell? ⟨n0 + 1, 0, none⟩ = some (.int .i64 s) ∧ w'.cell? ⟨n0 + 1, 1, none⟩ = some (.int .i64 ((P 0 : Nat) : Int)) ∧ w'.cell? ⟨n0 + 1, 2, none⟩ = some (.int .i64 ((P 1 : Nat) : Int)) ∧ w'.cell? ⟨n0 + 1, 3, none⟩ = some (.int .i64 ((P 2 : Nat) : Int)) ∧ KM M W2 w')
    (exact keepM14 z0 z1 z2 z3 z4 z5 z6 z7 z8 z9 y0 y1 y2 y3 hM2 (by repeat (first | assumption | exact KeptX.refl _ _ | apply KeptX.drew | apply KeptX.drewN | apply KeptX.alloc | refine KeptX.trans ?_ (by assumption))))
    (first | (go_at_call 63; refine (WY.out _ (HM2.out _ (by repeat (first | assumption | exact KeptX.refl _ _ | apply KeptX.drew | apply KeptX.drewN | apply KeptX.alloc | refine KeptX.trans ?_ (by assumption))))).mono ?_; rintro e w' ⟨rfl, hk1⟩; have hkm1 := hk1.km M) | (go_at_call 78; refine (SN.out _ (HM2.out _ (by repeat (first | assumption | exact KeptX.refl _ _ | apply KeptX.drew | apply KeptX.drewN | apply KeptX.alloc | refine KeptX.trans ?_ (by assumption))))).mono ?_; rintro e w' ⟨rfl, hk1⟩; have hkm1 := hk1.km M) | (go_at_call 59; refine (LE2.out _ (HM2.out _ (by repeat (first | assumption | exact KeptX.refl _ _ | apply KeptX.drew | apply KeptX.drewN | apply KeptX.alloc | refine KeptX.trans ?_ (by assumption)))) (hM2.kept (by repeat (first | assumption | exact Kept.refl _ | apply Kept.drew | apply Kept.drewN | apply Kept.alloc | refine Kept.trans ?_ (by assumption))))).mono ?_; rintro e w' ⟨rfl, hkm1, hml⟩))
  all_goals
    go_wp2_with fail
    go_ret
    exact ⟨ret_int (by rw [Int.natCast_add]), hKM.trans (by repeat (first | assumption | exact KeptX.refl _ _ | apply KeptX.drew | apply KeptX.drewN | apply KeptX.alloc | refine KeptX.trans ?_ (by assumption))), (by first | assumption | exact Memo.kept (by assumption) (by repeat (first | assumption | exact Kept.refl _ | apply Kept.drew | apply Kept.drewN | apply Kept.alloc | refine Kept.trans ?_ (by assumption))))⟩
end Go.Proofs.Ytlgpclnmonpkjaa
namespace Go.Proofs.Ytlgpclnmonpkjaa
open Go.RowKit Go.Deep Go.Maps

set_option maxRecDepth 100000 in
theorem Try.underME : Try.prog.underlying 104 = some (.map 103 3) := by kernel_rfl
set_option maxRecDepth 100000 in
theorem Try.zeroIE (w : World) : (zeroValue 3).run Try.prog w = .ok (.int .i64 0) w := by kernel_rfl
set_option maxRecDepth 100000 in
set_option maxHeartbeats 8000000 in
theorem leastM_any (v : Value) (R : Road) (ok : R.Ok) (k m : Nat) (C : Nat → Nat) (s0 : Nat) (S : Nat → Nat) (M : Nat) (hm : m ≤ 12) (hk1 : 1 ≤ k) (hk3 : k ≤ 3) (hC : ∀ i, i < m → C i < R.n) : ∀ r s P w, s + r = m → (∀ j, j < 3 → P j < R.n) → PlansAt w v R k m C s0 S M → Memo w R C k m M →
    Calls Try.prog 59 #[v, StgV s P] w fun e w' => e = .returned (.int .i64 ((lst R C k r s P : Nat) : Int)) ∧ KM M w w' ∧ Memo w' R C k m M := by
  intro r
  induction r with
  | zero =>
    intro s P w hsr hPb hP hMem
    obtain rfl : s = m := by omega
    refine (least_end w v R ok k s C s0 S M hP P).mono ?_
    rintro e w' ⟨rfl, hk⟩
    exact ⟨rfl, hk.km M, hMem.kept hk⟩
  | succ r ih =>
    intro s P w hsr hPb hP hMem
    have hn10 := ok.max
    obtain ⟨F, HF⟩ : ∃ F : Nat → Nat, Hid (F = fun h => wayP R C s P h + lst R C k r (s + 1) (sentP C s P h)) := ⟨_, rfl⟩
    have HLS : Hid (lst R C k (r + 1) s P = minB F k) := by show _ = _; rw [HF.out]; rfl
    have HFL : Hid (∀ h, h < 3 → F h ≤ 360 + 360 * r) := by
      show ∀ h, _
      intro h hh
      rw [HF.out]
      have h2 := lst_le ok hC hk1 hk3 r (s + 1) (sentP C s P h) (by omega) (sentP_place hC (by omega) hPb)
      have h3 : wayP R C s P h ≤ 360 := Road.dist_le ok (Road.place_spot (hPb h hh)) (Road.place_spot (hC s (by omega)))
      show _ + _ ≤ _
      omega
    have LW : Hid (∀ W (h : Nat), h < 3 → PlansAt W v R k m C s0 S M → Memo W R C k m M → Calls Try.prog 61 #[v, StgV s P, .int .i64 (h : Int)] W fun e w' => e = .returned (.int .i64 ((F h : Nat) : Int)) ∧ KM M W w' ∧ Memo w' R C k m M) := by
      show ∀ W (h : Nat), _
      intro W h hh hW hMm
      rw [HF.out]
      exact leastWithM_any W v R ok k m C s0 S M hW (by omega) hC s P h (by omega) hh (hPb h hh) hMm (lst R C k r (s + 1) (sentP C s P h)) (by have := lst_le ok hC hk1 hk3 r (s + 1) (sentP C s P h) (by omega) (sentP_place hC (by omega) hPb); omega) (fun W2 hW2 hM2 => ih (s + 1) (sentP C s P h) W2 (by omega) (sentP_place hC (by omega) hPb) hW2 hM2)
    have HKEY := Lib.hid (stage_key s P (by omega) (fun j hj => by have := hPb j hj; omega))
    have HGP : Hid (∀ D, goodD R C k m D → IsMap D → goodD R C k m (D.put (stK s P) (.lit (.int .i64 ((minB F k : Nat) : Int))))) := by
      show ∀ D, _
      intro D hg hi
      have h1 := good_put ok hg hi hm hk3 (s := s) (P := P) (by omega) hPb
      rw [show m - s = r + 1 by omega, HLS.out] at h1
      exact h1
    have HGV : Hid (∀ D, goodD R C k m D → has D (stK s P) = true → D.atKey (stK s P) (.lit (.int .i64 0)) = .lit (.int .i64 ((minB F k : Nat) : Int))) := by
      show ∀ D, _
      intro D hg hh
      have h1 := hg.2 s P (by omega) hPb hh
      rw [show m - s = r + 1 by omega, HLS.out] at h1
      exact h1
    have HWF : Hid ((Lit.int .i64 ((minB F k : Nat) : Int)).wf = true) := by
      show _ = _
      have h1 := minB_le F k 0 (by omega)
      have h2 := HFL.out 0 (by omega)
      have h3 : minB F k ≤ 1000000 := by omega
      generalize minB F k = z at h3
      exact WalkArith.wf_i64 ⟨by omega, by omega⟩
    rw [HLS.out]
    clear ih
    have hP0 := hP
    obtain ⟨b0, o0, c0, b1, o1, c1, b2, o2, c2, ca, cb, co, ccap, rfl, _, hca, hc⟩ := hP.open ok
    unfold StgV at LW HKEY ⊢
    obtain ⟨n0, HN0⟩ : ∃ n0, w.heap.size = n0 := ⟨_, rfl⟩
    obtain ⟨W1, hW1, hsz, q0, q1, q2, q3, q4, q5, q6, q7, q8, q9, hK⟩ := newbox10 w n0 HN0 (.slice (some ⟨b0, o0, none⟩) R.n c0) (.slice (some ⟨b1, o1, none⟩) R.n c1) (.slice (some ⟨b2, o2, none⟩) R.n c2) (.slice ca m ccap) (.int .i64 (k : Int)) (.int .i64 (s0 : Int)) (.int .i64 (S 0 : Int)) (.int .i64 (S 1 : Int)) (.int .i64 (S 2 : Int)) (.map (some M)) 106
    obtain ⟨W2, hW2, hsz2, y0, y1, y2, y3, hK1⟩ := newbox4 W1 (n0 + 1) hsz (.int .i64 (s : Int)) (.int .i64 ((P 0 : Nat) : Int)) (.int .i64 ((P 1 : Nat) : Int)) (.int .i64 ((P 2 : Nat) : Int)) 103
    obtain ⟨z0, z1, z2, z3, z4, z5, z6, z7, z8, z9, _⟩ := keep10 q0 q1 q2 q3 q4 q5 q6 q7 q8 q9 hK1
    have hK2 := hK.trans hK1
    have hP2 := hP0.kept hK2
    have hM2 := hMem.kept hK2
    have HM2 := Lib.hid (fun w' (k6 : KM M W2 w') => hP2.ofCells (hM2.cells k6))
    have hKM := hK2.km M
    have hM2' := hM2
    obtain ⟨D, n, hown, hnl, hg⟩ := hM2'
    have m1 : ¬ (s : Int) = (m : Int) := by omega
    clear q0 q1 q2 q3 q4 q5 q6 q7 q8 q9 hc hP hP0 hMem hPb
    cases hhas : has D (stK s P) with
    | true =>
      have HV := Lib.hid (HGV.out D hg hhas)
      go_enter Try.func59, Try.ntmps59
      go_wp2_with (first | (at_lookup; refine wpList_lookup_own_ok_int _ rfl _ _ 104 rfl 103 3 .i64 stage_keyed Try.underME Try.under3E (Try.zeroIE _) M n D rfl hown _ _ rfl HKEY.out ?_; intro c hat hwc; have hce := HV.out; rw [hat] at hce; injection hce with hce; injection hce with _ hce; subst hce; clear hat hwc))
      go_ret
      exact ⟨rfl, hKM, hM2⟩
    | false =>
      go_enter Try.func59, Try.ntmps59
      go_wp2_with (first | (at_lookup; refine wpList_lookup_own_ok_int _ rfl _ _ 104 rfl 103 3 .i64 stage_keyed Try.underME Try.under3E (Try.zeroIE _) M n D rfl hown _ _ rfl HKEY.out ?_; intro c hat hwc; clear hat hwc))
      clear hW1 hW2 hsz hsz2 HN0 hhas hown hg hnl
      go_loopg [7, 26] k (fun g s7 s26 wr => ∃ h : Nat, h ≤ k ∧ g = k - h ∧ s26 = .int .i64 h ∧ s7 = .int .i64 ((minB F h : Nat) : Int) ∧ KM M W2 wr ∧ Memo wr R C k m M)
      case atStart => exact ⟨0, Nat.zero_le _, rfl, rfl, rfl, KeptX.refl _ _, hM2⟩
      case round =>
        obtain ⟨jj, hle, rfl, rfl, rfl, hKr, hMr⟩ := hrel
        obtain ⟨x0, x1, x2, x3, x4, x5, x6, x7, x8, x9, u0, u1, u2, u3, _⟩ := keepM14 z0 z1 z2 z3 z4 z5 z6 z7 z8 z9 y0 y1 y2 y3 hM2 hKr
        by_cases hlt : jj < k
        · have n1 : (jj : Int) < (k : Int) := by omega
          have LW2 := Lib.hid (LW.out wr jj (by omega) (HM2.out wr hKr) hMr)
          have hfl := HFL.out jj (by omega)
          have HNX : Hid (minB F (jj + 1) = min (minB F jj) (F jj)) := rfl
          obtain ⟨a, HA⟩ : ∃ a, Hid (a = F jj) := ⟨_, rfl⟩
          rw [← HA.out] at LW2 hfl HNX
          obtain ⟨ms, HMS⟩ : ∃ ms, Hid (ms = minB F jj) := ⟨_, rfl⟩
          rw [← HMS.out] at HNX ⊢
          clear LW HM2 z0 z1 z2 z3 z4 z5 z6 z7 z8 z9 y0 y1 y2 y3
          go_wp2_with (first | (go_at_call 61; refine LW2.out.mono ?_; rintro e w7 ⟨rfl, hk7, hM7⟩))
          all_goals
            go_roundg (k - (jj + 1))
            case measure => omega
            case rel => exact ⟨jj + 1, by omega, rfl, by go_num, by rw [HNX.out]; congr 1; omega, hKr.trans hk7, hM7⟩
        · obtain rfl : jj = k := by omega
          obtain ⟨D, n, hown, hnl, hg⟩ := hMr
          have n1 : ¬ (jj : Int) < (jj : Int) := by omega
          clear LW HM2
          go_wp2_with (first | (at_mapUpdate; refine wpList_mapUpdate_own _ rfl _ _ _ 104 rfl 103 3 stage_keyed Try.underME _ M n D rfl hown hnl _ _ (stK s P) rfl rfl HKEY.out _ [] (plainElem_int Try.under3E HWF.out) ?_; intro w1 hown1 hgrow1))
          all_goals
            go_ret
            exact ⟨rfl, hKM.trans (hKr.trans (KeptX.grown (KeptX.refl _ _) hgrow1 (fun j hj => Or.inl (by injection hj with hj; exact hj.symm)))), Memo.of hown1 (HGP.out D hg hown.isMap)⟩
end Go.Proofs.Ytlgpclnmonpkjaa
namespace Go.Proofs.Ytlgpclnmonpkjaa
open Go.RowKit Go.Deep

set_option maxRecDepth 100000 in
set_option maxHeartbeats 8000000 in
theorem Best_ok (w : World) (v hv cv : Value) (nO nL : Nat) (fO fL : Nat → Int) (hR : RoadIn w v nO nL fO fL) (hnO : nO ≤ 1000000000) (hnL : nL ≤ 1000000000) (k : Nat) (A B : Nat → Int) (hP : PairsAt w hv k A B) (m : Nat) (C : Nat → Int) (hC : IntsAt w cv m C) (hok : plOk nO nL fO fL k A B m C = true) :
    Calls Try.prog 33 #[v, hv, cv] w fun e w' => e = .returned (.tuple #[.int .i64 ((lst (roadR nO fO fL) (callsN C) k m 0 (begS k A) : Nat) : Int), .int .i64 0]) ∧ Kept w w' := by
  have hR0 := hR
  obtain ⟨p1, hk1, hk3, hm12, p5, p6⟩ := withOk_parts (plOk_with hok)
  have ok := roadR_ok p1
  have hSb := begS_place (plOk_with hok)
  obtain ⟨hI, hcp⟩ := calls_ints hC p6
  obtain ⟨x, y, rfl, ⟨aO, bO, oO, cO, rfl, _, _⟩, ⟨aL, bL, oL, cL, rfl, _, _⟩⟩ := hR
  obtain ⟨ha, hha, hhc, rfl⟩ : ∃ a n c, hv = .slice a n c := by obtain ⟨a, _, _, cap, e, _⟩ := hP; exact ⟨a, k, cap, e⟩
  obtain ⟨ca, cca, ccc, rfl⟩ : ∃ a n c, cv = .slice a n c := by obtain ⟨a, _, _, cap, e, _⟩ := hC; exact ⟨a, m, cap, e⟩
  have PO := Lib.hid (fun W (hW : RoadIn W (.agg #[.slice aO nO cO, .slice aL nL cL]) nO nL fO fL) (hP : PairsAt W (.slice ha hha hhc) k A B) (hC : IntsAt W (.slice ca cca ccc) m C) => plansOf_any W _ _ _ nO nL fO fL hW hnO hnL k A B hP (by omega) m C hC (by omega))
  obtain ⟨n0, HN0⟩ : ∃ n0, w.heap.size = n0 := ⟨_, rfl⟩
  obtain ⟨W1, hW1, hsz, q0, q1, hK⟩ := newbox2 w n0 HN0 (.slice aO nO cO) (.slice aL nL cL) 24
  have hR1 := hR0.kept hK
  have hP1 := hP.kept hK
  have hC1 := hC.kept hK
  obtain ⟨z0, HZ0⟩ : ∃ z0 : Nat, Hid (z0 = 0) := ⟨0, rfl⟩
  have LM : Hid (∀ W pv M (a0 a1 a2 : Nat) (h0 : a0 = begS k A 0) (h1 : a1 = begS k A 1) (h2 : a2 = begS k A 2) (hW : PlansAt W pv (roadR nO fO fL) k m (callsN C) z0 (begS k A) M) (hMm : Memo W (roadR nO fO fL) (callsN C) k m M), Calls Try.prog 59 #[pv, .agg #[.int .i64 (z0 : Int), .int .i64 (a0 : Int), .int .i64 (a1 : Int), .int .i64 (a2 : Int)]] W fun e w' => e = .returned (.int .i64 ((lst (roadR nO fO fL) (callsN C) k m 0 (begS k A) : Nat) : Int)) ∧ KM M W w' ∧ Memo w' (roadR nO fO fL) (callsN C) k m M) := by
    show ∀ W pv, _
    intro W pv M a0 a1 a2 h0 h1 h2 hW hMm
    subst h0
    subst h1
    subst h2
    have e := HZ0.out
    subst e
    exact leastM_any pv (roadR nO fO fL) ok k m (callsN C) 0 (begS k A) M hm12 hk1 hk3 hcp m 0 (begS k A) W (by omega) hSb hW hMm
  have HOK := Lib.hid hok
  obtain ⟨res, HRES⟩ : ∃ res, Hid (res = lst (roadR nO fO fL) (callsN C) k m 0 (begS k A)) := ⟨_, rfl⟩
  rw [← HRES.out] at LM ⊢
  obtain ⟨BS, HBS⟩ : ∃ BS, Hid (BS = begS k A) := ⟨_, rfl⟩
  rw [← HBS.out] at LM
  clear hok p1 p5 p6 hcp hI hSb HRES
  go_enter Try.func33, Try.ntmps33
  go_wp2_with (first | (go_at_call 58; refine (PO.out _ hR1 hP1 hC1).mono ?_; intro e w3 hpp; obtain ⟨pv, M, rfl, hPl3, hM9, hMM, hk3'⟩ := PlansPost.ok HOK.out hpp; rw [← HBS.out] at hPl3; rw [← HZ0.out] at hPl3; obtain ⟨b0, o0, c0, b1, o1, c1, b2, o2, c2, pca, pcb, pco, pcc, rfl, _, _, _⟩ := id (hPl3.open ok); obtain ⟨a0, Ha0⟩ : ∃ a0, Hid (a0 = BS 0) := ⟨_, rfl⟩; obtain ⟨a1, Ha1⟩ : ∃ a1, Hid (a1 = BS 1) := ⟨_, rfl⟩; obtain ⟨a2, Ha2⟩ : ∃ a2, Hid (a2 = BS 2) := ⟨_, rfl⟩; rw [← Ha0.out, ← Ha1.out, ← Ha2.out] at hPl3 ⊢; have hMe := Memo.made (R := (roadR nO fO fL)) (C := callsN C) (k := k) (m := m) hMM; obtain ⟨n4, HN4⟩ : ∃ n4, w3.heap.size = n4 := ⟨_, rfl⟩; obtain ⟨W4, hW4, hsz4, u0, u1, u2, u3, u4, u5, u6, u7, u8, u9, hK4⟩ := newbox10 w3 n4 HN4 (.slice (some ⟨b0, o0, none⟩) (roadR nO fO fL).n c0) (.slice (some ⟨b1, o1, none⟩) (roadR nO fO fL).n c1) (.slice (some ⟨b2, o2, none⟩) (roadR nO fO fL).n c2) (.slice pca m pcc) (.int .i64 (k : Int)) (.int .i64 (z0 : Int)) (.int .i64 (a0 : Int)) (.int .i64 (a1 : Int)) (.int .i64 (a2 : Int)) (.map (some M)) 106; have hPl4 := hPl3.kept hK4; have hMe4 := hMe.kept hK4; have hKa := (hK.trans hk3').trans hK4; have hM10 := Nat.le_trans hK.size hM9) | (go_at_call 59; refine (LM.out _ _ M a0 a1 a2 Ha0.out Ha1.out Ha2.out hPl4 hMe4).mono ?_; rintro e w5 ⟨rfl, hk5, _⟩))
  exact bodyPost_ret (v := .tuple #[.int .i64 (res : Int), .int .i64 0]) (by simp [results, Try.results33, go_sem]; try rfl) rfl ⟨rfl, hKa.step hk5 (fun i hi => by rw [hi]; exact hM10)⟩
end Go.Proofs.Ytlgpclnmonpkjaa
namespace Go.Proofs.Ytlgpclnmonpkjaa
open Go.RowKit Go.Deep

theorem one_go {R : Road} (h : R.Ok) {t : Nat} (ht : t < R.n) : ∀ n H, (∀ i, i < 1 → R.spot (H i)) → farS R H t 1 ≤ n → (goR R t 1 H).2 = farS R H t 1 := by
  intro n
  induction n with
  | zero =>
    intro H hS hn
    have hh := far_zero h ht hS (Nat.le_refl 1) (by omega)
    rw [goR_here hh]
    show 0 = _
    omega
  | succ n ih =>
    intro H hS hn
    by_cases hh : hasSp H (t, 0) 1 = true
    · obtain ⟨i, hi, e⟩ := hasSp_iff.1 hh
      obtain rfl : i = 0 := by omega
      rw [goR_here hh]
      show 0 = 0 + R.dist (H 0) (t, 0)
      rw [(Road.dist_zero h (hS 0 (by omega)) (Road.place_spot ht)).2 e]
    · obtain ⟨e1, e2, e3⟩ := goR_step h ht (Nat.le_refl 1) hS (by simpa using hh)
      have g := ih (stepH R H t 1) (stepH_spot h ht hS) (by omega)
      rw [e1]
      show (goR R t 1 (stepH R H t 1)).2 + cnt (mayB R H t 1) 1 = _
      omega
theorem one_end {R : Road} (h : R.Ok) {t : Nat} (ht : t < R.n) {H : Nat → Sp} (hS : ∀ i, i < 1 → R.spot (H i)) : (goR R t 1 H).1 0 = (t, 0) := by
  obtain ⟨_, g, _⟩ := goR_spot h ht (Nat.le_refl 1) _ H hS (Nat.le_refl _)
  obtain ⟨i, hi, e⟩ := hasSp_iff.1 g
  obtain rfl : i = 0 := by omega
  exact e
theorem one_is {R : Road} (h : R.Ok) {m : Nat} {C : Nat → Nat} (hC : ∀ i, i < m → C i < R.n) {H : Nat → Sp} (hS : ∀ i, i < 1 → R.spot (H i)) (S F : Nat → Nat) (h0 : H 0 = (S 0, 0)) (hF : ∀ i, i < m → F i = 0) : ∀ i, i ≤ m → servH R 1 C H i 0 = (pS C F S i 0, 0) := by
  intro i
  induction i with
  | zero => intro _; exact h0
  | succ i ih =>
    intro hi
    have hs := servH_spot h (Nat.le_refl 1) hC hS i (by omega)
    show (goR R (C i) 1 (servH R 1 C H i)).1 0 = (sentP C i (pS C F S i) (F i) 0, 0)
    rw [one_end h (hC i (by omega)) hs, hF i (by omega)]
    simp [sentP]
theorem one_cost {R : Road} (h : R.Ok) {m : Nat} {C : Nat → Nat} (hC : ∀ i, i < m → C i < R.n) {H : Nat → Sp} (hS : ∀ i, i < 1 → R.spot (H i)) (S F : Nat → Nat) (h0 : H 0 = (S 0, 0)) (hF : ∀ i, i < m → F i = 0) : ∀ i, i ≤ m → cstP R C F S i = sumN (servC R 1 C H) i := by
  intro i
  induction i with
  | zero => intro _; rfl
  | succ i ih =>
    intro hi
    have hs := servH_spot h (Nat.le_refl 1) hC hS i (by omega)
    have e := one_go h (hC i (by omega)) _ _ hs (Nat.le_refl _)
    have e2 := one_is h hC hS S F h0 hF i (by omega)
    simp only [cstP, sumN]
    rw [ih (by omega)]
    congr 1
    show wayP R C i (pS C F S i) (F i) = (goR R (C i) 1 (servH R 1 C H i)).2
    rw [e, hF i (by omega)]
    show _ = 0 + R.dist (servH R 1 C H i 0) (C i, 0)
    rw [e2, Nat.zero_add]
    rfl
theorem one_lst {R : Road} (h : R.Ok) {m : Nat} (hm : m ≤ 12) {C : Nat → Nat} (hC : ∀ i, i < m → C i < R.n) (S F : Nat → Nat) (hSb : ∀ j, j < 3 → S j < R.n) (hF : ∀ i, i < m → F i = 0) : ∀ r s, s + r = m → lst R C 1 r s (pS C F S s) + cstP R C F S s = cstP R C F S m := by
  intro r
  induction r with
  | zero => intro s hs; obtain rfl : s = m := (by omega); simp [lst]
  | succ r ih =>
    intro s hs
    have h1 := ih (s + 1) (by omega)
    have hp := pS_place (F := F) hC hSb s (by omega)
    have h2 := lst_le h hC (Nat.le_refl 1) (by omega) r (s + 1) (pS C F S (s + 1)) (by omega) (pS_place hC hSb (s + 1) (by omega))
    have h3 : wayP R C s (pS C F S s) 0 ≤ 360 := Road.dist_le h (Road.place_spot (hp 0 (by omega))) (Road.place_spot (hC s (by omega)))
    have e1 : pS C F S (s + 1) = sentP C s (pS C F S s) 0 := by show sentP C s (pS C F S s) (F s) = _; rw [hF s (by omega)]
    have e2 : cstP R C F S (s + 1) = cstP R C F S s + wayP R C s (pS C F S s) 0 := by show _ + wayP R C s (pS C F S s) (F s) = _; rw [hF s (by omega)]
    rw [e2] at h1
    rw [e1] at h1 h2
    have e3 : lst R C 1 (r + 1) s (pS C F S s) = min 1048576 (wayP R C s (pS C F S s) 0 + lst R C 1 r (s + 1) (sentP C s (pS C F S s) 0)) := rfl
    rw [e3]
    omega
theorem plOk_nat {nP : Nat} {p0 p1 : Nat → Nat} {k m : Nat} {G : Nat → Sp} {C : Nat → Nat} (hk1 : 1 ≤ k) (hk3 : k ≤ 3) (hm : m ≤ 12) (hG : ∀ i, i < k → (mR nP p0 p1).spot (G i)) (hG0 : ∀ i, i < k → (G i).2 = 0) (hC : ∀ i, i < m → C i < mN nP) : plOk (mN nP) (mN nP) (natI (mO p0)) (natI (mL p1)) k (fstI G) (sndI G) m (natI C) = true := by
  unfold plOk
  rw [with_nat hk1 hk3 hm hG hC]
  show atPl k (sndI G) = true
  unfold atPl
  exact allN_true.2 fun i hi => by unfold sndI; rw [hG0 i hi]; rfl
theorem Best_nat (w : World) (v hv cv : Value) {nP : Nat} {p0 p1 : Nat → Nat} (hR : RoadIn w v (mN nP) (mN nP) (natI (mO p0)) (natI (mL p1))) (k m : Nat) (G : Nat → Sp) (C : Nat → Nat) (hP : SpsAt w hv k G) (hCv : IntsAt w cv m (natI C)) (hk1 : 1 ≤ k) (hk3 : k ≤ 3) (hm : m ≤ 12) (hG : ∀ i, i < k → (mR nP p0 p1).spot (G i)) (hG0 : ∀ i, i < k → (G i).2 = 0) (hC : ∀ i, i < m → C i < mN nP) :
    Calls Try.prog 33 #[v, hv, cv] w fun e w' => e = .returned (.tuple #[.int .i64 ((lst (mR nP p0 p1) C k m 0 (begS k (fstI G)) : Nat) : Int), .int .i64 0]) ∧ Kept w w' := by
  have hn := mN_le nP
  have h := Best_ok w v hv cv (mN nP) (mN nP) _ _ hR (by omega) (by omega) k (fstI G) (sndI G) hP m (natI C) hCv (plOk_nat hk1 hk3 hm hG hG0 hC)
  rw [callsN_nat] at h
  exact h
theorem Nearest_nat (w : World) (v hv cv : Value) {nP : Nat} {p0 p1 : Nat → Nat} (hR : RoadIn w v (mN nP) (mN nP) (natI (mO p0)) (natI (mL p1))) (k m : Nat) (G : Nat → Sp) (C : Nat → Nat) (hP : SpsAt w hv k G) (hCv : IntsAt w cv m (natI C)) (hk1 : 1 ≤ k) (hk3 : k ≤ 3) (hm : m ≤ 12) (hG : ∀ i, i < k → (mR nP p0 p1).spot (G i)) (hG0 : ∀ i, i < k → (G i).2 = 0) (hC : ∀ i, i < m → C i < mN nP) :
    Calls Try.prog 35 #[v, hv, cv] w fun e w' => ∃ F : Nat → Nat, (∀ i, F i < k) ∧ e = .returned (.tuple #[.int .i64 ((cstP (mR nP p0 p1) C F (begS k (fstI G)) m : Nat) : Int), .int .i64 0]) ∧ Kept w w' := by
  have hn := mN_le nP
  have h := Nearest_ok w v hv cv (mN nP) (mN nP) _ _ hR (by omega) (by omega) k (fstI G) (sndI G) hP m (natI C) hCv (plOk_nat hk1 hk3 hm hG hG0 hC)
  rw [callsN_nat] at h
  exact h.mono fun e w' hh => ⟨_, nearF_lt _ _ _ _ _ _ hk1, hh⟩
theorem made_zero (n : Nat) (p1 h0 h1 : Nat → Nat) (nH i : Nat) : (mH n p1 h0 h1 nH true i).2 = 0 := by unfold mH; simp
end Go.Proofs.Ytlgpclnmonpkjaa
