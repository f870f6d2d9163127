/-
  Package herd: Groups.
-/
import Derived.Test.YtlnlddnjalfamaaGreatDoorHj
import Derived.Test.YtlnlddnjalfamaaGreatDoorJj
namespace Go.Proofs.YtlnlddnjalfamaaGreatDoor
open Go.RowKit Go.Deep Go.Shelf
attribute [local go_sem] Oper.semAt_some

/-- how many of these have s horses -/
def cntE (E : Nat → Nat) (l : List Nat) (s : Nat) : Nat := (l.filter fun x => size16 (E x) == s).length
theorem cntE_snoc (E : Nat → Nat) (pre : List Nat) (x s : Nat) : cntE E (pre ++ [x]) s = cntE E pre s + (if size16 (E x) = s then 1 else 0) := by
  unfold cntE
  rw [List.filter_append, List.length_append]
  congr 1
  by_cases h : size16 (E x) = s <;> simp [h]
theorem cntE_le (E : Nat → Nat) (l : List Nat) (s : Nat) : cntE E l s ≤ l.length := List.length_filter_le _ _
theorem cntE_map {E : Nat → Nat} {l : List Nat} {s : Nat} (h : ∀ x, x ∈ l → E x = x) : cntE E l s = cntS s l := by
  unfold cntE cntS
  congr 1
  refine List.filter_congr fun x hx => ?_
  rw [h x hx]
/-- a row, where the step turns no block of cells -/
theorem row_ownF {W W' : World} {row : Option Nat} {b : Nat} {t : TypeId} {n : Nat} {f : Nat → Value} (h : W.rowIs b t n f) (hg : W.grownBy W' row) (hrow : ∀ r, row = some r → ∃ o : Obj, W.heap[r]? = some o ∧ o.isCells = false) : W'.rowIs b t n f := by
  obtain ⟨c, hb, rest⟩ := h
  have h1 := grownBy_keeps_cells hg hrow hb rfl
  exact World.rowIs.of_block ⟨c, hb, rest⟩ h1
theorem cliq_most {H : Nat → Nat} {n x : Nat} (hn : n ≤ 14) (h : x ∈ cliq H n n 0 (allH n)) : size16 x ≤ size16 (best H n) := by
  have h1 := (cliq_all hn).1 h
  have := (best_spec H hn).2 x h1.1 h1.2
  omega
/-- what Groups returns -/
def GroupsAns (w : World) (n : Int) (A B : Nat → Int) (m : Nat) (e : Ending) (w' : World) : Prop :=
  Kept w w' ∧ if goodH n A B m then ∃ v : Value, e = .returned (.tuple #[v, .int .i64 0]) ∧ IntsAt w' v (size16 (best (alongH A B m) n.toNat) + 1) (fun i => ((cntS i (cliq (alongH A B m) n.toNat n.toNat 0 (allH n.toNat)) : Nat) : Int)) else e = .returned (.tuple #[.slice none 0 0, .int .i64 1])
set_option maxRecDepth 100000 in
set_option maxHeartbeats 4000000 in
theorem Groups_good (w : World) (n : Nat) (v : Value) (m : Nat) (A B : Nat → Int) (hP : PairsAt w v m A B) (hm : m ≤ 1000000) (hn1 : 1 ≤ n) (hn : n ≤ 9) (hgood : goodH (n : Int) A B m = true) (hlts : ∀ i, i < n → alongH A B m i < 65536) :
    CallsIn Fence.wide 5 Tryz.prog 11 #[.int .i64 n, v] w fun e w' => (∃ v : Value, e = .returned (.tuple #[v, .int .i64 0]) ∧ IntsAt w' v (size16 (best (alongH A B m) n) + 1) (fun i => ((cntS i (cliq (alongH A B m) n n 0 (allH n)) : Nat) : Int))) ∧ Below w.heap.size w w' := by
  have hdd : ∀ k : Nat, (Fence.wide.depth.isSome = true → 1 ≤ k) := fun k h => by cases h
  have HO := Lib.hid (herdOf_any w n v m A B hP hm)
  unfold HerdOfPost at HO
  simp only [if_pos hgood, Int.toNat_natCast] at HO
  obtain ⟨H, HH⟩ : ∃ H, Hid (H = alongH A B m) := ⟨_, rfl⟩
  rw [← HH.out] at hlts HO ⊢
  have hcl : (cliq H n n 0 (allH n)).length ≤ 1000000000 := by
    refine Nat.le_trans (cliq_len H n n 0 (allH n)) ?_
    refine Nat.le_trans (Nat.pow_le_pow_left (show n + 1 ≤ 10 by omega) n) ?_
    exact Nat.pow_le_pow_right (n := 10) (by omega) (show n ≤ 9 by omega)
  have HCL := Lib.hid hcl
  obtain ⟨M, HM⟩ : ∃ M, Hid (M = best H n) := ⟨_, rfl⟩
  have hM : M < 65536 := by rw [HM.out]; exact best_lt _ (by omega)
  have hS : size16 M ≤ 16 := cnt_le _ _
  have GA := Lib.hid (fun (W : World) (g : Nat) (hG : W.rowIs g 84 n (fun i => setV (H i))) => greatest_any W g n n H hG hlts (by omega) (by omega))
  rw [← HM.out] at GA ⊢
  have SZ := Lib.hid (fun W => size_any W M hM)
  obtain ⟨s, HS⟩ : ∃ s, Hid (s = size16 M) := ⟨_, rfl⟩
  rw [← HS.out] at SZ hS ⊢
  clear hcl hgood HH
  have hmk : ∀ W : World, (Instr.makeSlice 27 (.int .i64 ((s : Int) + 1)) (.int .i64 ((s : Int) + 1))).run Tryz.prog W = .ok (.slice (some ⟨W.heap.size, 0, none⟩) (s + 1) (s + 1)) (W.alloc (.cells (madeCells #[.int .i64 0] (s + 1)) 3)) := fun W => mkInts (s + 1) (by omega) W
  refine callsIn_of_wp_marks Tryz.func11 rfl trivial ?_ rfl
  simp only [Tryz.ntmps11, List.size_toArray, List.length_cons, List.length_nil, Nat.reduceAdd, Nat.reduceSub, Array.replicate_succ, Array.replicate_zero, List.push_toArray, List.append_toArray, List.nil_append, List.cons_append]
  gi_wp2_with ((first | refine ⟨trivial, hdd _, ?_⟩ | refine ⟨trivial, ?_⟩ | skip); (first | (gi_at_call 41; refine (callsIn_wide.2 HO.out).mono ?_; rintro e w2 ⟨hk2, g, rfl, hgs, hG⟩) | (gi_at_call 42; refine (callsIn_wide.2 (GA.out _ g hG)).mono ?_; rintro e w3 ⟨rfl, hk3⟩) | (gi_at_call 44; refine (callsIn_wide.2 (SZ.out _)).mono ?_; rintro e w4 ⟨rfl, q4, rfl⟩) | (gi_at_call 45; refine (groups_in _ _ _ _ _).mono ?_; rintro e w5 ⟨rfl, rfl⟩)))
  have hgl := hG.lt
  have hG3 := hk3.row hG
  have hgl3 := hG3.lt
  have hs2 := hk2.size
  have hs3 := hk3.size
  have hr0 := World.rowIs_made (w3.drewN q4) (.int .i64 0) (s + 1) 3
  have hbx := cell_newbox ((w3.drewN q4).alloc (.cells (madeCells #[.int .i64 0] (s + 1)) 3)) (.slice (some ⟨w3.heap.size, 0, none⟩) (s + 1) (s + 1)) 27
  have hhb := cell_newbox (((w3.drewN q4).alloc (.cells (madeCells #[.int .i64 0] (s + 1)) 3)).alloc (.cells #[.slice (some ⟨w3.heap.size, 0, none⟩) (s + 1) (s + 1)] 27)) (.slice (some ⟨g, 0, none⟩) n n) 80
  have hB5 : Below w3.heap.size w3 ((((w3.drewN q4).alloc (.cells (madeCells #[.int .i64 0] (s + 1)) 3)).alloc (.cells #[.slice (some ⟨w3.heap.size, 0, none⟩) (s + 1) (s + 1)] 27)).alloc (.cells #[.slice (some ⟨g, 0, none⟩) n n] 80)) :=
    ((((⟨rfl, rfl, rfl, Nat.le_refl _, fun _ _ => rfl⟩ : Below w3.heap.size w3 (w3.drewN q4)).alloc (Nat.le_refl _) _).alloc (by simp) _).alloc (by simp; omega) _)
  have hsz5 : ((((w3.drewN q4).alloc (.cells (madeCells #[.int .i64 0] (s + 1)) 3)).alloc (.cells #[.slice (some ⟨w3.heap.size, 0, none⟩) (s + 1) (s + 1)] 27)).alloc (.cells #[.slice (some ⟨g, 0, none⟩) n n] 80)).heap.size = w3.heap.size + 3 := by simp
  have hr5 := ((Kept.refl _).alloc (.cells #[.slice (some ⟨g, 0, none⟩) n n] 80)).row (((Kept.refl _).alloc (.cells #[.slice (some ⟨w3.heap.size, 0, none⟩) (s + 1) (s + 1)] 27)).row hr0)
  have hb5 := cell_alloced (.cells #[.slice (some ⟨g, 0, none⟩) n n] 80) hbx.1
  have hf5 := frozen_alloced (.cells #[.slice (some ⟨g, 0, none⟩) n n] 80) hbx.1 hbx.2
  have hh5 := hhb.1
  have e1 : ((w3.drewN q4).alloc (.cells (madeCells #[.int .i64 0] (s + 1)) 3)).heap.size = w3.heap.size + 1 := by simp
  have e2 : (((w3.drewN q4).alloc (.cells (madeCells #[.int .i64 0] (s + 1)) 3)).alloc (.cells #[.slice (some ⟨w3.heap.size, 0, none⟩) (s + 1) (s + 1)] 27)).heap.size = w3.heap.size + 2 := by simp
  have e0 : (w3.drewN q4).heap.size = w3.heap.size := rfl
  rw [e1] at hb5 hf5
  rw [e2] at hh5
  rw [e0] at hr5
  have hc5 : ∀ i, i < n → ((((w3.drewN q4).alloc (.cells (madeCells #[.int .i64 0] (s + 1)) 3)).alloc (.cells #[.slice (some ⟨w3.heap.size, 0, none⟩) (s + 1) (s + 1)] 27)).alloc (.cells #[.slice (some ⟨g, 0, none⟩) n n] 80)).cell? ⟨g, 0 + i, none⟩ = some (.int .u16 ((H i : Nat) : Int)) := fun i hi => (hB5.cell (p := ⟨g, 0 + i, none⟩) hgl3).trans (by rw [Nat.zero_add]; exact hG3.cell hi)
  clear hr0 hbx hhb e0 e1 e2 hmk GA HO
  generalize (((w3.drewN q4).alloc (.cells (madeCells #[.int .i64 0] (s + 1)) 3)).alloc (.cells #[.slice (some ⟨w3.heap.size, 0, none⟩) (s + 1) (s + 1)] 27)).alloc (.cells #[.slice (some ⟨g, 0, none⟩) n n] 80) = W5 at *
  have hBw : Below w.heap.size w W5 := (hk2.trans hk3).since.trans (hB5.mono (by omega))
  obtain ⟨E, hElt, hEs, hEq⟩ : ∃ E : Nat → Nat, (∀ x, E x < 65536) ∧ (∀ x, size16 (E x) ≤ s) ∧ ∀ x, x ∈ cliq H n n 0 (allH n) → E x = x := by
    refine ⟨fun x => if x < 65536 ∧ size16 x ≤ s then x else 0, fun x => ?_, fun x => ?_, fun x hx => if_pos ⟨cliq_lt (by omega) hx, ?_⟩⟩
    · by_cases h : x < 65536 ∧ size16 x ≤ s
      · simp only [if_pos h]; exact h.1
      · simp only [if_neg h]; decide
    · by_cases h : x < 65536 ∧ size16 x ≤ s
      · simp only [if_pos h]; exact h.2
      · simp only [if_neg h]
        have : size16 0 = 0 := by decide
        omega
    · rw [HS.out, HM.out]
      exact cliq_most (by omega) hx
  have hfin : Hid (∀ i, cntE E (cliq H n n 0 (allH n)) i = cntS i (cliq H n n 0 (allH n))) := fun i => cntE_map hEq
  have HES := Lib.hid hEs
  have HEL := Lib.hid hElt
  obtain ⟨Z, HZ⟩ : ∃ Z, Hid (Z = w3.heap.size) := ⟨_, rfl⟩
  rw [← HZ.out] at hB5 hsz5 hr5 hb5 hf5 hh5 hgl3 ⊢
  have hZw : w.heap.size ≤ Z := by rw [HZ.out]; omega
  clear hEs hElt hG3 hG hk2 hk3 hgl hs2 hs3 HZ
  refine wpIn_rangeFunc_ownF (F := Fence.wide) (n := 5) rfl (by decide) (gf := 75) (lb := #[.pointer (some ⟨Z + 2, 0, none⟩)]) rfl trivial (enters_of Tryz.func75 (by kernel_rfl) rfl)
    (groups_stopsE _ n (by omega) hn1 g (Z + 2) Z n H hlts W5 (by omega) hgl3 (by omega) E hEq hh5 hc5) belowK_t (belowK_b (by omega)) (Below.refl _ _) (fun _ => rfl)
    (fun pre W => (W.cell? ⟨Z + 1, 0, none⟩ = some (.slice (some ⟨Z, 0, none⟩) (s + 1) (s + 1)) ∧ W.rowIs Z 3 (s + 1) (fun i => .int .i64 ((cntE E pre i : Nat) : Int))) ∧ Below w.heap.size w W)
    (fun _ _ _ => False)
    (OwnFrom.and (Own.from (fun s A B row hs hg hr => ⟨cell_kept hs.1 hg hr, row_ownF hs.2 hg hr⟩) _) (ownFrom_below (Nat.le_refl _) (by omega)))
    (fun _ _ _ _ _ hs _ _ => hs)
    ⟨⟨hb5, hr5⟩, hBw⟩
    (fun x => { tmps := #[.int .i64 n, v, undef, undef, .slice none 0 0, .int .i64 0, .slice (some ⟨g, 0, none⟩) n n, .int .i64 0, .pointer (some ⟨Z + 1, 0, none⟩), .int .u16 ((E x : Nat) : Int), .tuple #[.slice (some ⟨g, 0, none⟩) n n, .int .i64 0], .int .i64 n, v, .tuple #[.slice (some ⟨g, 0, none⟩) n n, .int .i64 0], .slice (some ⟨g, 0, none⟩) n n, .int .i64 0, .int .i64 0, .bool false, undef, .slice (some ⟨g, 0, none⟩) n n, .int .u16 M, .int .i64 s, .int .i64 ((s : Int) + 1), .slice (some ⟨Z, 0, none⟩) (s + 1) (s + 1), .slice (some ⟨g, 0, none⟩) n n, .func (.func 75) #[] #[.pointer (some ⟨Z + 2, 0, none⟩)], .int .u16 ((E x : Nat) : Int), undef, undef, undef, undef, undef, undef, undef, undef], defers := [] }) ?assign ?body ?done ?stop
  case assign =>
    intro l x W K hK
    gi_wp2
    exact hK
  case body =>
    rintro l pre x W ⟨⟨hc, hR⟩, hB⟩ hlen
    have hys := HES.out x
    have hy := HEL.out x
    obtain ⟨y, HY⟩ : ∃ y, Hid (y = E x) := ⟨_, rfl⟩
    have hsn : Hid (∀ i, cntE E (pre ++ [x]) i = cntE E pre i + (if size16 y = i then 1 else 0)) := by
      rw [HY.out]
      exact fun i => cntE_snoc E pre x i
    rw [← HY.out] at hys hy ⊢
    have SY := Lib.hid (fun W => size_any W y hy)
    obtain ⟨z, HZ⟩ : ∃ z, Hid (z = size16 y) := ⟨_, rfl⟩
    rw [← HZ.out] at hys SY hsn
    have hle := cntE_le E pre z
    have hN := HCL.out
    have t0 := hR.cell (i := z) (by omega)
    have f0 := hR.frozen z
    obtain ⟨c, HC⟩ : ∃ c, Hid (c = cntE E pre z) := ⟨_, rfl⟩
    rw [← HC.out] at hle t0
    have hc9 : c ≤ 1000000000 := by omega
    have hZ1 : (0 : Int) ≤ (z : Int) := by omega
    have hZ2 : (z : Int) < (s : Int) + 1 := by omega
    clear hb5 hr5 hBw hh5 hc5 HY HZ hlen HCL hN hle hfin hEq HES HEL
    have hwr : IntKind.i64.wrap ((c : Int) + 1) = (c : Int) + 1 := IntWalk.i64_in _ (by omega)
    have bdw : ∀ k, Below w.heap.size W (W.drewN k) := fun k => ⟨rfl, rfl, rfl, Nat.le_refl _, fun _ _ => rfl⟩
    have hX : ∀ k u, KeptX (fun i => i = Z) W ((W.drewN k).setCell ⟨Z, z, none⟩ u) := fun k u => ((KeptX.refl (fun i => i = Z) W).drewN k).setCell (p := ⟨Z, z, none⟩) (Or.inl rfl) u
    have hRk : ∀ k, (W.drewN k).rowIs Z 3 (s + 1) (fun i => .int .i64 ((cntE E pre i : Nat) : Int)) := fun k => ((Kept.refl W).drewN k).row hR
    have hmx : Tryz.prog.follows .mixedOrders = true := by kernel_rfl
    have kdn : ∀ k, KeepsOthers W (W.drewN k) := fun k => ⟨Nat.le_refl _, fun _ _ h _ => h⟩
    have bdn : ∀ k, Below Z W (W.drewN k) := fun k => ⟨rfl, rfl, rfl, Nat.le_refl _, fun _ _ => rfl⟩
    gi_wp2_with fail
    gi_region_with_o ((first | refine ⟨trivial, hdd _, ?_⟩ | refine ⟨trivial, ?_⟩ | skip); gi_at_call 44; refine (CallsIn.inRound l (callsIn_wide.2 (SY.out _))).mono ?_; rintro e w' ⟨rfl, q, rfl⟩)
    all_goals
      gi_wp2
      refine ⟨(kdn _).trans (KeepsOthers.setCell _ _ _), (bdn _).setCell (p := ⟨Z, z, none⟩) (Nat.le_refl _) _, ⟨(hX _ _).cellSome hc (by show ¬ Z + 1 = Z; omega), ((hRk _).set z _).congr (fun i _ => ?_)⟩, hB.trans ((bdw _).setCell (p := ⟨Z, z, none⟩) hZw _)⟩
      rw [hsn.out]
      by_cases e : i = z
      · rw [if_pos e, if_pos e.symm, e, ← HC.out]
        rfl
      · rw [if_neg e, if_neg (fun h => e h.symm)]
        rfl
  case done =>
    rintro D ys W hD rfl ⟨⟨hc, hR⟩, hB⟩ hK
    gi_wp2
    refine ⟨by simp, .inl ⟨_, _, rfl, run_takeDeferred hK, ?_⟩⟩
    refine ⟨_, results_tmp2 rfl _ _ _, ⟨_, rfl, ?_⟩, hB.trans (belowK_b (w := w) (Nat.le_refl _) W D _ _ (by omega) hK rfl rfl)⟩
    refine CellsAt.congr (CellsAt.of_row (row_ownF hR (grownBy_putObj' W D _) (fun r e => by cases e; exact ⟨_, hK, rfl⟩))) (fun i _ => ?_)
    rw [hfin.out]
  case stop =>
    rintro D c pre W _ _ h _
    exact h.elim
set_option maxRecDepth 100000 in
set_option maxHeartbeats 4000000 in
theorem Groups_any (w : World) (n : Int) (v : Value) (m : Nat) (A B : Nat → Int) (hP : PairsAt w v m A B) (hm : m ≤ 1000000) :
    Calls Tryz.prog 11 #[.int .i64 n, v] w (GroupsAns w n A B m) := by
  unfold GroupsAns
  cases gb : goodH n A B m with
  | true =>
    have hg := gb
    unfold goodH at hg
    simp only [Bool.and_eq_true, decide_eq_true_eq] at hg
    obtain ⟨N, rfl⟩ : ∃ N : Nat, n = N := ⟨n.toNat, by omega⟩
    have hlts := alongH_lt (n := N) (k := m) (by omega) hg.2
    exact callsIn_wide.1 ((Groups_good w N v m A B hP hm (by omega) (by omega) gb hlts).mono (fun _ _ h => ⟨Kept.below h.2, by rw [if_pos rfl, Int.toNat_natCast]; exact h.1⟩))
  | false =>
    have HO := Lib.hid (herdOf_any w n v m A B hP hm)
    unfold HerdOfPost at HO
    rw [gb] at HO
    have hdd : ∀ k : Nat, (Fence.wide.depth.isSome = true → 1 ≤ k) := fun k h => by cases h
    refine (callsIn_wide (n := 5)).1 ?_
    refine callsIn_of_wp_marks Tryz.func11 rfl trivial ?_ rfl
    simp only [Tryz.ntmps11, List.size_toArray, List.length_cons, List.length_nil, Nat.reduceAdd, Nat.reduceSub, Array.replicate_succ, Array.replicate_zero, List.push_toArray, List.append_toArray, List.nil_append, List.cons_append]
    gi_wp2_with ((first | refine ⟨trivial, hdd _, ?_⟩ | refine ⟨trivial, ?_⟩ | skip); (first | (gi_at_call 41; refine (callsIn_wide.2 HO.out).mono ?_; rintro e w2 ⟨hk2, he⟩; rw [if_neg (by simp)] at he; subst he)))
    exact ⟨_, results_tmp2 rfl _ _ _, hk2, rfl⟩
end Go.Proofs.YtlnlddnjalfamaaGreatDoor
