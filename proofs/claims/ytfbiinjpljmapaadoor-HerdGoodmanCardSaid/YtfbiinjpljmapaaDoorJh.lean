/-
  Package herd: triples, opposite.
-/
import Derived.Test.YtfbiinjpljmapaaDoorHi
import Derived.Test.YtfbiinjpljmapaaDoorHe
import Derived.Deep.RegionWith
namespace Go.Proofs.YtfbiinjpljmapaaDoor
open Go.RowKit Go.Deep Go.Shelf
attribute [local go_sem] Oper.semAt_some

theorem cliq_len (H : Nat → Nat) (n f : Nat) : ∀ g nx, (cliq H n f g nx).length ≤ (n + 1) ^ f := by
  induction f with
  | zero => intro g nx; exact Nat.le_refl _
  | succ f ih =>
    intro g nx
    rw [cliq_succ, List.length_cons]
    have h : ∀ k, (cliqTo H n f g nx k).length ≤ k * (n + 1) ^ f := fun k => by
      induction k with
      | zero => simp [cliqTo]
      | succ k ihk =>
        rw [cliqTo_succ, List.length_append, Nat.succ_mul]
        have h2 : (if nx.testBit k = true then cliq H n f (g ||| 2 ^ k) (aft nx k &&& H k) else []).length ≤ (n + 1) ^ f := by
          split
          · exact ih _ _
          · simp
        omega
    have h1 := h n
    have h2 : 0 < (n + 1) ^ f := Nat.pow_pos (by omega)
    rw [Nat.pow_succ, Nat.mul_succ, Nat.mul_comm]
    omega
/-- how many sets of three there are among these -/
def triL (l : List Nat) : Nat := (l.filter fun x => size16 (m16 x) == 3).length
theorem triL_snoc (pre : List Nat) (x : Nat) : triL (pre ++ [x]) = triL pre + (if size16 (m16 x) = 3 then 1 else 0) := by
  unfold triL
  rw [List.filter_append, List.length_append]
  congr 1
  by_cases h : size16 (m16 x) = 3 <;> simp [h]
theorem triL_le (l : List Nat) : triL l ≤ l.length := List.length_filter_le _ _
/-- how many groups of three there are -/
def triH (H : Nat → Nat) (n : Nat) : Nat := triL (cliq H n n 0 (allH n))
set_option maxRecDepth 100000 in
set_option maxHeartbeats 4000000 in
theorem triples_in (w : World) (g n cap : Nat) (H : Nat → Nat) (hG : w.rowIs g 80 n (fun i => .int .u16 ((H i : Nat) : Int))) (hH : ∀ i, i < n → H i < 65536) (hn : n ≤ 9) (hn1 : 0 < n) :
    CallsIn Fence.wide 5 Tryd.prog 48 #[.slice (some ⟨g, 0, none⟩) n cap] w fun e w' => e = .returned (.int .i64 ((triH H n : Nat) : Int)) ∧ Below w.heap.size w w' := by
  have hdd : ∀ k : Nat, (Fence.wide.depth.isSome = true → 1 ≤ k) := fun k h => by cases h
  have hgl := hG.lt
  have hcl : (cliq H n n 0 (allH n)).length ≤ 1000000000 := by
    refine Nat.le_trans (cliq_len H n n 0 (allH n)) ?_
    refine Nat.le_trans (Nat.pow_le_pow_left (show n + 1 ≤ 10 by omega) n) ?_
    exact Nat.pow_le_pow_right (n := 10) (by omega) (show n ≤ 9 by omega)
  have HCL := Lib.hid hcl
  clear hcl
  refine callsIn_of_wp_marks Tryd.func48 rfl trivial ?_ rfl
  simp only [Tryd.ntmps48, List.size_toArray, List.length_cons, List.length_nil, Nat.reduceAdd, Nat.reduceSub, Array.replicate_succ, Array.replicate_zero, List.push_toArray, List.append_toArray, List.nil_append, List.cons_append]
  gi_wp2_with ((first | refine ⟨trivial, hdd _, ?_⟩ | refine ⟨trivial, ?_⟩ | skip); gi_at_call 63; refine (groups_in _ _ _ _ _).mono ?_; rintro e w' ⟨rfl, rfl⟩)
  have hs := cell_newbox w (.int .i64 0) 3
  have hb := cell_newbox (w.alloc (.cells #[.int .i64 0] 3)) (.slice (some ⟨g, 0, none⟩) n cap) 64
  rw [World.size_alloc] at hb
  have hB2 : Below w.heap.size w ((w.alloc (.cells #[.int .i64 0] 3)).alloc (.cells #[.slice (some ⟨g, 0, none⟩) n cap] 64)) := ((Below.refl _ w).alloc (Nat.le_refl _) _).alloc (by simp) _
  have hc2 : ∀ i, i < n → ((w.alloc (.cells #[.int .i64 0] 3)).alloc (.cells #[.slice (some ⟨g, 0, none⟩) n cap] 64)).cell? ⟨g, 0 + i, none⟩ = some (.int .u16 ((H i : Nat) : Int)) := fun i hi => (hB2.cell (p := ⟨g, 0 + i, none⟩) hgl).trans (by rw [Nat.zero_add]; exact hG.cell hi)
  refine wpIn_rangeFunc_ownF (F := Fence.wide) (n := 5) rfl (by decide) (gf := 80) (lb := #[.pointer (some ⟨w.heap.size + 1, 0, none⟩)]) rfl trivial (enters_of Tryd.func80 (by kernel_rfl) rfl)
    (groups_stops _ n (by omega) hn1 g (w.heap.size + 1) w.heap.size cap H hH _ (by simp) hgl (by simp; omega) hb.1 hc2) belowK_t (belowK_b (by simp; omega)) (Below.refl _ _) (fun _ => rfl)
    (fun pre W => (W.cell? ⟨w.heap.size, 0, none⟩ = some (.int .i64 ((triL pre : Nat) : Int)) ∧ W.frozen? ⟨w.heap.size, 0, none⟩ = false) ∧ Below w.heap.size w W)
    (fun _ _ _ => False)
    (OwnFrom.and (Own.from (fun s A B row hs hg hr => ⟨cell_kept hs.1 hg hr, (frozen_kept hs.1 hg hr).trans hs.2⟩) _) (ownFrom_below (Nat.le_refl _) (by simp; omega)))
    (fun _ _ _ _ _ hs _ _ => hs)
    ⟨⟨cell_alloced _ hs.1, frozen_alloced _ hs.1 hs.2⟩, hB2⟩
    (fun x => { tmps := #[.slice (some ⟨g, 0, none⟩) n cap, undef, .int .i64 0, .pointer (some ⟨w.heap.size, 0, none⟩), .int .u16 ((x % 65536 : Nat) : Int), .slice (some ⟨g, 0, none⟩) n cap, .func (.func 80) #[] #[.pointer (some ⟨w.heap.size + 1, 0, none⟩)], .int .u16 ((x % 65536 : Nat) : Int), undef, undef, undef, undef, undef, undef], defers := [] }) ?assign ?body ?done ?stop
  case assign =>
    intro l x W K hK
    gi_wp2
    exact hK
  case body =>
    rintro l pre x W ⟨⟨hc, hf⟩, hB⟩ hlen
    have hsn := Lib.hid (triL_snoc pre x)
    have hz := triL_le pre
    have hz2 : triL pre ≤ 1000000000 := by have := HCL.out; omega
    clear hz
    obtain ⟨z, HZ⟩ : ∃ z, Hid (z = triL pre) := ⟨_, rfl⟩
    obtain ⟨y, HY⟩ : ∃ y, Hid (y = x % 65536) := ⟨_, rfl⟩
    have hy : y < 65536 := by rw [HY.out]; exact Nat.mod_lt _ (by decide)
    rw [← HZ.out] at hc hz2 hsn
    rw [← HY.out]
    have hsn2 : Hid (triL (pre ++ [x]) = z + (if size16 y = 3 then 1 else 0)) := by
      have e : m16 x = y := HY.out.symm
      rw [e] at hsn
      exact hsn.out
    have hbd : size16 y ≤ 16 := cnt_le _ _
    have SZ := Lib.hid (fun W => size_any W y hy)
    obtain ⟨q, HQ⟩ : ∃ q, Hid (q = size16 y) := ⟨_, rfl⟩
    rw [← HQ.out] at hsn2 SZ hbd
    clear hs hb hB2 hc2 hsn HZ HY HQ hlen HCL hy
    have hmx : Tryd.prog.follows .mixedOrders = true := by kernel_rfl
    have kdn : ∀ k, KeepsOthers W (W.drewN k) := fun k => ⟨Nat.le_refl _, fun _ _ h _ => h⟩
    have bdn : ∀ k, Below w.heap.size W (W.drewN k) := fun k => ⟨rfl, rfl, rfl, Nat.le_refl _, fun _ _ => rfl⟩
    by_cases h3 : q = 3
    · subst h3
      gi_wp2_with ((first | refine ⟨trivial, hdd _, ?_⟩ | refine ⟨trivial, ?_⟩ | skip); gi_at_call 64; refine (CallsIn.inRound l (callsIn_wide.2 (SZ.out _))).mono ?_; rintro e w' ⟨rfl, q, rfl⟩)
      refine ⟨(kdn _).trans (KeepsOthers.setCell _ _ _), (bdn _).setCell (p := ⟨w.heap.size, 0, none⟩) (Nat.le_refl _) _, ⟨?_, ?_⟩, hB.trans ((bdn _).setCell (p := ⟨w.heap.size, 0, none⟩) (Nat.le_refl _) _)⟩
      · rw [hsn2.out, if_pos trivial]
        exact World.cell?_setCell_same' _ _ _ (by rw [World.cell?_drewN, hc]; rfl)
      · rw [World.frozen?_setCell, World.frozen?_drewN]
        exact hf
    · have s3 : ¬ (q : Int) = 3 := by omega
      gi_wp2_with ((first | refine ⟨trivial, hdd _, ?_⟩ | refine ⟨trivial, ?_⟩ | skip); gi_at_call 64; refine (CallsIn.inRound l (callsIn_wide.2 (SZ.out _))).mono ?_; rintro e w' ⟨rfl, q, rfl⟩)
      refine ⟨kdn _, bdn _, ⟨?_, ?_⟩, hB.trans (bdn _)⟩
      · rw [hsn2.out, if_neg h3, World.cell?_drewN]
        exact hc
      · rw [World.frozen?_drewN]
        exact hf
  case done =>
    rintro D ys W hD rfl ⟨⟨hc, _⟩, hB⟩ hK
    gi_wp2
    refine ⟨by simp, .inl ⟨_, _, rfl, run_takeDeferred hK, ?_⟩⟩
    exact ⟨_, results_tmp rfl _ _ _, rfl, hB.trans (belowK_b (w := w) (Nat.le_refl _) W D _ _ (by simp at hD; omega) hK rfl rfl)⟩
  case stop =>
    rintro D c pre W _ _ h _
    exact h.elim
theorem triples_any (w : World) (g n cap : Nat) (H : Nat → Nat) (hG : w.rowIs g 80 n (fun i => .int .u16 ((H i : Nat) : Int))) (hH : ∀ i, i < n → H i < 65536) (hn : n ≤ 9) (hn1 : 0 < n) :
    Calls Tryd.prog 48 #[.slice (some ⟨g, 0, none⟩) n cap] w fun e w' => e = .returned (.int .i64 ((triH H n : Nat) : Int)) ∧ Kept w w' :=
  callsIn_wide.1 ((triples_in w g n cap H hG hH hn hn1).mono (fun _ _ h => ⟨h.1, Kept.below h.2⟩))
end Go.Proofs.YtfbiinjpljmapaaDoor
