/-
  Package herd: part, exceeds.
-/
import Derived.Test.YtlnlddnjalfamaaGreatDoorHe
import Derived.Test.YtlnlddnjalfamaaGreatDoorHi
namespace Go.Proofs.YtlnlddnjalfamaaGreatDoor
open Go.RowKit Go.Deep Go.Shelf
attribute [local go_sem] Oper.semAt_some

/-- one pair less -/
def partH (H : Nat → Nat) (a b : Nat) : Nat → Nat := fun i => if i = b then bsub (H b) (2 ^ a) else if i = a then bsub (H a) (2 ^ b) else H i
theorem partH_lt {H : Nat → Nat} {a b n : Nat} (hH : ∀ i, i < n → H i < 65536) (ha : a < n) (hb : b < n) : ∀ i, i < n → partH H a b i < 65536 := fun i hi => by
  unfold partH
  split
  · exact Nat.lt_of_le_of_lt (bsub_le _ _) (hH b hb)
  · split
    · exact Nat.lt_of_le_of_lt (bsub_le _ _) (hH a ha)
    · exact hH i hi
set_option maxRecDepth 100000 in
set_option maxHeartbeats 4000000 in
theorem part_any (w : World) (g n cap : Nat) (H : Nat → Nat) (A B : Int) (a b : Nat) (hA : A = a) (hB : B = b) (ha : a < n) (hb : b < n) (hab : a ≠ b) (hn : n ≤ 14) (hR : w.rowIs g 84 n (fun i => setV (H i))) (hH : ∀ i, i < n → H i < 65536) :
    Calls Tryz.prog 97 #[.slice (some ⟨g, 0, none⟩) n cap, .agg #[.int .i64 A, .int .i64 B]] w fun e w' => e = .returned (.tuple #[]) ∧ KeptX (fun k => k = g) w w' ∧ w'.rowIs g 84 n (fun i => setV (partH H a b i)) := by
  subst hA hB
  have hg := hR.lt
  obtain ⟨p, HP⟩ : ∃ p : Nat, Hid (p = 2 ^ b) := ⟨2 ^ b, rfl⟩
  obtain ⟨q, HQ⟩ : ∃ q : Nat, Hid (q = 2 ^ a) := ⟨2 ^ a, rfl⟩
  have e0 : (2 : Int) ^ b = (p : Int) := by rw [HP.out]; simp
  have e1 : (2 : Int) ^ a = (q : Int) := by rw [HQ.out]; simp
  have p1 : p < 65536 := by rw [HP.out]; exact pow16 (by omega)
  have q1 : q < 65536 := by rw [HQ.out]; exact pow16 (by omega)
  have o1 := andNot16 (H a) p (hH a ha) p1
  have o2 := andNot16 (H b) q (hH b hb) q1
  have t0 := hR.cell ha
  have t1 := hR.cell hb
  have f0 := hR.frozen a
  have f1 := hR.frozen b
  have a0 : (0 : Int) ≤ (a : Int) := by omega
  have a1 : (a : Int) < (n : Int) := by omega
  have b0 : (0 : Int) ≤ (b : Int) := by omega
  have b1 : (b : Int) < (n : Int) := by omega
  obtain ⟨x, HX⟩ : ∃ x, Hid (x = H a) := ⟨_, rfl⟩
  obtain ⟨y, HY⟩ : ∃ y, Hid (y = H b) := ⟨_, rfl⟩
  simp only [setV] at t0 t1
  rw [← HX.out] at o1 t0
  rw [← HY.out] at o2 t1
  have d0 : (w.alloc (.cells #[.int .i64 a, .int .i64 b] 94)).cell? ⟨w.heap.size, 0, none⟩ = some (.int .i64 a) := by unfold World.cell?; dsimp only; rw [blk_alloc_new]; rfl
  have d1 : (w.alloc (.cells #[.int .i64 a, .int .i64 b] 94)).cell? ⟨w.heap.size, 1, none⟩ = some (.int .i64 b) := by unfold World.cell?; dsimp only; rw [blk_alloc_new]; rfl
  have hK0 : Kept w (w.alloc (.cells #[.int .i64 a, .int .i64 b] 94)) := (Kept.refl w).alloc _
  have hs : w.heap.size < (w.alloc (.cells #[.int .i64 a, .int .i64 b] 94)).heap.size := by simp
  go_enter Tryz.func97, Tryz.ntmps97
  go_wp2_with fail
  generalize w.alloc (.cells #[.int .i64 a, .int .i64 b] 94) = W at *
  have hR0 := hK0.row hR
  have t0 := hK0.cellSome t0
  have t1 := hK0.cellSome t1
  have f0 : W.frozen? ⟨g, a, none⟩ = false := hR0.frozen a
  clear f1 hR
  have hX0 : KeptX (fun k => k = g) w W := hK0.weaken (fun _ h => h.elim)
  go_region
  all_goals
    go_wp2_with fail
    have hX1 := (KeptX.setCell hX0 (p := ⟨g, a, none⟩) (Or.inl rfl) (setV (bsub x p))).drew
    have hR1 := ((hR0.set a (setV (bsub x p))).drew).congr (g := fun i => setV (if i = a then bsub x p else H i)) (fun i _ => by
      by_cases e : i = a
      · simp [e]
      · simp [e])
    have z0 : (W.setCell ⟨g, a, none⟩ (setV (bsub x p))).drew.cell? ⟨w.heap.size, 0, none⟩ = some (.int .i64 a) := by
      rw [World.cell?_drew, World.cell?_setCell_other _ _ _ _ (by simp; try omega)]; exact d0
    have z1 : (W.setCell ⟨g, a, none⟩ (setV (bsub x p))).drew.cell? ⟨w.heap.size, 1, none⟩ = some (.int .i64 b) := by
      rw [World.cell?_drew, World.cell?_setCell_other _ _ _ _ (by simp; try omega)]; exact d1
    generalize (W.setCell ⟨g, a, none⟩ (setV (bsub x p))).drew = W1 at *
    clear t0 t1 f0 d0 d1 hR0
    have t1 : W1.cell? ⟨g, b, none⟩ = some (.int .u16 y) := by
      have := hR1.cell hb
      simp only [show ¬ b = a from Ne.symm hab, if_false] at this
      rw [HY.out]; exact this
    have f1 : W1.frozen? ⟨g, b, none⟩ = false := hR1.frozen b
    go_region
    all_goals
      go_wp2_with fail
      go_end0
      refine ⟨rfl, (KeptX.setCell hX1 (p := ⟨g, b, none⟩) (Or.inl rfl) (setV (bsub y q))).drew, ((hR1.set b (setV (bsub y q))).drew).congr (fun i _ => ?_)⟩
      unfold partH
      rw [← HX.out, ← HY.out, ← HP.out, ← HQ.out]
      by_cases e : i = b
      · simp [e]
      · simp [e]
theorem best_over {H : Nat → Nat} {n sz : Nat} (hn : n ≤ 14) : (∃ x, x ∈ cliq H n n 0 (allH n) ∧ sz < size16 x) ↔ sz < size16 (best H n) := by
  have hb := best_spec H hn
  constructor
  · rintro ⟨x, hx, h⟩
    have h1 := (cliq_all hn).1 hx
    have := hb.2 x h1.1 h1.2
    omega
  · intro h
    exact ⟨_, (cliq_all hn).2 hb.1, h⟩
set_option maxRecDepth 100000 in
set_option maxHeartbeats 4000000 in
theorem exceeds_in (w : World) (g n cap sz : Nat) (H : Nat → Nat) (hG : w.rowIs g 84 n (fun i => .int .u16 ((H i : Nat) : Int))) (hH : ∀ i, i < n → H i < 65536) (hn : n ≤ 14) (hn1 : 0 < n) :
    CallsIn Fence.wide 5 Tryz.prog 96 #[.slice (some ⟨g, 0, none⟩) n cap, .int .i64 sz] w fun e w' => e = .returned (.bool (decide (sz < size16 (best H n)))) ∧ Below w.heap.size w w' := by
  have hdd : ∀ k : Nat, (Fence.wide.depth.isSome = true → 1 ≤ k) := fun k h => by cases h
  have hgl := hG.lt
  have hov := Lib.hid (best_over (H := H) (sz := sz) hn)
  obtain ⟨r, HR⟩ : ∃ r, Hid (r = decide (sz < size16 (best H n))) := ⟨_, rfl⟩
  have hyes : Hid ((∃ x, x ∈ cliq H n n 0 (allH n) ∧ sz < size16 x) → r = true) := fun h => by rw [HR.out]; exact decide_eq_true (hov.out.1 h)
  have hno : Hid ((∀ x, x ∈ cliq H n n 0 (allH n) → size16 x ≤ sz) → r = false) := fun h => by
    rw [HR.out]
    refine decide_eq_false fun h2 => ?_
    obtain ⟨x, hx, h3⟩ := hov.out.2 h2
    have := h x hx
    omega
  have hlt := Lib.hid (fun x (hx : x ∈ cliq H n n 0 (allH n)) => cliq_lt hn hx)
  rw [← HR.out]
  clear hov HR
  refine callsIn_of_wp_marks Tryz.func96 rfl trivial ?_ rfl
  simp only [Tryz.ntmps96, List.size_toArray, List.length_cons, List.length_nil, Nat.reduceAdd, Nat.reduceSub, Array.replicate_succ, Array.replicate_zero, List.push_toArray, List.append_toArray, List.nil_append, List.cons_append]
  gi_wp2_with ((first | refine ⟨trivial, hdd _, ?_⟩ | refine ⟨trivial, ?_⟩ | skip); gi_at_call 45; refine (groups_in _ _ _ _ _).mono ?_; rintro e w' ⟨rfl, rfl⟩)
  have c0 := cell_newbox w (.int .i64 sz) 3
  have c1 := cell_newbox (w.alloc (.cells #[.int .i64 sz] 3)) (.bool false) 4
  have c2 := cell_newbox ((w.alloc (.cells #[.int .i64 sz] 3)).alloc (.cells #[.bool false] 4)) (.slice (some ⟨g, 0, none⟩) n cap) 80
  simp only [World.size_alloc] at c1 c2
  have hB0 : Below w.heap.size w (((w.alloc (.cells #[.int .i64 sz] 3)).alloc (.cells #[.bool false] 4)).alloc (.cells #[.slice (some ⟨g, 0, none⟩) n cap] 80)) := (((Below.refl _ w).alloc (Nat.le_refl _) _).alloc (by simp) _).alloc (by simp; omega) _
  have hc2 : ∀ i, i < n → (((w.alloc (.cells #[.int .i64 sz] 3)).alloc (.cells #[.bool false] 4)).alloc (.cells #[.slice (some ⟨g, 0, none⟩) n cap] 80)).cell? ⟨g, 0 + i, none⟩ = some (.int .u16 ((H i : Nat) : Int)) := fun i hi => (hB0.cell (p := ⟨g, 0 + i, none⟩) hgl).trans (by rw [Nat.zero_add]; exact hG.cell hi)
  refine wpIn_rangeFunc_ownF (F := Fence.wide) (n := 5) rfl (by decide) (gf := 75) (lb := #[.pointer (some ⟨w.heap.size + 1 + 1, 0, none⟩)]) rfl trivial (enters_of Tryz.func75 (by kernel_rfl) rfl)
    (groups_stops _ n hn hn1 g (w.heap.size + 1 + 1) w.heap.size cap H hH _ (by simp) hgl (by simp; omega) c2.1 hc2) belowK_t (belowK_b (by simp; omega)) (Below.refl _ _) (fun _ => rfl)
    (fun pre W => ((∀ x, x ∈ pre → size16 (m16 x) ≤ sz) ∧ W.cell? ⟨w.heap.size, 0, none⟩ = some (.int .i64 sz) ∧ W.cell? ⟨w.heap.size + 1, 0, none⟩ = some (.bool false) ∧ W.frozen? ⟨w.heap.size + 1, 0, none⟩ = false) ∧ Below w.heap.size w W)
    (fun c pre W => (c = .ret ∧ (∃ x, x ∈ pre ∧ sz < size16 (m16 x)) ∧ W.cell? ⟨w.heap.size + 1, 0, none⟩ = some (.bool true)) ∧ Below w.heap.size w W)
    (OwnFrom.and (Own.from (fun s A B row hs hg hr => ⟨hs.1, cell_kept hs.2.1 hg hr, cell_kept hs.2.2.1 hg hr, (frozen_kept hs.2.2.1 hg hr).trans hs.2.2.2⟩) _) (ownFrom_below (Nat.le_refl _) (by simp; omega)))
    (fun c => OwnFrom.and (Own.from (fun s A B row hs hg hr => ⟨hs.1, hs.2.1, cell_kept hs.2.2 hg hr⟩) _) (ownFrom_below (Nat.le_refl _) (by simp; omega)))
    ⟨⟨by simp, cell_alloced _ (cell_alloced _ c0.1), cell_alloced _ c1.1, frozen_alloced _ c1.1 c1.2⟩, hB0⟩
    (fun x => { tmps := #[.slice (some ⟨g, 0, none⟩) n cap, .int .i64 sz, undef, .pointer (some ⟨w.heap.size, 0, none⟩), .pointer (some ⟨w.heap.size + 1, 0, none⟩), .int .u16 ((x % 65536 : Nat) : Int), .slice (some ⟨g, 0, none⟩) n cap, .func (.func 75) #[] #[.pointer (some ⟨w.heap.size + 1 + 1, 0, none⟩)], .int .u16 ((x % 65536 : Nat) : Int), undef, undef, undef, undef], defers := [] }) ?assign ?body ?done ?stop
  case assign =>
    intro l x W K hK
    gi_wp2
    exact hK
  case body =>
    rintro l pre x W ⟨⟨hp, hs, hr, hfr⟩, hB⟩ _
    obtain ⟨y, HY⟩ : ∃ y, Hid (y = x % 65536) := ⟨_, rfl⟩
    have hy : y < 65536 := by rw [HY.out]; exact Nat.mod_lt _ (by decide)
    have hmy : Hid (m16 x = y) := HY.out.symm
    rw [← HY.out]
    have SY := Lib.hid (fun W => size_any W y hy)
    obtain ⟨z, HZ⟩ : ∃ z, Hid (z = size16 y) := ⟨_, rfl⟩
    rw [← HZ.out] at SY
    have HPP := Lib.hid hp
    clear c0 c1 c2 hB0 hc2 hp
    have hmx : Tryz.prog.follows .mixedOrders = true := by kernel_rfl
    have kdn : ∀ k, KeepsOthers W (W.drewN k) := fun k => ⟨Nat.le_refl _, fun _ _ h _ => h⟩
    have bdn : ∀ k, Below w.heap.size W (W.drewN k) := fun k => ⟨rfl, rfl, rfl, Nat.le_refl _, fun _ _ => rfl⟩
    gi_wp2_with fail
    gi_region_with_o ((first | refine ⟨trivial, hdd _, ?_⟩ | refine ⟨trivial, ?_⟩ | skip); gi_at_call 44; refine (CallsIn.inRound l (callsIn_wide.2 (SY.out _))).mono ?_; rintro e w' ⟨rfl, q, rfl⟩)
    all_goals
      by_cases hzs : sz < z
      · have z1 : (sz : Int) < (z : Int) := by omega
        gi_wp2
        refine ⟨(kdn _).trans (KeepsOthers.setCell _ _ _), ⟨rfl, ⟨x, by simp, by rw [hmy.out, ← HZ.out]; exact hzs⟩, ?_⟩, hB.trans ((bdn _).setCell (p := ⟨w.heap.size + 1, 0, none⟩) (by simp) _)⟩
        exact World.cell?_setCell_same' _ _ _ (by rw [World.cell?_drewN, hr]; rfl)
      · have z1 : ¬ (sz : Int) < (z : Int) := by omega
        gi_wp2
        refine ⟨kdn _, bdn _, ⟨fun u hu => ?_, hs, hr, hfr⟩, hB.trans (bdn _)⟩
        rcases List.mem_append.1 hu with h | h
        · exact HPP.out u h
        · simp at h
          subst h
          rw [hmy.out, ← HZ.out]
          omega
  case done =>
    rintro D ys W hD rfl ⟨⟨hne, hs, hr, hfr⟩, hB⟩ hK
    have h0 := hno.out (fun x hx => by
      have := hne x hx
      rwa [show m16 x = x from Nat.mod_eq_of_lt (hlt.out x hx)] at this)
    subst h0
    gi_wp2
    have hK' := (KeepsOthers.setCell W ⟨w.heap.size + 1, 0, none⟩ (.bool false)).same D _ hK rfl
    refine ⟨by simp, .inl ⟨_, _, rfl, run_takeDeferred hK', ?_⟩⟩
    have z1 : (W.setCell ⟨w.heap.size + 1, 0, none⟩ (.bool false)).cell? ⟨w.heap.size + 1, 0, none⟩ = some (.bool false) := World.cell?_setCell_same' _ _ _ (by rw [hr]; rfl)
    have hc5 := cell_kept z1 (grownBy_putObj' _ D (.deferred none)) (fun r e => by cases e; exact ⟨_, hK', rfl⟩)
    refine ⟨.bool false, ?_, rfl, (hB.setCell (p := ⟨w.heap.size + 1, 0, none⟩) (by simp) _).trans (belowK_b (w := w) (Nat.le_refl _) _ D _ _ (by simp at hD; omega) hK' rfl rfl)⟩
    simp [results, Tryz.results96, go_sem, hc5]
  case stop =>
    rintro D c pre W hD hpre ⟨⟨rfl, ⟨x, hx, hs⟩, hr⟩, hB⟩ hK
    have h0 := hyes.out ⟨x, hpre.subset hx, by rwa [show m16 x = x from Nat.mod_eq_of_lt (hlt.out x (hpre.subset hx))] at hs⟩
    subst h0
    gi_wp2
    refine ⟨by simp, .inl ⟨_, _, rfl, run_takeDeferred hK, ?_⟩⟩
    have hc5 := cell_kept hr (grownBy_putObj' _ D (.deferred none)) (fun r e => by cases e; exact ⟨_, hK, rfl⟩)
    refine ⟨.bool true, ?_, rfl, hB.trans (belowK_b (w := w) (Nat.le_refl _) W D _ _ (by simp at hD; omega) hK rfl rfl)⟩
    simp [results, Tryz.results96, go_sem, hc5]
theorem exceeds_any (w : World) (g n cap sz : Nat) (H : Nat → Nat) (hG : w.rowIs g 84 n (fun i => .int .u16 ((H i : Nat) : Int))) (hH : ∀ i, i < n → H i < 65536) (hn : n ≤ 14) (hn1 : 0 < n) :
    Calls Tryz.prog 96 #[.slice (some ⟨g, 0, none⟩) n cap, .int .i64 sz] w fun e w' => e = .returned (.bool (decide (sz < size16 (best H n)))) ∧ Kept w w' :=
  callsIn_wide.1 ((exceeds_in w g n cap sz H hG hH hn hn1).mono (fun _ _ h => ⟨h.1, Kept.below h.2⟩))
end Go.Proofs.YtlnlddnjalfamaaGreatDoor
