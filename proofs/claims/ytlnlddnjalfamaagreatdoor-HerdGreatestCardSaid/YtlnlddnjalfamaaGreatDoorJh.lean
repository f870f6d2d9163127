/-
  Package herd: triples, opposite.
  Package herd: opposite, Triples.
-/
import Derived.Test.YtlnlddnjalfamaaGreatDoorHi
import Derived.Test.YtlnlddnjalfamaaGreatDoorHe
import Derived.Deep.RegionWith
import Derived.Test.YtlnlddnjalfamaaGreatDoorHg
namespace Go.Proofs.YtlnlddnjalfamaaGreatDoor
open Go.RowKit Go.Deep Go.Shelf
attribute [local go_sem] Oper.semAt_some

theorem cliq_len (H : Nat → Nat) (n f : Nat) : ∀ g nx, (cliq H n f g nx).length ≤ (n + 1) ^ f := by
  induction f with
  | zero => intro g nx; exact Nat.le_refl _
  | succ f ih =>
    intro g nx
    rw [cliq_succ, List.length_cons]
    have h : ∀ k, (cliqTo H n f g nx k).length ≤ k * (n + 1) ^ f := fun k => by
      induction k with
      | zero => simp [cliqTo]
      | succ k ihk =>
        rw [cliqTo_succ, List.length_append, Nat.succ_mul]
        have h2 : (if nx.testBit k = true then cliq H n f (g ||| 2 ^ k) (aft nx k &&& H k) else []).length ≤ (n + 1) ^ f := by
          split
          · exact ih _ _
          · simp
        omega
    have h1 := h n
    have h2 : 0 < (n + 1) ^ f := Nat.pow_pos (by omega)
    rw [Nat.pow_succ, Nat.mul_succ, Nat.mul_comm]
    omega
/-- how many sets of three there are among these -/
def triL (l : List Nat) : Nat := (l.filter fun x => size16 (m16 x) == 3).length
theorem triL_snoc (pre : List Nat) (x : Nat) : triL (pre ++ [x]) = triL pre + (if size16 (m16 x) = 3 then 1 else 0) := by
  unfold triL
  rw [List.filter_append, List.length_append]
  congr 1
  by_cases h : size16 (m16 x) = 3 <;> simp [h]
theorem triL_le (l : List Nat) : triL l ≤ l.length := List.length_filter_le _ _
/-- how many groups of three there are -/
def triH (H : Nat → Nat) (n : Nat) : Nat := triL (cliq H n n 0 (allH n))
set_option maxRecDepth 100000 in
set_option maxHeartbeats 4000000 in
theorem triples_in (w : World) (g n cap : Nat) (H : Nat → Nat) (hG : w.rowIs g 84 n (fun i => .int .u16 ((H i : Nat) : Int))) (hH : ∀ i, i < n → H i < 65536) (hn : n ≤ 9) (hn1 : 0 < n) :
    CallsIn Fence.wide 5 Tryz.prog 46 #[.slice (some ⟨g, 0, none⟩) n cap] w fun e w' => e = .returned (.int .i64 ((triH H n : Nat) : Int)) ∧ Below w.heap.size w w' := by
  have hdd : ∀ k : Nat, (Fence.wide.depth.isSome = true → 1 ≤ k) := fun k h => by cases h
  have hgl := hG.lt
  have hcl : (cliq H n n 0 (allH n)).length ≤ 1000000000 := by
    refine Nat.le_trans (cliq_len H n n 0 (allH n)) ?_
    refine Nat.le_trans (Nat.pow_le_pow_left (show n + 1 ≤ 10 by omega) n) ?_
    exact Nat.pow_le_pow_right (n := 10) (by omega) (show n ≤ 9 by omega)
  have HCL := Lib.hid hcl
  clear hcl
  refine callsIn_of_wp_marks Tryz.func46 rfl trivial ?_ rfl
  simp only [Tryz.ntmps46, List.size_toArray, List.length_cons, List.length_nil, Nat.reduceAdd, Nat.reduceSub, Array.replicate_succ, Array.replicate_zero, List.push_toArray, List.append_toArray, List.nil_append, List.cons_append]
  gi_wp2_with ((first | refine ⟨trivial, hdd _, ?_⟩ | refine ⟨trivial, ?_⟩ | skip); gi_at_call 45; refine (groups_in _ _ _ _ _).mono ?_; rintro e w' ⟨rfl, rfl⟩)
  have hs := cell_newbox w (.int .i64 0) 3
  have hb := cell_newbox (w.alloc (.cells #[.int .i64 0] 3)) (.slice (some ⟨g, 0, none⟩) n cap) 80
  rw [World.size_alloc] at hb
  have hB2 : Below w.heap.size w ((w.alloc (.cells #[.int .i64 0] 3)).alloc (.cells #[.slice (some ⟨g, 0, none⟩) n cap] 80)) := ((Below.refl _ w).alloc (Nat.le_refl _) _).alloc (by simp) _
  have hc2 : ∀ i, i < n → ((w.alloc (.cells #[.int .i64 0] 3)).alloc (.cells #[.slice (some ⟨g, 0, none⟩) n cap] 80)).cell? ⟨g, 0 + i, none⟩ = some (.int .u16 ((H i : Nat) : Int)) := fun i hi => (hB2.cell (p := ⟨g, 0 + i, none⟩) hgl).trans (by rw [Nat.zero_add]; exact hG.cell hi)
  refine wpIn_rangeFunc_ownF (F := Fence.wide) (n := 5) rfl (by decide) (gf := 75) (lb := #[.pointer (some ⟨w.heap.size + 1, 0, none⟩)]) rfl trivial (enters_of Tryz.func75 (by kernel_rfl) rfl)
    (groups_stops _ n (by omega) hn1 g (w.heap.size + 1) w.heap.size cap H hH _ (by simp) hgl (by simp; omega) hb.1 hc2) belowK_t (belowK_b (by simp; omega)) (Below.refl _ _) (fun _ => rfl)
    (fun pre W => (W.cell? ⟨w.heap.size, 0, none⟩ = some (.int .i64 ((triL pre : Nat) : Int)) ∧ W.frozen? ⟨w.heap.size, 0, none⟩ = false) ∧ Below w.heap.size w W)
    (fun _ _ _ => False)
    (OwnFrom.and (Own.from (fun s A B row hs hg hr => ⟨cell_kept hs.1 hg hr, (frozen_kept hs.1 hg hr).trans hs.2⟩) _) (ownFrom_below (Nat.le_refl _) (by simp; omega)))
    (fun _ _ _ _ _ hs _ _ => hs)
    ⟨⟨cell_alloced _ hs.1, frozen_alloced _ hs.1 hs.2⟩, hB2⟩
    (fun x => { tmps := #[.slice (some ⟨g, 0, none⟩) n cap, undef, .int .i64 0, .pointer (some ⟨w.heap.size, 0, none⟩), .int .u16 ((x % 65536 : Nat) : Int), .slice (some ⟨g, 0, none⟩) n cap, .func (.func 75) #[] #[.pointer (some ⟨w.heap.size + 1, 0, none⟩)], .int .u16 ((x % 65536 : Nat) : Int), undef, undef, undef, undef, undef, undef], defers := [] }) ?assign ?body ?done ?stop
  case assign =>
    intro l x W K hK
    gi_wp2
    exact hK
  case body =>
    rintro l pre x W ⟨⟨hc, hf⟩, hB⟩ hlen
    have hsn := Lib.hid (triL_snoc pre x)
    have hz := triL_le pre
    have hz2 : triL pre ≤ 1000000000 := by have := HCL.out; omega
    clear hz
    obtain ⟨z, HZ⟩ : ∃ z, Hid (z = triL pre) := ⟨_, rfl⟩
    obtain ⟨y, HY⟩ : ∃ y, Hid (y = x % 65536) := ⟨_, rfl⟩
    have hy : y < 65536 := by rw [HY.out]; exact Nat.mod_lt _ (by decide)
    rw [← HZ.out] at hc hz2 hsn
    rw [← HY.out]
    have hsn2 : Hid (triL (pre ++ [x]) = z + (if size16 y = 3 then 1 else 0)) := by
      have e : m16 x = y := HY.out.symm
      rw [e] at hsn
      exact hsn.out
    have hbd : size16 y ≤ 16 := cnt_le _ _
    have SZ := Lib.hid (fun W => size_any W y hy)
    obtain ⟨q, HQ⟩ : ∃ q, Hid (q = size16 y) := ⟨_, rfl⟩
    rw [← HQ.out] at hsn2 SZ hbd
    clear hs hb hB2 hc2 hsn HZ HY HQ hlen HCL hy
    have hmx : Tryz.prog.follows .mixedOrders = true := by kernel_rfl
    have kdn : ∀ k, KeepsOthers W (W.drewN k) := fun k => ⟨Nat.le_refl _, fun _ _ h _ => h⟩
    have bdn : ∀ k, Below w.heap.size W (W.drewN k) := fun k => ⟨rfl, rfl, rfl, Nat.le_refl _, fun _ _ => rfl⟩
    by_cases h3 : q = 3
    · subst h3
      gi_wp2_with ((first | refine ⟨trivial, hdd _, ?_⟩ | refine ⟨trivial, ?_⟩ | skip); gi_at_call 44; refine (CallsIn.inRound l (callsIn_wide.2 (SZ.out _))).mono ?_; rintro e w' ⟨rfl, q, rfl⟩)
      refine ⟨(kdn _).trans (KeepsOthers.setCell _ _ _), (bdn _).setCell (p := ⟨w.heap.size, 0, none⟩) (Nat.le_refl _) _, ⟨?_, ?_⟩, hB.trans ((bdn _).setCell (p := ⟨w.heap.size, 0, none⟩) (Nat.le_refl _) _)⟩
      · rw [hsn2.out, if_pos trivial]
        exact World.cell?_setCell_same' _ _ _ (by rw [World.cell?_drewN, hc]; rfl)
      · rw [World.frozen?_setCell, World.frozen?_drewN]
        exact hf
    · have s3 : ¬ (q : Int) = 3 := by omega
      gi_wp2_with ((first | refine ⟨trivial, hdd _, ?_⟩ | refine ⟨trivial, ?_⟩ | skip); gi_at_call 44; refine (CallsIn.inRound l (callsIn_wide.2 (SZ.out _))).mono ?_; rintro e w' ⟨rfl, q, rfl⟩)
      refine ⟨kdn _, bdn _, ⟨?_, ?_⟩, hB.trans (bdn _)⟩
      · rw [hsn2.out, if_neg h3, World.cell?_drewN]
        exact hc
      · rw [World.frozen?_drewN]
        exact hf
  case done =>
    rintro D ys W hD rfl ⟨⟨hc, _⟩, hB⟩ hK
    gi_wp2
    refine ⟨by simp, .inl ⟨_, _, rfl, run_takeDeferred hK, ?_⟩⟩
    exact ⟨_, results_tmp rfl _ _ _, rfl, hB.trans (belowK_b (w := w) (Nat.le_refl _) W D _ _ (by simp at hD; omega) hK rfl rfl)⟩
  case stop =>
    rintro D c pre W _ _ h _
    exact h.elim
theorem triples_any (w : World) (g n cap : Nat) (H : Nat → Nat) (hG : w.rowIs g 84 n (fun i => .int .u16 ((H i : Nat) : Int))) (hH : ∀ i, i < n → H i < 65536) (hn : n ≤ 9) (hn1 : 0 < n) :
    Calls Tryz.prog 46 #[.slice (some ⟨g, 0, none⟩) n cap] w fun e w' => e = .returned (.int .i64 ((triH H n : Nat) : Int)) ∧ Kept w w' :=
  callsIn_wide.1 ((triples_in w g n cap H hG hH hn hn1).mono (fun _ _ h => ⟨h.1, Kept.below h.2⟩))
end Go.Proofs.YtlnlddnjalfamaaGreatDoor
namespace Go.Proofs.YtlnlddnjalfamaaGreatDoor
open Go.RowKit Go.Deep

/-- with whom horse i of n does not get along -/
def oppH (H : Nat → Nat) (n : Nat) : Nat → Nat := fun i => bsub (bsub (allH n) (H i)) (2 ^ i)
theorem oppH_lt (H : Nat → Nat) {n : Nat} (hn : n ≤ 14) (i : Nat) : oppH H n i < 65536 := Nat.lt_of_le_of_lt (bsub_le _ _) (Nat.lt_of_le_of_lt (bsub_le _ _) (allH_lt (by omega)))
theorem oppH_bit {H : Nat → Nat} {n i : Nat} (hn : n ≤ 14) (hi : i < n) (hH : H i < 65536) (j : Nat) : (oppH H n i).testBit j = (decide (j < n) && !(H i).testBit j && !decide (i = j)) := by
  unfold oppH
  have h1 : bsub (allH n) (H i) < 65536 := Nat.lt_of_le_of_lt (bsub_le _ _) (allH_lt (by omega))
  rw [bsub_bit _ _ _ h1 (pow16 (by omega)), bsub_bit _ _ _ (allH_lt (by omega)) hH, allH_bit, pow_bit]
def OppPost (w : World) (n : Nat) (H : Nat → Nat) (e : Ending) (w' : World) : Prop := ∃ g, e = .returned (.slice (some ⟨g, 0, none⟩) n n) ∧ w'.rowIs g 84 n (fun i => setV (oppH H n i)) ∧ Kept w w'
set_option maxRecDepth 100000 in
set_option maxHeartbeats 4000000 in
theorem opposite_any (w : World) (g0 n cap : Nat) (H : Nat → Nat) (hG : w.rowIs g0 84 n (fun i => setV (H i))) (hH : ∀ i, i < n → H i < 65536) (hn : n ≤ 9) :
    Calls Tryz.prog 47 #[.slice (some ⟨g0, 0, none⟩) n cap] w (OppPost w n H) := by
  have hmk := fun W => mkHerd n (by omega) W
  have hrow := World.rowIs_made w (.int .u16 0) n 84
  have hk0 : Kept w (w.alloc (.cells (madeCells #[.int .u16 0] n) 84)) := (Kept.refl w).alloc _
  have hal := allH_lt (n := n) (by omega)
  have AL := Lib.hid (fun W (a : Option Addr) (cap : Nat) => all_any W a n cap (by omega))
  have HH := Lib.hid hH
  have hg0 := hG.lt
  clear hH
  go_enter Tryz.func47, Tryz.ntmps47
  go_wp2_with fail
  obtain ⟨g, HG⟩ : ∃ r, Hid (r = w.heap.size) := ⟨_, rfl⟩
  have hrs : w.heap.size ≤ g := by rw [HG.out]; exact Nat.le_refl _
  rw [← HG.out] at hrow ⊢
  generalize w.alloc (.cells (madeCells #[.int .u16 0] n) 84) = W0 at *
  clear hmk
  go_loopg [11] n (fun q s11 wr => ∃ k : Nat, k ≤ n ∧ q = n - k ∧ s11 = .int .i64 k ∧ Kept w wr ∧ wr.rowIs g 84 n (fun i => setV (if i < k then oppH H n i else 0)))
  case atStart => exact ⟨0, Nat.zero_le _, rfl, rfl, hk0, hrow.congr (fun i _ => by rw [if_neg (by omega)]; rfl)⟩
  case round =>
    clear hk0 hrow
    obtain ⟨k, hk, rfl, rfl, hK, hR⟩ := hrel
    by_cases hlt : k < n
    · have s1 : (k : Int) < (n : Int) := by omega
      have s2 : (0 : Int) ≤ (k : Int) := by omega
      have t0 := hK.cellSome (hG.cell hlt)
      simp only [setV] at t0
      have f0 := hR.frozen k
      have y0 := hR.cell (i := k) hlt
      have hx := HH.out k hlt
      have hv0 : Hid (oppH H n k = bsub (bsub (allH n) (H k)) (2 ^ k)) := rfl
      obtain ⟨x, HX⟩ : ∃ x, Hid (x = H k) := ⟨_, rfl⟩
      rw [← HX.out] at t0 hx hv0
      obtain ⟨P, HP⟩ : ∃ p : Nat, Hid (p = 2 ^ k) := ⟨2 ^ k, rfl⟩
      have e0 : (2 : Int) ^ k = (P : Int) := by rw [HP.out]; simp
      have p1 : P < 65536 := by rw [HP.out]; exact pow16 (by omega)
      have wP : IntKind.u16.wrap (P : Int) = (P : Int) := wr16 _ p1
      rw [← HP.out] at hv0
      have a1 := andNot16 (allH n) x hal hx
      have a2 := andNot16 (bsub (allH n) x) P (Nat.lt_of_le_of_lt (bsub_le _ _) hal) p1
      rw [← hv0.out] at a2
      obtain ⟨V, HV⟩ : ∃ V, Hid (V = oppH H n k) := ⟨_, rfl⟩
      rw [← HV.out] at a2
      have hR2 := (hR.set k (setV V)).congr (g := fun i => setV (if i < k + 1 then oppH H n i else 0)) (fun i _ => by
        by_cases e : i = k
        · rw [if_pos e, if_pos (by omega), e, ← HV.out]
        · rw [if_neg e]
          by_cases h : i < k
          · rw [if_pos h, if_pos (by omega)]
          · rw [if_neg h, if_neg (by omega)])
      have hK2 := hK.setCell (p := ⟨g, k, none⟩) (by show w.heap.size ≤ g; omega) (setV V)
      obtain ⟨Y, HY⟩ : ∃ Y, Hid (Y = bsub (allH n) x) := ⟨_, rfl⟩
      rw [← HY.out] at a1 a2
      obtain ⟨X, HX2⟩ : ∃ X : Nat, Hid (X = allH n) := ⟨_, rfl⟩
      rw [← HX2.out] at a1 AL hal
      clear HX HP HV hv0 HY HX2 hx p1
      go_wp2_with fail
      go_region_with (first | (go_at_call 77; refine (AL.out _ _ _).mono ?_; rintro e w2 ⟨rfl, rfl⟩))
      all_goals
        (try simp only [wP, a1, a2])
        have hR3 := hR2.drew
        have hK3 := hK2.drew
        (try simp only [setV] at hR3); (try simp only [setV] at hK3)
        clear hR2 hK2 hR hK t0 f0 y0
        go_wp2_with fail
        go_roundg (n - (k + 1))
        case measure => omega
        case rel => exact ⟨k + 1, by omega, rfl, by first | rfl | go_num, hK3, hR3⟩
    · obtain rfl : k = n := by omega
      go_wp2_with fail
      go_ret
      exact ⟨g, rfl, hR.congr (fun i hi => by rw [if_pos hi]), hK⟩
def TriplesPost (w : World) (n : Int) (A B : Nat → Int) (m : Nat) (e : Ending) (w' : World) : Prop := Kept w w' ∧ if goodH n A B m then e = .returned (.tuple #[.int .i64 ((triH (alongH A B m) n.toNat : Nat) : Int), .int .i64 ((triH (oppH (alongH A B m) n.toNat) n.toNat : Nat) : Int), .int .i64 0]) else e = .returned (.tuple #[.int .i64 0, .int .i64 0, .int .i64 1])
set_option maxRecDepth 100000 in
set_option maxHeartbeats 4000000 in
theorem Triples_any (w : World) (n : Int) (v : Value) (m : Nat) (A B : Nat → Int) (hP : PairsAt w v m A B) (hm : m ≤ 1000000) :
    Calls Tryz.prog 12 #[.int .i64 n, v] w (TriplesPost w n A B m) := by
  have HO := Lib.hid (herdOf_any w n v m A B hP hm)
  obtain ⟨gb, HGB⟩ : ∃ gb, Hid (gb = goodH n A B m) := ⟨_, rfl⟩
  unfold HerdOfPost at HO
  unfold TriplesPost
  rw [← HGB.out] at HO ⊢
  cases gb with
  | false =>
    go_enter Tryz.func12, Tryz.ntmps12
    go_wp2_with (first | (go_at_call 41; refine HO.out.mono ?_; rintro e w2 ⟨hk2, he⟩; rw [if_neg (by simp)] at he; subst he))
    go_ret3
    exact ⟨hk2, rfl⟩
  | true =>
    have hg := HGB.out.symm
    unfold goodH at hg
    simp only [Bool.and_eq_true, decide_eq_true_eq] at hg
    obtain ⟨N, rfl⟩ : ∃ N : Nat, n = N := ⟨n.toNat, by omega⟩
    have hlts := alongH_lt (n := N) (k := m) (by omega) hg.2
    have hN9 : N ≤ 9 := by omega
    have hN1 : 0 < N := by omega
    have TA := Lib.hid (fun (W : World) (g : Nat) (hG : W.rowIs g 84 N (fun i => setV (alongH A B m i))) => triples_any W g N N (alongH A B m) hG hlts hN9 hN1)
    have OA := Lib.hid (fun (W : World) (g : Nat) (hG : W.rowIs g 84 N (fun i => setV (alongH A B m i))) => opposite_any W g N N (alongH A B m) hG hlts hN9)
    have TB := Lib.hid (fun (W : World) (g : Nat) (hG : W.rowIs g 84 N (fun i => setV (oppH (alongH A B m) N i))) => triples_any W g N N (oppH (alongH A B m) N) hG (fun i _ => oppH_lt _ (by omega) i) hN9 hN1)
    simp only [Int.toNat_natCast] at HO ⊢
    obtain ⟨p, HP1⟩ : ∃ p, Hid (p = triH (alongH A B m) N) := ⟨_, rfl⟩
    obtain ⟨q, HP2⟩ : ∃ p, Hid (p = triH (oppH (alongH A B m) N) N) := ⟨_, rfl⟩
    unfold OppPost at OA
    rw [← HP1.out] at TA ⊢
    rw [← HP2.out] at TB ⊢
    generalize oppH (alongH A B m) N = H2 at *
    generalize alongH A B m = H1 at *
    clear hg hlts HGB HP1 HP2
    go_enter Tryz.func12, Tryz.ntmps12
    go_wp2_with (first | (go_at_call 41; refine HO.out.mono ?_; rintro e w2 ⟨hk2, he⟩; rw [if_pos trivial] at he; obtain ⟨g, rfl, hgs, hG⟩ := he) | (go_at_call 46; refine (TA.out _ g hG).mono ?_; clear TA; rintro e w3 ⟨rfl, hk3⟩) | (go_at_call 47; refine (OA.out _ g (hk3.row hG)).mono ?_; rintro e w4 ⟨g4, rfl, hG4, hk4⟩) | (go_at_call 46; refine (TB.out _ g4 hG4).mono ?_; rintro e w5 ⟨rfl, hk5⟩))
    go_ret3
    exact ⟨((hk2.trans hk3).trans hk4).trans hk5, rfl⟩
end Go.Proofs.YtlnlddnjalfamaaGreatDoor
