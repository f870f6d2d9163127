/-
  lives: the program returns the results of the document's examples.
-/
import Derived.Test.YtlnpipkhofhlnaaLh
namespace Go.Proofs.Ytlnpipkhofhlnaa
open Go.RowKit Go.Deep

theorem same2 {f g : Nat → Int} (h0 : f 0 = g 0) (h1 : f 1 = g 1) : same 2 f 2 g = true := by simp [same, allN, h0, h1]
/-- a literal of ints -/
theorem lit2 (W : World) (a b : Int) (t : TypeId) (s : Nat) (hs : W.heap.size = s) : IntsAt (W.alloc (.cells #[.int .i64 a, .int .i64 b] t)) (.slice (some ⟨s, 0, none⟩) 2 2) 2 (fun i => if i = 0 then a else b) := by
  subst hs
  refine ⟨_, W.heap.size, 0, 2, rfl, fun _ => rfl, fun i hi => ?_⟩
  have : i = 0 ∨ i = 1 := by omega
  rcases this with rfl | rfl <;> (unfold World.cell?; dsimp only; rw [blk_alloc_new]; rfl)
theorem lit1 (W : World) (a : Int) (t : TypeId) (s : Nat) (hs : W.heap.size = s) : IntsAt (W.alloc (.cells #[.int .i64 a] t)) (.slice (some ⟨s, 0, none⟩) 1 1) 1 (fun _ => a) := by
  subst hs
  refine ⟨_, W.heap.size, 0, 1, rfl, fun _ => rfl, fun i hi => ?_⟩
  obtain rfl : i = 0 := by omega
  unfold World.cell?; dsimp only; rw [blk_alloc_new]; rfl
theorem litE (W : World) (t : TypeId) : PairsAt (W.alloc (.cells #[.int .i64 0, .int .i64 1, .int .i64 0, .int .i64 2, .int .i64 1, .int .i64 2] t)) (.slice (some ⟨W.heap.size, 0, none⟩) 3 3) 3 eA eB := by
  refine ⟨_, W.heap.size, 0, 3, rfl, fun _ => rfl, fun i hi => ?_⟩
  have : i = 0 ∨ i = 1 ∨ i = 2 := by omega
  rcases this with rfl | rfl | rfl <;> (unfold World.cell?; dsimp only; rw [blk_alloc_new]; exact ⟨rfl, rfl⟩)
def LivesPost (w : World) (e : Ending) (w' : World) : Prop := e = .returned (.bool true) ∧ Kept w w'
theorem settle_tri (w : World) (ev hv : Value) (hE : PairsAt w ev 3 eA eB) (hH : IntsAt w hv 2 (fun i => if i = 0 then 2 else 0)) :
    Calls Try.prog 31 #[.int .i64 3, ev, hv] w fun e w' => ∃ r t, e = .returned (.tuple #[.slice (some ⟨r, 1, none⟩) 2 2, .slice (some ⟨t, 0, none⟩) 2 2, .int .i64 0]) ∧ Kept w w' ∧
      IntsAt w' (.slice (some ⟨r, 1, none⟩) 2 2) 2 (fun i => if i = 0 then 0 else 1) ∧ IntsAt w' (.slice (some ⟨t, 0, none⟩) 2 2) 2 (fun i => if i = 0 then 1 else 0) := by
  refine (Settle_any w 3 ev hv eA eB 3 2 _ hE hH (by omega)).mono ?_
  rintro e w' ⟨hk, h1, _⟩
  have hc : code1 3 eA eB 3 0 2 (fun i => if i = 0 then 2 else 0) = 0 := code1_ok tri_good (by decide)
  obtain ⟨r, t, f, x, rfl, _, _, _, hR, hT, ho, hf, _⟩ := h1 hc
  obtain ⟨x1, x2, f1, f2⟩ := tri_settle (h := atV (fun i => if i = 0 then 2 else 0)) (by decide) (by decide) ho hf
  refine ⟨r, t, rfl, hk, (CellsAt.of_row1 (n := 2) hR).congr (fun i hi => ?_), (CellsAt.of_row (n := 2) hT).congr (fun i hi => ?_)⟩
  · have : i = 0 ∨ i = 1 := by omega
    rcases this with rfl | rfl
    · show Value.int .i64 (f 1) = _; rw [f1]; rfl
    · show Value.int .i64 (f 2) = _; rw [f2]; rfl
  · have : i = 0 ∨ i = 1 := by omega
    rcases this with rfl | rfl
    · show Value.int .i64 (x 1) = _; rw [x1]; rfl
    · show Value.int .i64 (x 2) = _; rw [x2]; rfl
theorem burn_tri (w : World) (ev hv : Value) (hE : PairsAt w ev 3 eA eB) (hH : IntsAt w hv 2 (fun i => if i = 0 then 1 else 0)) :
    Calls Try.prog 26 #[.int .i64 3, ev, hv] w fun e w' => ∃ ov, e = .returned (.tuple #[ov, .bool true, .int .i64 0]) ∧ Kept w w' ∧ IntsAt w' ov 2 (fun i => if i = 0 then 1 else 2) := by
  refine (Burn_any w 3 ev hv eA eB 3 2 _ hE hH (by omega)).mono ?_
  rintro e w' ⟨hk, _, _, h3⟩
  have hc : code1 3 eA eB 3 0 2 (fun i => if i = 0 then 1 else 0) = 0 := code1_ok tri_good (by decide)
  obtain ⟨ov, rfl, base, _, hO⟩ := h3 hc tri_stable
  have hb : burnAll (3 : Int).toNat (btwN eA eB 3) (fun i => if i = 0 then 1 else 0) = [1, 2] := tri_burn
  rw [hb] at hO ⊢
  refine ⟨ov, rfl, hk, (CellsAt.of_own hO).congr (fun i hi => ?_)⟩
  have hi' : i < 2 := hi
  have : i = 0 ∨ i = 1 := by omega
  rcases this with rfl | rfl <;> rfl
theorem group_tri (w : World) (ev : Value) (hE : PairsAt w ev 3 eA eB) :
    Calls Try.prog 38 #[.int .i64 3, ev] w fun e w' => ∃ ov, e = .returned (.tuple #[ov, .int .i64 0]) ∧ Kept w w' ∧ IntsAt w' ov 1 (fun _ => 3) := by
  refine (Group_any w 3 ev eA eB 3 hE (by omega) (fun _ => tri_ok)).mono ?_
  rintro e w' ⟨hk, _, h3⟩
  obtain ⟨ov, rfl, hO⟩ := h3 tri_good
  have hb : facL (yardDiv (3 : Int).toNat eA eB 3) ((3 : Int).toNat - 1) = [3] := tri_fac
  rw [hb] at hO
  refine ⟨ov, rfl, hk, (CellsAt.of_own hO).congr (fun i hi => ?_)⟩
  have hi' : i < 1 := hi
  obtain rfl : i = 0 := by omega
  rfl
theorem nothing_tri (w : World) (ev : Value) (hE : PairsAt w ev 3 eA eB) :
    Calls Try.prog 39 #[.int .i64 3, ev] w fun e w' => ∃ r, e = .returned (.tuple #[.slice (some ⟨r, 1, none⟩) 2 2, .int .i64 0]) ∧ Kept w w' ∧ IntsAt w' (.slice (some ⟨r, 1, none⟩) 2 2) 2 (fun _ => 1) := by
  refine (Nothing_any w 3 ev eA eB 3 3 hE (by omega) (fun _ => ⟨tri_count, by omega, by omega⟩)).mono ?_
  rintro e w' ⟨hk, _, h3⟩
  obtain ⟨r, f, x, rfl, _, hR, ho, hf, _⟩ := h3 tri_good
  obtain ⟨f1, f2⟩ := tri_nothing (h := atV (fun _ => 0 + moreN 3)) (by decide) (by decide) ho hf
  refine ⟨r, rfl, hk, (CellsAt.of_row1 (n := 2) hR).congr (fun i hi => ?_)⟩
  have : i = 0 ∨ i = 1 := by omega
  rcases this with rfl | rfl
  · show Value.int .i64 (f 1) = _; rw [f1]
  · show Value.int .i64 (f 2) = _; rw [f2]
theorem same_yes (w : World) (va vb : Value) (n : Nat) (fa fb : Nat → Int) (ha : IntsAt w va n fa) (hb : IntsAt w vb n fb) (hn : n ≤ 1000000) (h : ∀ i, i < n → fa i = fb i) :
    Calls Try.prog 18 #[va, vb] w fun e w' => e = .returned (.bool true) ∧ Kept w w' := by
  refine (same_any w va vb n n fa fb ha hb hn hn).mono ?_
  rintro e w' ⟨rfl, hq⟩
  have : same n fa n fb = true := by
    unfold same
    rw [decide_eq_true rfl, Bool.true_and]
    exact allN_true.2 (fun i hi => by rw [h i hi]; simp)
  rw [this]
  exact ⟨rfl, hq.kept⟩

set_option maxRecDepth 100000 in
set_option maxHeartbeats 1000000 in
theorem lives_any (w : World) : Calls Try.prog 13 #[] w (LivesPost w) := by
  have hE := litE w 71
  have hK : Kept w (w.alloc (.cells #[.int .i64 0, .int .i64 1, .int .i64 0, .int .i64 2, .int .i64 1, .int .i64 2] 71)) := (Kept.refl w).alloc _
  have h2 := lit2 (w.alloc (.cells #[.int .i64 0, .int .i64 1, .int .i64 0, .int .i64 2, .int .i64 1, .int .i64 2] 71)) 2 0 3 (w.heap.size + 1) (by simp)
  have hE2 := hE.kept ((Kept.refl _).alloc (.cells #[.int .i64 2, .int .i64 0] 3))
  have hK2 := hK.alloc (.cells #[.int .i64 2, .int .i64 0] 3)
  clear hE hK
  go_enter Try.func13, Try.ntmps13
  go_wp2_with fail
  refine (settle_tri _ _ _ hE2 h2).mono ?_
  rintro e w1 ⟨r1, t1, rfl, hk1, hs1, ht1⟩
  have hK3 := hK2.trans hk1
  have hE3 := hE2.kept hk1
  clear hk1 h2 hE2 hK2
  generalize w.heap.size = g at *
  have hb := lit2 w1 1 0 3 w1.heap.size rfl
  have hk4 := (Kept.refl w1).alloc (.cells #[.int .i64 1, .int .i64 0] 3)
  have hE4 := hE3.kept hk4
  have hs4 := hs1.kept hk4
  have ht4 := ht1.kept hk4
  have hK4 := hK3.trans hk4
  clear hE3 hs1 ht1 hk4 hK3
  go_wp2_with fail
  refine (burn_tri _ _ _ hE4 hb).mono ?_
  rintro e w2 ⟨ov, rfl, hk5, hb5⟩
  have hK5 := hK4.trans hk5
  have hE5 := hE4.kept hk5
  have hs5 := hs4.kept hk5
  have ht5 := ht4.kept hk5
  obtain ⟨ob, obb, obo, obc, rfl, hob, hobc⟩ := hb5
  have hb5 : IntsAt w2 (.slice ob 2 obc) 2 (fun i => if i = 0 then 1 else 2) := ⟨ob, obb, obo, obc, rfl, hob, hobc⟩
  clear hE4 hs4 ht4 hk5 hK4 hob hobc hb
  go_wp2_with fail
  refine (group_tri _ _ hE5).mono ?_
  rintro e w3 ⟨og, rfl, hk6, hg6⟩
  have hK6 := hK5.trans hk6
  have hE6 := hE5.kept hk6
  have hs6 := hs5.kept hk6
  have ht6 := ht5.kept hk6
  have hb6 := hb5.kept hk6
  obtain ⟨oa, oab, oao, oac, rfl, hoa, hoac⟩ := hg6
  have hg6 : IntsAt w3 (.slice oa 1 oac) 1 (fun _ => 3) := ⟨oa, oab, oao, oac, rfl, hoa, hoac⟩
  clear hE5 hs5 ht5 hk6 hK5 hb5 hoa hoac
  go_wp2_with fail
  refine (nothing_tri _ _ hE6).mono ?_
  rintro e w4 ⟨r4, rfl, hk7, hn7⟩
  have hK7 := hK6.trans hk7
  have hs7 := hs6.kept hk7
  have ht7 := ht6.kept hk7
  have hb7 := hb6.kept hk7
  have hg7 := hg6.kept hk7
  clear hE6 hs6 ht6 hk7 hK6 hb6 hg6
  have hl8 := lit2 w4 0 1 3 w4.heap.size rfl
  have hk8 := (Kept.refl w4).alloc (.cells #[.int .i64 0, .int .i64 1] 3)
  have hs8 := hs7.kept hk8
  go_wp2_with fail
  refine (same_yes _ _ _ 2 _ _ hs8 hl8 (by omega) (fun i hi => rfl)).mono ?_
  rintro e w5 ⟨rfl, hk9⟩
  have hk9' := hk8.trans hk9
  have hK9 := hK7.trans hk9'
  have ht9 := ht7.kept hk9'
  have hb9 := hb7.kept hk9'
  have hg9 := hg7.kept hk9'
  have hn9 := hn7.kept hk9'
  clear hs7 hs8 ht7 hb7 hg7 hn7 hl8 hk8 hk9 hk9' hK7
  have hl10 := lit2 w5 1 0 3 w5.heap.size rfl
  have hk10 := (Kept.refl w5).alloc (.cells #[.int .i64 1, .int .i64 0] 3)
  have ht10 := ht9.kept hk10
  go_wp2_with fail
  refine (same_yes _ _ _ 2 _ _ ht10 hl10 (by omega) (fun i hi => rfl)).mono ?_
  rintro e w6 ⟨rfl, hk11⟩
  have hk11' := hk10.trans hk11
  have hK11 := hK9.trans hk11'
  have hb11 := hb9.kept hk11'
  have hg11 := hg9.kept hk11'
  have hn11 := hn9.kept hk11'
  clear ht9 ht10 hb9 hg9 hn9 hl10 hk10 hk11 hk11' hK9
  have hl12 := lit2 w6 1 2 3 w6.heap.size rfl
  have hk12 := (Kept.refl w6).alloc (.cells #[.int .i64 1, .int .i64 2] 3)
  have hb12 := hb11.kept hk12
  go_wp2_with fail
  refine (same_yes _ _ _ 2 _ _ hb12 hl12 (by omega) (fun i hi => rfl)).mono ?_
  rintro e w7 ⟨rfl, hk13⟩
  have hk13' := hk12.trans hk13
  have hK13 := hK11.trans hk13'
  have hg13 := hg11.kept hk13'
  have hn13 := hn11.kept hk13'
  clear hb11 hb12 hg11 hn11 hl12 hk12 hk13 hk13' hK11
  have hl14 := lit1 w7 3 3 w7.heap.size rfl
  have hk14 := (Kept.refl w7).alloc (.cells #[.int .i64 3] 3)
  have hg14 := hg13.kept hk14
  go_wp2_with fail
  refine (same_yes _ _ _ 1 _ _ hg14 hl14 (by omega) (fun i hi => rfl)).mono ?_
  rintro e w8 ⟨rfl, hk15⟩
  have hk15' := hk14.trans hk15
  have hK15 := hK13.trans hk15'
  have hn15 := hn13.kept hk15'
  clear hg13 hg14 hn13 hl14 hk14 hk15 hk15' hK13
  have hl16 := lit2 w8 1 1 3 w8.heap.size rfl
  have hk16 := (Kept.refl w8).alloc (.cells #[.int .i64 1, .int .i64 1] 3)
  have hn16 := hn15.kept hk16
  go_wp2_with fail
  refine (same_yes _ _ _ 2 _ _ hn16 hl16 (by omega) (fun i hi => by show (1 : Int) = if i = 0 then 1 else 1; split <;> rfl)).mono ?_
  rintro e w9 ⟨rfl, hk17⟩
  have hK17 := hK15.trans (hk16.trans hk17)
  clear hn15 hn16 hl16 hk16 hk17 hK15
  go_wp2_with fail
  go_ret
  exact ⟨rfl, hK17⟩
end Go.Proofs.Ytlnpipkhofhlnaa
