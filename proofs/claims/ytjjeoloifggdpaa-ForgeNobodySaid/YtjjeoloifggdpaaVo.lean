/-
  Package forge: New.
-/
import Derived.Test.YtjjeoloifggdpaaVn
namespace Go.Proofs.Ytjjeoloifggdpaa
open Go.RowKit Go.Deep Go.Sort

def Vil.new (n : Nat) (on : Nat → Nat) (h : Nat) : Vil := ⟨n, on, waysT on h, fun _ => [], fun _ => false, fun _ => false, [], 0⟩
def nilS : Value := .slice none 0 0
/-- the smiths' cells at the beginning -/
def stL (F : Nat → Nat) : Nat → List Value
  | 0 => []
  | k + 1 => stL F k ++ [natV (F k), .slice none 0 0, .bool false, .bool false]
theorem stL_len (F : Nat → Nat) (k : Nat) : (stL F k).length = k * 4 := by
  induction k with
  | zero => rfl
  | succ k ih => simp only [stL, List.length_append, ih]; simp; omega
theorem stL_get (F : Nat → Nat) (n k : Nat) (hk : k < n * 4) : (stL F n)[k]? = some (stV F (fun _ => .slice none 0 0) (fun _ => false) (fun _ => false) k) := by
  induction n with
  | zero => omega
  | succ n ih =>
    simp only [stL]
    by_cases h : k < n * 4
    · rw [List.getElem?_append_left (by rw [stL_len]; exact h)]; exact ih h
    · rw [List.getElem?_append_right (by rw [stL_len]; omega), stL_len]
      rcases (by omega : k = n * 4 ∨ k = n * 4 + 1 ∨ k = n * 4 + 2 ∨ k = n * 4 + 3) with rfl | rfl | rfl | rfl
      · rw [stV0, Nat.sub_self]; rfl
      · rw [stV1, show n * 4 + 1 - n * 4 = 1 by omega]; rfl
      · rw [stV2, show n * 4 + 2 - n * 4 = 2 by omega]; rfl
      · rw [stV3, show n * 4 + 3 - n * 4 = 3 by omega]; rfl
theorem Try.infoSt : (Try.prog.info? 75).map (fun i => (i.zero, i.size, i.bytes)) = some (some (.agg #[.int .i64 0, .slice none 0 0, .bool false, .bool false]), 4, 40) := by kernel_rfl
/-- the box of a village on its way -/
def bxN (s0 vo vs : Value) : Nat → Value := fun k => if k = 0 then s0 else if k = 1 then vo else if k = 2 then vs else if k = 3 then .slice none 0 0 else .int .i64 0
theorem box5 (w : World) (vo : Value) (t : TypeId) : (w.alloc (.cells #[.pointer none, vo, .slice none 0 0, .slice none 0 0, .int .i64 0] t)).rowIs w.heap.size t 5 (bxN (.pointer none) vo (.slice none 0 0)) :=
  World.rowIs_alloc w _ t _ (fun j hj => by
    have : j = 0 ∨ j = 1 ∨ j = 2 ∨ j = 3 ∨ j = 4 := by simp at hj; omega
    rcases this with rfl | rfl | rfl | rfl | rfl <;> rfl)
theorem bxN_set {w : World} {p : Nat} {t : TypeId} {s0 vo vs : Value} (h : w.rowIs p t 5 (bxN s0 vo vs)) (v : Value) : (w.setCell ⟨p, 2, none⟩ v).rowIs p t 5 (bxN s0 vo v) :=
  (h.set 2 v).congr fun j hj => by
    unfold bxN
    rcases (by omega : j = 0 ∨ j = 1 ∨ j = 2 ∨ j = 3 ∨ j = 4) with rfl | rfl | rfl | rfl | rfl <;> rfl
theorem bxN_self {w : World} {p : Nat} {t : TypeId} {s0 vo vs : Value} (h : w.rowIs p t 5 (bxN s0 vo vs)) (v : Value) : (w.setCell ⟨p, 0, none⟩ v).rowIs p t 5 (bxN v vo vs) :=
  (h.set 0 v).congr fun j hj => by
    unfold bxN
    rcases (by omega : j = 0 ∨ j = 1 ∨ j = 2 ∨ j = 3 ∨ j = 4) with rfl | rfl | rfl | rfl | rfl <;> rfl
/-- a village whose smiths have been laid, but for its pointer to itself -/
structure HalfAt (w : World) (B p n k : Nat) (on F : Nat → Nat) (s0 vo vs v2 : Value) : Prop where
  box : w.rowIs p 69 5 (bxN s0 vo vs)
  own : w.ownsRow B 75 4 vs k (stL F k)
  on : w.ownsRow B 3 1 vo n (natsV ((List.range n).map on))
  ways : WaysAt w v2 n F
theorem HalfAt.kept {w w' : World} {B p n k : Nat} {on F : Nat → Nat} {s0 vo vs v2 : Value} (h : HalfAt w B p n k on F s0 vo vs v2) (kk : Kept w w') : HalfAt w' B p n k on F s0 vo vs v2 := by
  obtain ⟨g, cap, f, hv, hn, hr, hf⟩ := h.ways
  exact ⟨kk.row h.box, own_kept h.own kk, own_kept h.on kk, ⟨g, cap, f, hv, hn, kk.row hr, hf⟩⟩
/-- one more smith -/
theorem HalfAt.grow {w w' : World} {B p n k : Nat} {on F : Nat → Nat} {s0 vo vs v2 vs' : Value} (h : HalfAt w B p n k on F s0 vo vs v2) (hg : w.grownBy w' vs.ownBlock) (hO : w'.ownsRow B 75 4 vs' (k + 1) (stL F (k + 1))) :
    HalfAt (w'.setCell ⟨p, 2, none⟩ vs') B p n (k + 1) on F s0 vo vs' v2 ∧ w'.cell? ⟨p, 2, none⟩ = some vs ∧ w'.frozen? ⟨p, 2, none⟩ = false := by
  obtain ⟨g, cap, f, hv, hn, hr, hf⟩ := h.ways
  have kx := grew_own hg
  have b1 := kx.row h.box (row_own h.box h.own (by decide))
  have o1 := own_frame h.on kx fun b hb h2 => own_own h.on h.own (by decide) b hb h2
  have r1 := kx.row hr (row_own hr h.own (by decide))
  have k2 : KeptX (fun b => b = p) w' (w'.setCell ⟨p, 2, none⟩ vs') := (KeptX.refl _ w').setIn _ vs'
  refine ⟨⟨bxN_set b1 vs', own_frame hO k2 ?_, own_frame o1 k2 ?_, ⟨g, cap, f, hv, hn, k2.row r1 (row_row r1 b1 (by decide)), hf⟩⟩, b1.cell (show 2 < 5 by omega), b1.frozen 2⟩
  · rintro b hb rfl; exact row_own b1 hO (by decide) hb
  · rintro b hb rfl; exact row_own b1 o1 (by decide) hb
/-- the pointer to itself makes it a village -/
theorem HalfAt.done {w : World} {B p n h : Nat} {on : Nat → Nat} {s0 vo vs v2 : Value} (H : HalfAt w B p n n on (waysT on h) s0 vo vs v2) (hn : 0 < n) (hB : B ≤ p) :
    ∃ q, VilAt (w.setCell ⟨p, 0, none⟩ (.pointer (some ⟨p, 0, none⟩))) p q (Vil.new n on h) (fun b => B ≤ b ∧ b < w.heap.size) := by
  rcases H.own.2 with ⟨_, h0⟩ | ⟨q, cq, cur, hvs, hbq, hq, hnc, _, hcs, htk⟩
  · omega
  · have hr : w.rowIs q 75 (cq * 4) (fun j => cur.getD j undef) := ⟨cur, hq, hcs, fun j hj => by
      have : j < cur.size := by omega
      simp [Array.getD, this]⟩
    have k2 : KeptX (fun b => b = p) w (w.setCell ⟨p, 0, none⟩ (.pointer (some ⟨p, 0, none⟩))) := (KeptX.refl _ w).setIn _ _
    have hpq : q ≠ p := row_row hr H.box (by decide)
    have hpl : p < w.heap.size := H.box.lt
    have hql : q < w.heap.size := hr.lt
    have on1 := own_frame H.on k2 (by rintro b hb rfl; exact row_own H.box H.on (by decide) hb)
    refine ⟨q, vo, .slice none 0 0, fun _ => .slice none 0 0, cq, ⟨?_, ⟨cq * 4, _, ?_, k2.row hr hpq, fun k hk => ?_⟩, own_base on1 (Nat.zero_le _), fun i _ => ⟨rfl, .inl ⟨rfl, rfl⟩⟩, ⟨rfl, .inl ⟨rfl, rfl⟩⟩, fun i j _ _ _ b hb => (by cases hb), fun i _ b hb => (by cases hb), ⟨hB, hpl⟩, ⟨hbq, hql⟩, fun b hb => H.on.lt b hb, fun i _ b hb => (by cases hb), fun b hb => (by cases hb), fun b hb => ?_⟩⟩
    · refine (bxN_self H.box _).congr fun j hj => ?_
      rw [hvs]
      unfold bxN bxV
      rcases (by omega : j = 0 ∨ j = 1 ∨ j = 2 ∨ j = 3 ∨ j = 4) with rfl | rfl | rfl | rfl | rfl <;> rfl
    · show n * 4 ≤ cq * 4
      omega
    · have hk2 : k < n * 4 := hk
      have hkc : k < cur.size := by omega
      have e1 : (cur.toList.take (n * 4))[k]? = (stL (waysT on h) n)[k]? := by rw [htk]
      rw [List.getElem?_take, if_pos hk2, Array.getElem?_toList, Array.getElem?_eq_getElem hkc, stL_get _ _ _ hk2] at e1
      simp only [Array.getD, hkc, dif_pos]
      exact Option.some.inj e1
    · rw [nblk_setCell]; exact hb.2

set_option maxRecDepth 100000 in
set_option maxHeartbeats 2000000 in
theorem New_bad (w : World) (v : Value) (n : Nat) (X : Nat → Int) (h : Int) (hV : IntsAt w v n X) (hn : n ≤ 1000000) (hb : (treeB n X && inV n h) = false) :
    Calls Try.prog 13 #[v, .int .i64 h] w fun e w' => e = .returned (.tuple #[.pointer none, .int .i64 1]) ∧ Kept w w' := by
  have TR := Lib.hid (isTree_any w v n X hV hn)
  obtain ⟨a, b, o, cap, rfl, _, _⟩ := hV
  cases ht : treeB n X
  · rw [ht] at TR
    clear hb ht
    go_enter Try.func13, Try.ntmps13
    go_wp2_with (first | (go_at_call 41; refine TR.out.mono ?_; rintro e w1 ⟨rfl, rfl⟩))
    go_ret2
    exact ⟨rfl, Kept.refl _⟩
  · rw [ht] at TR hb
    rw [Bool.true_and] at hb
    unfold inV at hb
    by_cases h0 : h < 0
    · clear hb ht
      go_enter Try.func13, Try.ntmps13
      go_wp2_with (first | (go_at_call 41; refine TR.out.mono ?_; rintro e w1 ⟨rfl, rfl⟩))
      go_ret2
      exact ⟨rfl, Kept.refl _⟩
    · have h1 : h ≥ (n : Int) := by
        rw [decide_eq_true (by omega), Bool.true_and, decide_eq_false_iff_not] at hb
        omega
      clear hb ht
      go_enter Try.func13, Try.ntmps13
      go_wp2_with (first | (go_at_call 41; refine TR.out.mono ?_; rintro e w1 ⟨rfl, rfl⟩))
      go_ret2
      exact ⟨rfl, Kept.refl _⟩
def NewPost (w : World) (B n : Nat) (on : Nat → Nat) (h : Nat) (e : Ending) (w' : World) : Prop :=
  ∃ p q, e = .returned (.tuple #[ptr p, .int .i64 0]) ∧ VilAt w' p q (Vil.new n on h) (fun b => B ≤ b ∧ b < w'.heap.size) ∧ Kept w w'
set_option maxRecDepth 100000 in
set_option maxHeartbeats 2000000 in
theorem New_good (w : World) (v : Value) (n : Nat) (X : Nat → Int) (h : Nat) (hV : IntsAt w v n X) (ht : treeB n X = true) (hh : h < n) :
    Calls Try.prog 13 #[v, .int .i64 (h : Int)] w (NewPost w w.heap.size n (fun i => (X i).toNat) h) := by
  have htr : 1 ≤ n ∧ n ≤ 8 ∧ X 0 = 0 ∧ ∀ i, i < n → 0 < i → 0 ≤ X i ∧ X i < (i : Int) := of_decide_eq_true ht
  obtain ⟨hn1, hn8, hx0, hx⟩ := htr
  have TR := Lib.hid (isTree_any w v n X hV (by omega))
  rw [ht] at TR
  obtain ⟨on, HON⟩ : ∃ on : Nat → Nat, Hid (on = fun i => (X i).toNat) := ⟨_, rfl⟩
  have hN : CellsAt w v n (fun i => .int .i64 ((on i : Nat) : Int)) := hV.congr fun i hi => by
    rw [HON.out]
    dsimp only
    have : 0 ≤ X i := by
      by_cases e : i = 0
      · rw [e, hx0]; omega
      · exact (hx i hi (by omega)).1
    rw [Int.toNat_of_nonneg this]
  have h0 : on 0 = 0 := by rw [HON.out]; dsimp only; rw [hx0]; rfl
  have hlt : ∀ i, i < n → 0 < i → on i < i := fun i hi h0 => by
    rw [HON.out]; dsimp only
    have := hx i hi h0
    omega
  rw [← HON.out]
  have CL := Lib.hid (clone_at w v n on hN hn1 (by omega))
  have WT : Hid (∀ W, Kept w W → Calls Try.prog 43 #[.int .i64 (h : Int), v] W fun e w' => ∃ v', e = .returned v' ∧ WaysAt w' v' n (waysT on h) ∧ Kept W w') := Lib.hid (fun W k => waysTo_any W v n on h (hN.kept k) hn8 hh h0 hlt)
  obtain ⟨F, HF⟩ : ∃ F, Hid (F = waysT on h) := ⟨_, rfl⟩
  rw [← HF.out] at WT
  obtain ⟨i0, hi0, hz0, hz1, hz2⟩ := info_parts Try.infoSt
  obtain ⟨a, b, o, cap, rfl, _, _⟩ := hV
  have s0 : ¬ (h : Int) < 0 := by omega
  have s1 : ¬ (h : Int) ≥ (n : Int) := by omega
  obtain ⟨B, HB⟩ : ∃ B, Hid (B = w.heap.size) := ⟨_, rfl⟩
  have hBw : w.heap.size ≤ B := by rw [HB.out]; exact Nat.le_refl _
  rw [← HB.out] at CL ⊢
  clear ht hx0 hx hN h0 hlt
  go_enter Try.func13, Try.ntmps13
  go_wp2_with (first
    | (go_at_call 41; refine TR.out.mono ?_; rintro e w1 ⟨rfl, rfl⟩)
    | (go_at_call 42; refine CL.out.mono ?_; rintro e w1 ⟨v1, rfl, hO1, hk1⟩; obtain ⟨g1, cap1, f1, rfl, hbg1, hnc1, _, _⟩ := own_row hO1 (by omega); have hbx := box5 w1 (.slice (some ⟨g1, 0, none⟩) n cap1) 69; have hkb : Kept w1 (w1.alloc (.cells #[.pointer none, .slice (some ⟨g1, 0, none⟩) n cap1, .slice none 0 0, .slice none 0 0, .int .i64 0] 69)) := (Kept.refl w1).alloc _)
    | (go_at_call 43; refine (WT.out _ (hk1.trans hkb)).mono ?_; rintro e w3 ⟨v2, rfl, hW3, hk3⟩; obtain ⟨g2, cap2, f2, rfl, hn2, hr2, hf2⟩ := hW3))
  have hH0 : HalfAt w3 B w1.heap.size n 0 on F (.pointer none) (.slice (some ⟨g1, 0, none⟩) n cap1) (.slice none 0 0) (.slice (some ⟨g2, 0, none⟩) n cap2) := ⟨hk3.row hbx, ⟨rfl, .inl ⟨rfl, rfl⟩⟩, own_kept (own_kept hO1 hkb) hk3, ⟨g2, cap2, f2, rfl, hn2, hr2, hf2⟩⟩
  have hpB : B ≤ w1.heap.size := by rw [HB.out]; exact hk1.size
  have hK0 : Kept w w3 := (hk1.trans hkb).trans hk3
  obtain ⟨p, HP⟩ : ∃ p, Hid (p = w1.heap.size) := ⟨_, rfl⟩
  obtain ⟨vo, HVO⟩ : ∃ vo : Value, Hid (vo = .slice (some ⟨g1, 0, none⟩) n cap1) := ⟨_, rfl⟩
  rw [← HP.out] at hH0 hpB ⊢
  rw [← HVO.out] at hH0
  clear hbx hO1 hk1 hkb hk3 hr2 hf2
  go_loopg [30] n (fun g s30 wr => ∃ (k : Nat) (vs : Value), k ≤ n ∧ g = n - k ∧ s30 = .int .i64 k ∧ Kept w wr ∧ HalfAt wr B p n k on F (.pointer none) vo vs (.slice (some ⟨g2, 0, none⟩) n cap2))
  case atStart => exact ⟨0, _, Nat.zero_le _, rfl, rfl, hK0, hH0⟩
  case round =>
    clear hH0 hK0
    obtain ⟨k, vs, hk, rfl, rfl, hK, hH⟩ := hrel
    by_cases hlt : k < n
    · have s2 : (k : Int) < (n : Int) := by omega
      have s3 : (0 : Int) ≤ (k : Int) := by omega
      obtain ⟨vb, vcap, rfl⟩ := own_shape hH.own
      obtain ⟨g3, cap3, f3, he3, hn3, hr3, hf3⟩ := hH.ways
      obtain ⟨rfl, rfl⟩ : g2 = g3 ∧ cap2 = cap3 := by simpa using he3
      have t0 := hr3.cell (show k < cap2 by omega)
      rw [hf3 k hlt] at t0
      have t1 : wr.cell? ⟨p, 2, none⟩ = some (.slice vb k vcap) := hH.box.cell (show 2 < 5 by omega)
      have hpw : p < wr.heap.size := hH.box.lt
      obtain ⟨y, HY⟩ : ∃ y, Hid (y = F k) := ⟨_, rfl⟩
      rw [← HY.out] at t0
      have hKa : Kept wr (wr.alloc (.cells #[.int .i64 (y : Int), .slice none 0 0, .bool false, .bool false] 75)) := (Kept.refl wr).alloc _
      have hHa := hH.kept hKa
      have hOa := hHa.own
      have hKw := hK.trans hKa
      have hBs : B ≤ wr.heap.size := by omega
      have HHA := Lib.hid hHa
      have HKW := Lib.hid hKw
      clear he3 hr3 hf3 hH hK hKa hHa hKw
      go_wp2_with (first
        | (at_builtin; refine wpList_append_where _ rfl _ _ 66 rfl B 75 i0 (.agg #[.int .i64 0, .slice none 0 0, .bool false, .bool false]) 4 40 Try.underlying66 hi0 hz0 hz1 hz2 rfl (by decide) _ _ _ rfl hOa ⟨_, 0, none⟩ 1 1 [.int .i64 (y : Int), .slice none 0 0, .bool false, .bool false] rfl rfl (World.news_of_block (cs := #[.int .i64 (y : Int), .slice none 0 0, .bool false, .bool false]) (t := 75) (fr := (0, 0)) (heap_alloc_new wr _)) ?c2 ?c3 ?c4 ?c5 ?c6 ?_))
      case c2 => intro u hu; simp at hu; rcases hu with rfl | rfl | rfl <;> rfl
      case c3 => omega
      case c4 => unfold maxLen; omega
      case c5 => omega
      case c6 => rw [World.size_alloc]; omega
      intro v' w2 hO3 hgr _
      obtain ⟨va, vc, rfl⟩ := own_shape hO3
      have hO4 : w2.ownsRow B 75 4 (.slice va (k + 1) vc) (k + 1) (stL F (k + 1)) := by
        simp only [stL, natV]; rw [← HY.out]; exact hO3
      obtain ⟨hH2, d2, f2⟩ := HHA.out.grow hgr hO4
      have hK2 : Kept w (w2.setCell ⟨p, 2, none⟩ (.slice va (k + 1) vc)) := (HKW.out.grew hgr hOa hBw).setCell (p := ⟨p, 2, none⟩) (by show w.heap.size ≤ p; omega) _
      have HH2 := Lib.hid hH2
      have HK2 := Lib.hid hK2
      clear hO3 hO4 hgr hOa hH2 hK2 HHA HKW t0 t1
      go_wp2_with fail
      go_roundg (n - (k + 1))
      case measure => omega
      case rel => exact ⟨k + 1, _, by omega, rfl, by first | rfl | go_num, HK2.out, HH2.out⟩
    · obtain rfl : k = n := by omega
      have s2 : ¬ (k : Int) < (k : Int) := by omega
      rw [HF.out] at hH
      obtain ⟨q, hA⟩ := hH.done hn1 hpB
      have d0 : wr.cell? ⟨p, 0, none⟩ = some (.pointer none) := hH.box.cell (show 0 < 5 by omega)
      have f0 := hH.box.frozen 0
      have hK2 : Kept w (wr.setCell ⟨p, 0, none⟩ (.pointer (some ⟨p, 0, none⟩))) := hK.setCell (p := ⟨p, 0, none⟩) (by show w.heap.size ≤ p; omega) _
      have hfin : Hid (NewPost w B k on h (.returned (.tuple #[ptr p, .int .i64 0])) (wr.setCell ⟨p, 0, none⟩ (.pointer (some ⟨p, 0, none⟩)))) := Lib.hid ⟨p, q, rfl, by rw [nblk_setCell]; exact hA, hK2⟩
      clear hH hA hK2 hK
      go_wp2_with fail
      go_ret2
      exact hfin.out
end Go.Proofs.Ytjjeoloifggdpaa
