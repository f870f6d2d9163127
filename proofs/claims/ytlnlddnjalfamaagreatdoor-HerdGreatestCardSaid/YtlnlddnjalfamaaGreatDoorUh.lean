/-
  The reference's Num and Is, of fractions from 0 on; Over, Make.
-/
import Derived.Test.YtlnlddnjalfamaaGreatDoorUe
import Derived.Test.YtlnlddnjalfamaaGreatDoorUo
import Derived.Test.YtlnlddnjalfamaaGreatDoorHn
namespace Go.Proofs.YtlnlddnjalfamaaGreatDoor.Num
open Go.RowKit Go.Deep

theorem toList_inj {a b : ByteArray} (h : a.toList = b.toList) : a = b := by
  rw [ByteArray.toList_eq, ByteArray.toList_eq] at h
  obtain ⟨⟨x⟩⟩ := a
  obtain ⟨⟨y⟩⟩ := b
  simp at h
  rw [h]
theorem beq_no {a b : ByteArray} (h : ¬ a = b) : (a.toList == b.toList) = false := by
  cases e : (a.toList == b.toList)
  · rfl
  · exact absurd (toList_inj (by simpa using e)) h
theorem fig_any (w : World) (v : Value) (x : Int) (hZ : ZAt w v x) (hx : 0 < x) : Calls Tryz.prog 93 #[v] w (FigPost w x) := by
  obtain ⟨m, a, l, c, rfl⟩ := hZ.shape
  obtain ⟨rfl, n, D, hS, hL, hv, hn⟩ := hZ.pos (by omega)
  have h0 : 0 < n := by
    rcases Nat.eq_zero_or_pos n with h | h
    · subst h; simp [valZ] at hv; omega
    · exact h
  have := figures_pos w _ n D false hS hL hn h0
  rwa [hv] at this
set_option maxRecDepth 100000 in
set_option maxHeartbeats 4000000 in
theorem fig_zero (w : World) (v : Value) (hZ : ZAt w v 0) : Calls Tryz.prog 93 #[v] w fun e w' => e = .returned (.string (strL [48])) ∧ Kept w w' := by
  obtain ⟨m, a, l, c, rfl⟩ := hZ.shape
  obtain rfl := hZ.len.2 rfl
  clear hZ
  go_enter Tryz.func93, Tryz.ntmps93
  go_wp2_with fail
  go_ret
  exact ⟨rfl, (Kept.refl w).alloc _⟩
theorem dec_one : DecL [49] 1 := ⟨fun b hb => by simp at hb; subst hb; decide, by simp [decV], by simp, by simp⟩
set_option maxRecDepth 100000 in
set_option maxHeartbeats 8000000 in
theorem NumF_any (w : World) (v : Value) (x y : Int) (lx ly : List UInt8) (hX : QAt w v x y) (hg : (Int.gcd x y : Int) = 1) (hx0 : 0 ≤ x) (hx1 : x < 10 ^ 60) (hy0 : 0 < y) (hy1 : y < 10 ^ 60) (FX : ∀ W v, ZAt W v x → Calls Tryz.prog 93 #[v] W fun e w' => e = .returned (.string (strL lx)) ∧ Kept W w') (hly : DecL ly y) (hcx : lx.length ≤ 100) (hcy : ly.length ≤ 100) :
    Calls Tryz.prog 60 #[v] w fun e w' => e = .returned (.tuple #[.string (if y = 1 then strL lx else strL lx ++ (⟨#[47]⟩ ++ strL ly)), .bool true]) ∧ Kept w w' := by
  obtain ⟨TT, HTT⟩ : ∃ TT, Hid (TT = if y = 1 then strL lx else strL lx ++ (⟨#[47]⟩ ++ strL ly)) := ⟨_, rfl⟩
  rw [← HTT.out]
  have hbn : (10 : Int) ^ 60 * 10000 < bigN := by
    have h1 : (10000 : Int) ^ 20 ≤ bigN := pw_le (by omega)
    omega
  obtain ⟨m0, a0, l0, c0, m1, a1, l1, c1, rfl, _, _⟩ := hX.shape
  have hl := Lowest_any
  replace FX := Lib.hid FX
  have HX := Lib.hid hX
  have hb0 := box_row4 w (.bool m0) (.slice a0 l0 c0) (.bool m1) (.slice a1 l1 c1) 55 w.heap.size rfl
  have hk0 : Kept w (w.alloc (.cells #[.bool m0, .slice a0 l0 c0, .bool m1, .slice a1 l1 c1] 55)) := (Kept.refl w).alloc _
  clear hX hl
  go_enter Tryz.func60, Tryz.ntmps60
  go_wp2_with fail
  obtain ⟨z0, HZ0⟩ : ∃ z, Hid (z = w.heap.size) := ⟨_, rfl⟩
  rw [← HZ0.out] at hb0 ⊢
  have hzw : w.heap.size ≤ z0 := by rw [HZ0.out]; exact Nat.le_refl _
  generalize w.alloc (.cells #[.bool m0, .slice a0 l0 c0, .bool m1, .slice a1 l1 c1] 55) = W0 at *
  clear HZ0
  refine (Lowest_any _ _ x y (HX.out.kept hk0) (by omega) (by omega) (by omega) (by omega)).mono ?_
  rw [hg, Int.ediv_one, Int.ediv_one]
  rintro e w3 ⟨v3, rfl, hq3, hk3⟩
  obtain ⟨mm, a, l, c, mm2, a2, l2, c2, rfl, hn3, hd3⟩ := hq3.shape
  obtain ⟨rfl, _⟩ := hn3.pos (by omega)
  obtain ⟨rfl, _⟩ := hd3.pos (by omega)
  have hb3 := hk3.row hb0
  obtain ⟨f0, f1, f2, f3, f4, f5, f6, f7⟩ := bx4_cells hb3
  have hX3 : KeptX (fun k => k = z0) w3 ((((w3.setCell ⟨z0, 0, none⟩ (.bool false)).setCell ⟨z0, 1, none⟩ (.slice a l c)).setCell ⟨z0, 2, none⟩ (.bool false)).setCell ⟨z0, 3, none⟩ (.slice a2 l2 c2)) := ((((KeptX.refl (fun k => k = z0) w3).setIn 0 _).setIn 1 _).setIn 2 _).setIn 3 _
  have HN := Lib.hid (hn3.keptBoxN hX3 hb3 (bx4_noint _ _ _ _ _ _ _ _))
  have HD := Lib.hid (hd3.keptBoxN hX3 hb3 (bx4_noint _ _ _ _ _ _ _ _))
  have hKw : Kept w ((((w3.setCell ⟨z0, 0, none⟩ (.bool false)).setCell ⟨z0, 1, none⟩ (.slice a l c)).setCell ⟨z0, 2, none⟩ (.bool false)).setCell ⟨z0, 3, none⟩ (.slice a2 l2 c2)) := (((((hk0.trans hk3).setCell hzw _).setCell hzw _).setCell hzw _).setCell hzw _)
  obtain ⟨p0, p1, p2, p3, _⟩ := bx4_cells (bx4_set hb3 (.bool false) (.slice a l c) (.bool false) (.slice a2 l2 c2))
  clear hb3 hb0 hX3 hq3 hn3 hd3 hk0 hk3
  go_wp2_with fail
  generalize ((((w3.setCell ⟨z0, 0, none⟩ (.bool false)).setCell ⟨z0, 1, none⟩ (.slice a l c)).setCell ⟨z0, 2, none⟩ (.bool false)).setCell ⟨z0, 3, none⟩ (.slice a2 l2 c2)) = W at *
  clear f0 f1 f2 f3 f4 f5 f6 f7
  try go_wp2_with fail
  refine wp_region_held_drew (S := (fun w' => w'.cell? ⟨z0, 0, none⟩ = some (.bool false) ∧ w'.cell? ⟨z0, 1, none⟩ = some (.slice a l c) ∧ w'.cell? ⟨z0, 2, none⟩ = some (.bool false) ∧ w'.cell? ⟨z0, 3, none⟩ = some (.slice a2 l2 c2) ∧ Kept w w')) (by kernel_rfl) ?_ (fun hHeld => ?_)
  · (try dsimp only)
    exact ⟨Kept.cellSome (w := W) (by repeat (first | assumption | exact Kept.refl _ | apply Kept.drew | apply Kept.drewN | apply Kept.alloc | refine Kept.trans ?_ (by assumption))) p0, Kept.cellSome (w := W) (by repeat (first | assumption | exact Kept.refl _ | apply Kept.drew | apply Kept.drewN | apply Kept.alloc | refine Kept.trans ?_ (by assumption))) p1, Kept.cellSome (w := W) (by repeat (first | assumption | exact Kept.refl _ | apply Kept.drew | apply Kept.drewN | apply Kept.alloc | refine Kept.trans ?_ (by assumption))) p2, Kept.cellSome (w := W) (by repeat (first | assumption | exact Kept.refl _ | apply Kept.drew | apply Kept.drewN | apply Kept.alloc | refine Kept.trans ?_ (by assumption))) p3, hKw.trans (by repeat (first | assumption | exact Kept.refl _ | apply Kept.drew | apply Kept.drewN | apply Kept.alloc | refine Kept.trans ?_ (by assumption)))⟩
  refine wpAnyH_take (i := 0) (oi := { dst := some 8, op := Go.Op.fieldAddr 55 (Go.Operand.tmp 1) 0, type := 0, pos := "num.go:97", after := #[], guard := none }) (v := ?v22) rfl (by kernel_rfl) (by kernel_rfl) (by kernel_rfl) (fun _ _ _ h => h) (Or.inl ⟨by rfl, ?hy22⟩) (by assumption) ?rs22
  case hy22 =>
    intro w hSw
    (try dsimp only at hSw)
    go_simp
    try with_reducible rfl
  (try simp only [Act.put, List.setIfInBounds_toArray, List.set_cons_zero, List.set_cons_succ])
  refine wpAnyH_take (i := 1) (oi := { dst := some 9, op := Go.Op.load 53 (Go.Operand.tmp 8), type := 53, pos := "num.go:97", after := #[{ on := 0, ground := Go.Ground.data }], guard := none }) (v := ?v23) rfl (by kernel_rfl) (by kernel_rfl) (by kernel_rfl) (fun _ _ _ h => h) (Or.inl ⟨by rfl, ?hy23⟩) (by assumption) ?rs23
  case hy23 =>
    intro w hSw
    (try dsimp only at hSw)
    go_simp
    try with_reducible rfl
  (try simp only [Act.put, List.setIfInBounds_toArray, List.set_cons_zero, List.set_cons_succ])
  refine wpAnyH_take (i := 4) (oi := { dst := some 12, op := Go.Op.fieldAddr 55 (Go.Operand.tmp 1) 1, type := 0, pos := "num.go:97", after := #[], guard := none }) (v := ?v24) rfl (by kernel_rfl) (by kernel_rfl) (by kernel_rfl) (fun _ _ _ h => h) (Or.inl ⟨by rfl, ?hy24⟩) (by assumption) ?rs24
  case hy24 =>
    intro w hSw
    (try dsimp only at hSw)
    go_simp
    try with_reducible rfl
  (try simp only [Act.put, List.setIfInBounds_toArray, List.set_cons_zero, List.set_cons_succ])
  refine wpAnyH_take (i := 5) (oi := { dst := some 13, op := Go.Op.load 53 (Go.Operand.tmp 12), type := 53, pos := "num.go:97", after := #[{ on := 4, ground := Go.Ground.data }], guard := none }) (v := ?v25) rfl (by kernel_rfl) (by kernel_rfl) (by kernel_rfl) (fun _ _ _ h => h) (Or.inl ⟨by rfl, ?hy25⟩) (by assumption) ?rs25
  case hy25 =>
    intro w hSw
    (try dsimp only at hSw)
    go_simp
    try with_reducible rfl
  (try simp only [Act.put, List.setIfInBounds_toArray, List.set_cons_zero, List.set_cons_succ])
  refine wpAnyH_ready (rs := [2]) (by kernel_rfl) (by simp) ?_
  refine AllReadyH.cons (o := { dst := some 10, op := Go.Op.call { callee := Go.Callee.value (Go.Operand.func 94), args := #[Go.Operand.tmp 9], argTypes := #[53] }, type := 53, pos := "num.go:97", after := #[{ on := 1, ground := Go.Ground.data }], guard := none }) rfl (fun K2 hK2 => ?_) AllReadyH.nil
  go_simp
  (go_at_call 94; refine (Abs_any _ _ x x (HN.out.kept (by repeat (first | assumption | exact Kept.refl _ | apply Kept.drew | apply Kept.drewN | apply Kept.alloc | refine Kept.trans ?_ (by assumption)))) (by omega)).mono ?_; rintro e w5 ⟨v5, rfl, hz5, hk5⟩; obtain ⟨m5, a5, l5, c5, rfl⟩ := hz5.shape)
  go_wp2_with fail
  refine hK2.out _ _ ?_ (fun hHeld => ?_)
  · (try dsimp only)
    exact ⟨Kept.cellSome (w := W) (by repeat (first | assumption | exact Kept.refl _ | apply Kept.drew | apply Kept.drewN | apply Kept.alloc | refine Kept.trans ?_ (by assumption))) p0, Kept.cellSome (w := W) (by repeat (first | assumption | exact Kept.refl _ | apply Kept.drew | apply Kept.drewN | apply Kept.alloc | refine Kept.trans ?_ (by assumption))) p1, Kept.cellSome (w := W) (by repeat (first | assumption | exact Kept.refl _ | apply Kept.drew | apply Kept.drewN | apply Kept.alloc | refine Kept.trans ?_ (by assumption))) p2, Kept.cellSome (w := W) (by repeat (first | assumption | exact Kept.refl _ | apply Kept.drew | apply Kept.drewN | apply Kept.alloc | refine Kept.trans ?_ (by assumption))) p3, hKw.trans (by repeat (first | assumption | exact Kept.refl _ | apply Kept.drew | apply Kept.drewN | apply Kept.alloc | refine Kept.trans ?_ (by assumption)))⟩
  clear hK2 K2
  (try simp only [Act.put, List.setIfInBounds_toArray, List.set_cons_zero, List.set_cons_succ])
  refine wpAnyH_ready (rs := [3]) (by kernel_rfl) (by simp) ?_
  refine AllReadyH.cons (o := { dst := some 11, op := Go.Op.call { callee := Go.Callee.value (Go.Operand.func 93), args := #[Go.Operand.tmp 10], argTypes := #[53] }, type := 9, pos := "num.go:97", after := #[{ on := 2, ground := Go.Ground.data }, { on := 2, ground := Go.Ground.chain }], guard := none }) rfl (fun K2 hK2 => ?_) AllReadyH.nil
  go_simp
  (go_at_call 93; refine (FX.out _ _ (hz5.kept (by repeat (first | assumption | exact Kept.refl _ | apply Kept.drew | apply Kept.drewN | apply Kept.alloc | refine Kept.trans ?_ (by assumption))))).mono ?_; rintro e w6 ⟨rfl, hk6⟩)
  go_wp2_with fail
  refine hK2.out _ _ ?_ (fun hHeld => ?_)
  · (try dsimp only)
    exact ⟨Kept.cellSome (w := W) (by repeat (first | assumption | exact Kept.refl _ | apply Kept.drew | apply Kept.drewN | apply Kept.alloc | refine Kept.trans ?_ (by assumption))) p0, Kept.cellSome (w := W) (by repeat (first | assumption | exact Kept.refl _ | apply Kept.drew | apply Kept.drewN | apply Kept.alloc | refine Kept.trans ?_ (by assumption))) p1, Kept.cellSome (w := W) (by repeat (first | assumption | exact Kept.refl _ | apply Kept.drew | apply Kept.drewN | apply Kept.alloc | refine Kept.trans ?_ (by assumption))) p2, Kept.cellSome (w := W) (by repeat (first | assumption | exact Kept.refl _ | apply Kept.drew | apply Kept.drewN | apply Kept.alloc | refine Kept.trans ?_ (by assumption))) p3, hKw.trans (by repeat (first | assumption | exact Kept.refl _ | apply Kept.drew | apply Kept.drewN | apply Kept.alloc | refine Kept.trans ?_ (by assumption)))⟩
  clear hK2 K2
  (try simp only [Act.put, List.setIfInBounds_toArray, List.set_cons_zero, List.set_cons_succ])
  refine wpAnyH_ready (rs := [6]) (by kernel_rfl) (by simp) ?_
  refine AllReadyH.cons (o := { dst := some 14, op := Go.Op.call { callee := Go.Callee.value (Go.Operand.func 93), args := #[Go.Operand.tmp 13], argTypes := #[53] }, type := 9, pos := "num.go:97", after := #[{ on := 5, ground := Go.Ground.data }, { on := 3, ground := Go.Ground.chain }], guard := none }) rfl (fun K2 hK2 => ?_) AllReadyH.nil
  go_simp
  (go_at_call 93; refine (fig_any _ _ y (HD.out.kept (by repeat (first | assumption | exact Kept.refl _ | apply Kept.drew | apply Kept.drewN | apply Kept.alloc | refine Kept.trans ?_ (by assumption)))) (by omega)).mono ?_; rintro e w7 ⟨s7, rfl, hf7, hk7⟩)
  go_wp2_with fail
  refine hK2.out _ _ ?_ (fun hHeld => ?_)
  · (try dsimp only)
    exact ⟨Kept.cellSome (w := W) (by repeat (first | assumption | exact Kept.refl _ | apply Kept.drew | apply Kept.drewN | apply Kept.alloc | refine Kept.trans ?_ (by assumption))) p0, Kept.cellSome (w := W) (by repeat (first | assumption | exact Kept.refl _ | apply Kept.drew | apply Kept.drewN | apply Kept.alloc | refine Kept.trans ?_ (by assumption))) p1, Kept.cellSome (w := W) (by repeat (first | assumption | exact Kept.refl _ | apply Kept.drew | apply Kept.drewN | apply Kept.alloc | refine Kept.trans ?_ (by assumption))) p2, Kept.cellSome (w := W) (by repeat (first | assumption | exact Kept.refl _ | apply Kept.drew | apply Kept.drewN | apply Kept.alloc | refine Kept.trans ?_ (by assumption))) p3, hKw.trans (by repeat (first | assumption | exact Kept.refl _ | apply Kept.drew | apply Kept.drewN | apply Kept.alloc | refine Kept.trans ?_ (by assumption)))⟩
  clear hK2 K2
  (try simp only [Act.put, List.setIfInBounds_toArray, List.set_cons_zero, List.set_cons_succ])
  refine wpAnyH_take (i := 7) (oi := { dst := some 4, op := Go.Op.assign (Go.Operand.tmp 11), type := 9, pos := "num.go:97", after := #[{ on := 3, ground := Go.Ground.data }, { on := 6, ground := Go.Ground.chain }, { on := 0, ground := Go.Ground.phase }, { on := 1, ground := Go.Ground.phase }, { on := 2, ground := Go.Ground.phase }, { on := 3, ground := Go.Ground.phase }, { on := 4, ground := Go.Ground.textOnly Go.Departure.lateStores }, { on := 5, ground := Go.Ground.textOnly Go.Departure.lateStores }, { on := 6, ground := Go.Ground.textOnly Go.Departure.lateStoresUnsure }], guard := none }) (v := ?v26) rfl (by kernel_rfl) (by kernel_rfl) (by kernel_rfl) (fun _ _ _ h => h) (Or.inl ⟨by rfl, ?hy26⟩) (by assumption) ?rs26
  case hy26 =>
    intro w hSw
    (try dsimp only at hSw)
    go_simp
    try with_reducible rfl
  (try simp only [Act.put, List.setIfInBounds_toArray, List.set_cons_zero, List.set_cons_succ])
  refine wpAnyH_take (i := 8) (oi := { dst := some 5, op := Go.Op.assign (Go.Operand.tmp 14), type := 9, pos := "num.go:97", after := #[{ on := 6, ground := Go.Ground.data }, { on := 7, ground := Go.Ground.chain }, { on := 0, ground := Go.Ground.phase }, { on := 1, ground := Go.Ground.phase }, { on := 2, ground := Go.Ground.phase }, { on := 3, ground := Go.Ground.phase }, { on := 4, ground := Go.Ground.phase }, { on := 5, ground := Go.Ground.phase }, { on := 6, ground := Go.Ground.phase }, { on := 7, ground := Go.Ground.phase }], guard := none }) (v := ?v27) rfl (by kernel_rfl) (by kernel_rfl) (by kernel_rfl) (fun _ _ _ h => h) (Or.inl ⟨by rfl, ?hy27⟩) (by assumption) ?rs27
  case hy27 =>
    intro w hSw
    (try dsimp only at hSw)
    go_simp
    try with_reducible rfl
  (try simp only [Act.put, List.setIfInBounds_toArray, List.set_cons_zero, List.set_cons_succ])
  refine wpAnyH_done (by kernel_rfl) ?_ _
  have y0 := Kept.cellSome (w := W) (show Kept W w7 from (by repeat (first | assumption | exact Kept.refl _ | apply Kept.drew | apply Kept.drewN | apply Kept.alloc | refine Kept.trans ?_ (by assumption)))) p0
  have hKF : Kept w w7 := hKw.trans (by repeat (first | assumption | exact Kept.refl _ | apply Kept.drew | apply Kept.drewN | apply Kept.alloc | refine Kept.trans ?_ (by assumption)))
  obtain rfl := hf7.same hly
  have n6 : (strL lx).size = lx.length := strL_size lx
  have n7 : (strL s7).size = s7.length := strL_size s7
  have c6' : ¬ (4000 : Int) < (lx.length : Int) := by omega
  have c7' : ¬ (4000 : Int) < (s7.length : Int) := by omega
  by_cases hy : y = 1
  · subst hy
    have HT1 : Hid (TT = strL lx) := by show _ = _; rw [HTT.out, if_pos rfl]
    clear HTT
    have e7 : strL s7 = ⟨#[49]⟩ := by rw [hf7.same dec_one]; rfl
    have n8 : (⟨#[49]⟩ : ByteArray).size = 1 := rfl
    have c8' : ¬ (4000 : Int) < (1 : Int) := by omega
    rw [e7] at n7
    rw [e7]
    clear hf7 e7
    go_wp2_with fail
    go_ret2
    exact ⟨by rw [HT1.out]; rfl, hKF⟩
  · have hne : ((strL s7).toList == (⟨#[49]⟩ : ByteArray).toList) = false := by
      refine beq_no (fun e => hy ?_)
      have h2 : s7 = [49] := by
        have e2 : (strL s7).data.toList = [49] := by rw [e]
        simpa [strL] using e2
      rw [h2] at hf7
      have h3 := hf7.2.1
      have h4 := dec_one.2.1
      rw [h4] at h3
      exact h3.symm
    have e49 : (⟨#[49]⟩ : ByteArray).toList = [49] := by rw [ByteArray.toList_eq]
    have hne2 := hne
    rw [e49] at hne2
    clear e49
    have HT2 : Hid (TT = strL lx ++ (⟨#[47]⟩ ++ strL s7)) := by show _ = _; rw [HTT.out, if_neg hy]
    clear HTT
    have q1 : ¬ 9223372036854775807 < 1 + s7.length := by omega
    have q2 : ¬ 9223372036854775807 < lx.length + (1 + s7.length) := by omega
    clear hf7
    generalize strL s7 = S7 at *
    generalize strL lx = S6 at *
    go_wp2_with fail
    go_ret2
    exact ⟨by rw [HT2.out]; rfl, hKF⟩
set_option maxRecDepth 100000 in
set_option maxHeartbeats 4000000 in
theorem IsF_any (w : World) (v : Value) (x y : Int) (lx ly : List UInt8) (hX : QAt w v x y) (hg : (Int.gcd x y : Int) = 1) (hx0 : 0 ≤ x) (hx1 : x < 10 ^ 60) (hy0 : 0 < y) (hy1 : y < 10 ^ 60) (FX : ∀ W v, ZAt W v x → Calls Tryz.prog 93 #[v] W fun e w' => e = .returned (.string (strL lx)) ∧ Kept W w') (hly : DecL ly y) (hcx : lx.length ≤ 100) (hcy : ly.length ≤ 100) :
    Calls Tryz.prog 24 #[.string (if y = 1 then strL lx else strL lx ++ (⟨#[47]⟩ ++ strL ly)), v] w fun e w' => e = .returned (.bool true) ∧ Kept w w' := by
  have NF := Lib.hid (fun W h => NumF_any W v x y lx ly h hg hx0 hx1 hy0 hy1 FX hly hcx hcy)
  obtain ⟨m0, a0, l0, c0, m1, a1, l1, c1, rfl, _, _⟩ := hX.shape
  have HX := Lib.hid hX
  have hk0 : Kept w (w.alloc (.cells #[.bool m0, .slice a0 l0 c0, .bool m1, .slice a1 l1 c1] 55)) := (Kept.refl w).alloc _
  clear hX
  generalize (if y = 1 then strL lx else strL lx ++ (⟨#[47]⟩ ++ strL ly)) = T at *
  have hTT : (T.toList == T.toList) = true := by simp
  go_enter Tryz.func24, Tryz.ntmps24
  go_wp2_with fail
  refine (NF.out _ (HX.out.kept hk0)).mono ?_
  rintro e w3 ⟨rfl, hk3⟩
  go_wp2_with fail
  go_ret
  exact ⟨rfl, hk0.trans hk3⟩
theorem coprime_div {x y g : Int} (hx : 0 < x) (hy : 0 < y) (hg : g = (Int.gcd x y : Int)) : (Int.gcd (x / g) (y / g) : Int) = 1 := by
  obtain ⟨a, rfl⟩ : ∃ a : Nat, x = a := ⟨x.toNat, by omega⟩
  obtain ⟨b, rfl⟩ : ∃ b : Nat, y = b := ⟨y.toNat, by omega⟩
  rw [hg]
  show ((Int.gcd ((a : Int) / ((Nat.gcd a b : Nat) : Int)) ((b : Int) / ((Nat.gcd a b : Nat) : Int)) : Nat) : Int) = 1
  have h1 : (a : Int) / ((Nat.gcd a b : Nat) : Int) = ((a / Nat.gcd a b : Nat) : Int) := by simp
  have h2 : (b : Int) / ((Nat.gcd a b : Nat) : Int) = ((b / Nat.gcd a b : Nat) : Int) := by simp
  rw [h1, h2]
  show ((Nat.gcd (a / Nat.gcd a b) (b / Nat.gcd a b) : Nat) : Int) = 1
  have h3 : 0 < Nat.gcd a b := Nat.gcd_pos_of_pos_left _ (by omega)
  rw [Nat.gcd_div (Nat.gcd_dvd_left a b) (Nat.gcd_dvd_right a b), Nat.div_self h3]
  rfl
set_option maxRecDepth 100000 in
set_option maxHeartbeats 4000000 in
theorem Over_any (w : World) (u v : Value) (x y : Int) (hX : ZAt w u x) (hY : ZAt w v y) (hy : 0 < y) :
    Calls Tryz.prog 65 #[u, v] w (QPost w x y) := by
  obtain ⟨m, a, l, c, rfl⟩ := hX.shape
  obtain ⟨m2, a2, l2, c2, rfl⟩ := hY.shape
  obtain ⟨rfl, _⟩ := hY.pos (by omega)
  have HX := Lib.hid hX
  have HY := Lib.hid hY
  clear hX hY
  go_enter Tryz.func65, Tryz.ntmps65
  go_wp2_with fail
  exact bodyPost_ret (v := .agg #[.bool m, .slice a l c, .bool false, .slice a2 l2 c2]) (by simp [results, Tryz.results65, go_sem]) rfl ⟨_, rfl, ⟨m, _, false, _, rfl, HX.out.kept ((((Kept.refl w).alloc _).alloc _).alloc _), HY.out.kept ((((Kept.refl w).alloc _).alloc _).alloc _)⟩, (((Kept.refl w).alloc _).alloc _).alloc _⟩
set_option maxRecDepth 100000 in
set_option maxHeartbeats 4000000 in
theorem Make_ty (w : World) (x y : Nat) (hx : x ≤ 1000000000) (hy : y ≤ 1000000000) (hy0 : 0 < y) :
    Calls Tryz.prog 30 #[.int .i64 x, .int .i64 y] w (QPostT w ((x : Int) / (Int.gcd x y : Int)) ((y : Int) / (Int.gcd x y : Int))) := by
  have hA2 := box_row4 w (.bool false) (.slice none 0 0) (.bool false) (.slice none 0 0) 55 w.heap.size rfl
  have hKwW : Kept w (w.alloc (.cells #[.bool false, .slice none 0 0, .bool false, .slice none 0 0] 55)) := (Kept.refl w).alloc _
  have hbn : (10 : Int) ^ 60 * 10000 < bigN := by
    have h1 : (10000 : Int) ^ 20 ≤ bigN := pw_le (by omega)
    omega
  go_enter Tryz.func30, Tryz.ntmps30
  go_wp2_with fail
  generalize w.alloc (.cells #[.bool false, .slice none 0 0, .bool false, .slice none 0 0] 55) = W at *
  obtain ⟨r0, HR0⟩ : ∃ r0, Hid (r0 = w.heap.size) := ⟨_, rfl⟩
  rw [← HR0.out] at hA2 ⊢
  have hrw : w.heap.size ≤ r0 := by rw [HR0.out]; exact Nat.le_refl _
  have HRr := Lib.hid hA2
  clear hA2
  refine (Int_any _ (x : Int) (by omega) (by omega)).mono ?_
  rintro e w4 ⟨v4, rfl, hz4, hk4⟩
  obtain ⟨m4, a4, l4, c4, rfl⟩ := hz4.shape
  go_wp2_with fail
  refine (Int_any _ (y : Int) (by omega) (by omega)).mono ?_
  rintro e w5 ⟨v5, rfl, hz5, hk5⟩
  obtain ⟨m5, a5, l5, c5, rfl⟩ := hz5.shape
  have hz4' := hz4.kept hk5
  clear hz4
  go_wp2_with fail
  refine (Over_any _ _ _ (x : Int) (y : Int) hz4' hz5 (by omega)).mono ?_
  rintro e w6 ⟨v6, rfl, hq6, hk6⟩
  obtain ⟨n0, n1, n2, n3, n4, n5, n6, n7, rfl, _, _⟩ := hq6.shape
  go_wp2_with fail
  refine (Lowest_ty _ _ (x : Int) (y : Int) hq6 (by omega) (by omega) (by omega) (by omega)).mono ?_
  rintro e w7 ⟨v7, rfl, hq7, hqt7, hk7⟩
  obtain ⟨p0, p1, p2, p3, p4, p5, p6, p7, rfl, hn7, hd7⟩ := hq7.shape
  have hKW6 : Kept W w7 := ((hk4.trans hk5).trans hk6).trans hk7
  have hR6 := hKW6.row HRr.out
  obtain ⟨f0, f1, f2, f3, f4, f5, f6, f7⟩ := bx4_cells hR6
  have hRF := bx4_set hR6 (.bool p0) (.slice p1 p2 p3) (.bool p4) (.slice p5 p6 p7)
  have hKF : Kept w ((((w7.setCell ⟨r0, 0, none⟩ (.bool p0)).setCell ⟨r0, 1, none⟩ (.slice p1 p2 p3)).setCell ⟨r0, 2, none⟩ (.bool p4)).setCell ⟨r0, 3, none⟩ (.slice p5 p6 p7)) := ((((hKwW.trans hKW6).setCell hrw _).setCell hrw _).setCell hrw _).setCell hrw _
  have hX : KeptX (fun k => k = r0) w7 ((((w7.setCell ⟨r0, 0, none⟩ (.bool p0)).setCell ⟨r0, 1, none⟩ (.slice p1 p2 p3)).setCell ⟨r0, 2, none⟩ (.bool p4)).setCell ⟨r0, 3, none⟩ (.slice p5 p6 p7)) := ((((KeptX.refl (fun k => k = r0) w7).setIn 0 _).setIn 1 _).setIn 2 _).setIn 3 _
  obtain ⟨tm, ts, tm2, ts2, te, ht7, hu7⟩ := hqt7
  injection te with te
  injection te with te
  injection te with te1 te
  injection te with te2 te
  injection te with te3 te
  injection te with te4 te
  subst te2
  subst te4
  injection te1 with te1
  injection te3 with te3
  subst te1
  subst te3
  have HT7 := Lib.hid (ht7.keptX hX hR6 (by decide))
  have HU7 := Lib.hid (hu7.keptX hX hR6 (by decide))
  clear ht7 hu7 te
  have HN7 := Lib.hid (hn7.keptBoxN hX hR6 (bx4_noint _ _ _ _ _ _ _ _))
  have HD7 := Lib.hid (hd7.keptBoxN hX hR6 (bx4_noint _ _ _ _ _ _ _ _))
  obtain ⟨g0, g1, g2, g3, _⟩ := bx4_cells hRF
  clear hR6 hRF hX hz4' hz5 hq6 hq7 hn7 hd7
  go_wp2_with fail
  generalize ((((w7.setCell ⟨r0, 0, none⟩ (.bool p0)).setCell ⟨r0, 1, none⟩ (.slice p1 p2 p3)).setCell ⟨r0, 2, none⟩ (.bool p4)).setCell ⟨r0, 3, none⟩ (.slice p5 p6 p7)) = WF at *
  exact bodyPost_ret (v := .agg #[.bool p0, .slice p1 p2 p3, .bool p4, .slice p5 p6 p7]) (by simp [results, Tryz.results30, go_sem, g0, g1, g2, g3]) rfl ⟨_, rfl, ⟨p0, _, p4, _, rfl, HN7.out, HD7.out⟩, ⟨p0, _, p4, _, rfl, HT7.out, HU7.out⟩, hKF⟩
set_option maxRecDepth 100000 in
set_option maxHeartbeats 4000000 in
theorem Whole_ty (w : World) (x : Int) (h1 : -9223372036854775808 ≤ x) (h2 : x ≤ 9223372036854775807) :
    Calls Tryz.prog 29 #[.int .i64 x] w (QPostT w x 1) := by
  have hA2 := box_row4 w (.bool false) (.slice none 0 0) (.bool false) (.slice none 0 0) 55 w.heap.size rfl
  have hKwW : Kept w (w.alloc (.cells #[.bool false, .slice none 0 0, .bool false, .slice none 0 0] 55)) := (Kept.refl w).alloc _
  go_enter Tryz.func29, Tryz.ntmps29
  go_wp2_with fail
  generalize w.alloc (.cells #[.bool false, .slice none 0 0, .bool false, .slice none 0 0] 55) = W at *
  obtain ⟨r0, HR0⟩ : ∃ r0, Hid (r0 = w.heap.size) := ⟨_, rfl⟩
  rw [← HR0.out] at hA2 ⊢
  have hrw : w.heap.size ≤ r0 := by rw [HR0.out]; exact Nat.le_refl _
  have HRr := Lib.hid hA2
  clear hA2
  refine (Int_ty _ x h1 h2).mono ?_
  rintro e w4 ⟨v4, rfl, hz4, ht4, hk4⟩
  obtain ⟨m4, a4, l4, c4, rfl⟩ := hz4.shape
  go_wp2_with fail
  refine (Int_ty _ 1 (by decide) (by decide)).mono ?_
  rintro e w7 ⟨v7, rfl, hz7, ht7, hk7⟩
  obtain ⟨m7, a7, l7, c7, rfl⟩ := hz7.shape
  have hKW6 : Kept W w7 := hk4.trans hk7
  have hR6 := hKW6.row HRr.out
  obtain ⟨f0, f1, f2, f3, f4, f5, f6, f7⟩ := bx4_cells hR6
  have hRF := bx4_set hR6 (.bool m4) (.slice a4 l4 c4) (.bool m7) (.slice a7 l7 c7)
  have hKF : Kept w ((((w7.setCell ⟨r0, 0, none⟩ (.bool m4)).setCell ⟨r0, 1, none⟩ (.slice a4 l4 c4)).setCell ⟨r0, 2, none⟩ (.bool m7)).setCell ⟨r0, 3, none⟩ (.slice a7 l7 c7)) := ((((hKwW.trans hKW6).setCell hrw _).setCell hrw _).setCell hrw _).setCell hrw _
  have hX : KeptX (fun k => k = r0) w7 ((((w7.setCell ⟨r0, 0, none⟩ (.bool m4)).setCell ⟨r0, 1, none⟩ (.slice a4 l4 c4)).setCell ⟨r0, 2, none⟩ (.bool m7)).setCell ⟨r0, 3, none⟩ (.slice a7 l7 c7)) := ((((KeptX.refl (fun k => k = r0) w7).setIn 0 _).setIn 1 _).setIn 2 _).setIn 3 _
  have HT7 := Lib.hid ((ht4.kept hk7).keptX hX hR6 (by decide))
  have HU7 := Lib.hid (ht7.keptX hX hR6 (by decide))
  clear ht4 ht7
  have HN7 := Lib.hid ((hz4.kept hk7).keptBoxN hX hR6 (bx4_noint _ _ _ _ _ _ _ _))
  have HD7 := Lib.hid (hz7.keptBoxN hX hR6 (bx4_noint _ _ _ _ _ _ _ _))
  obtain ⟨g0, g1, g2, g3, _⟩ := bx4_cells hRF
  clear hR6 hRF hX hz4 hz7
  go_wp2_with fail
  generalize ((((w7.setCell ⟨r0, 0, none⟩ (.bool m4)).setCell ⟨r0, 1, none⟩ (.slice a4 l4 c4)).setCell ⟨r0, 2, none⟩ (.bool m7)).setCell ⟨r0, 3, none⟩ (.slice a7 l7 c7)) = WF at *
  exact bodyPost_ret (v := .agg #[.bool m4, .slice a4 l4 c4, .bool m7, .slice a7 l7 c7]) (by simp [results, Tryz.results29, go_sem, g0, g1, g2, g3]) rfl ⟨_, rfl, ⟨m4, _, m7, _, rfl, HN7.out, HD7.out⟩, ⟨m4, _, m7, _, rfl, HT7.out, HU7.out⟩, hKF⟩
end Go.Proofs.YtlnlddnjalfamaaGreatDoor.Num
