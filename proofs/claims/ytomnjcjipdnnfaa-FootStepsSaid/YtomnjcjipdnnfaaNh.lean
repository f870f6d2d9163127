/-
  The reference's numbers of any size: Sub and Cmp.
-/
import Derived.Test.YtomnjcjipdnnfaaNa
namespace Go.Proofs.Ytomnjcjipdnnfaa
open Go.RowKit Go.Deep

set_option maxRecDepth 100000 in
set_option maxHeartbeats 8000000 in
theorem Sub_any (w : World) (u v : Value) (x y : Int) (hX : ZAt w u x) (hY : ZAt w v y) (hB : Big (x - y)) :
    Calls Try.prog 88 #[u, v] w (ZPost w (x - y)) := by
  have HX := Lib.hid hX
  have HY := Lib.hid hY
  have HB : Hid (Big (x + -y)) := by show Big _; rw [← Int.sub_eq_add_neg]; exact hB
  obtain ⟨m, a, l, cap, rfl⟩ := hX.shape
  obtain ⟨m2, a2, l2, cap2, rfl⟩ := hY.shape
  rw [Int.sub_eq_add_neg]
  clear hX hY hB
  go_enter Try.func88, Try.ntmps88
  go_wp2_with fail
  have hA0 := box_row w (.bool m) (.slice a l cap) 60 w.heap.size rfl
  have hA1 := box_row (w.alloc (.cells #[.bool m, .slice a l cap] 60)) (.bool m2) (.slice a2 l2 cap2) 60 (w.heap.size + 1) (by simp)
  have hA2 := box_row ((w.alloc (.cells #[.bool m, .slice a l cap] 60)).alloc (.cells #[.bool m2, .slice a2 l2 cap2] 60)) (.bool false) (.slice none 0 0) 60 (w.heap.size + 1 + 1) (by simp)
  have hB0 := (((Kept.refl _).alloc (.cells #[.bool m2, .slice a2 l2 cap2] 60)).alloc (.cells #[.bool false, .slice none 0 0] 60)).row hA0
  have hB1 := ((Kept.refl _).alloc (.cells #[.bool false, .slice none 0 0] 60)).row hA1
  have hKwW : Kept w (((w.alloc (.cells #[.bool m, .slice a l cap] 60)).alloc (.cells #[.bool m2, .slice a2 l2 cap2] 60)).alloc (.cells #[.bool false, .slice none 0 0] 60)) := (((Kept.refl w).alloc _).alloc _).alloc _
  generalize (((w.alloc (.cells #[.bool m, .slice a l cap] 60)).alloc (.cells #[.bool m2, .slice a2 l2 cap2] 60)).alloc (.cells #[.bool false, .slice none 0 0] 60)) = W at *
  obtain ⟨r0, HR0⟩ : ∃ r0, Hid (r0 = w.heap.size + 1 + 1) := ⟨_, rfl⟩
  obtain ⟨z1, HZZ1⟩ : ∃ z1, Hid (z1 = w.heap.size + 1) := ⟨_, rfl⟩
  obtain ⟨z0, HZZ0⟩ : ∃ z0, Hid (z0 = w.heap.size) := ⟨_, rfl⟩
  rw [← HR0.out] at hA2 ⊢
  rw [← HZZ1.out] at hB1 ⊢
  rw [← HZZ0.out] at hB0 ⊢
  have hrw : w.heap.size ≤ r0 := by rw [HR0.out]; omega
  have hzr : z0 ≠ r0 := by rw [HR0.out, HZZ0.out]; omega
  have hyr : z1 ≠ r0 := by rw [HR0.out, HZZ1.out]; omega
  have HRr := Lib.hid hA2
  have HZ0 := Lib.hid hB0
  have HZ1 := Lib.hid hB1
  obtain ⟨k0, k1, _, _⟩ := bx_cells hB0
  obtain ⟨l0, l1, _, _⟩ := bx_cells hB1
  clear hA0 hA1 hA2 hB0 hB1
  try go_wp2_with fail
  refine wp_region_held_drew (S := (fun w' => w'.cell? ⟨z0, 0, none⟩ = some (.bool m) ∧ w'.cell? ⟨z0, 1, none⟩ = some (.slice a l cap) ∧ w'.cell? ⟨z1, 0, none⟩ = some (.bool m2) ∧ w'.cell? ⟨z1, 1, none⟩ = some (.slice a2 l2 cap2) ∧ Kept w w')) (by kernel_rfl) ?_ (fun hHeld => ?_)
  · (try dsimp only)
    exact ⟨Kept.cellSome (w := W) (by repeat (first | assumption | exact Kept.refl _ | apply Kept.drew | apply Kept.drewN | apply Kept.alloc | refine Kept.trans ?_ (by assumption))) k0, Kept.cellSome (w := W) (by repeat (first | assumption | exact Kept.refl _ | apply Kept.drew | apply Kept.drewN | apply Kept.alloc | refine Kept.trans ?_ (by assumption))) k1, Kept.cellSome (w := W) (by repeat (first | assumption | exact Kept.refl _ | apply Kept.drew | apply Kept.drewN | apply Kept.alloc | refine Kept.trans ?_ (by assumption))) l0, Kept.cellSome (w := W) (by repeat (first | assumption | exact Kept.refl _ | apply Kept.drew | apply Kept.drewN | apply Kept.alloc | refine Kept.trans ?_ (by assumption))) l1, hKwW.trans (by repeat (first | assumption | exact Kept.refl _ | apply Kept.drew | apply Kept.drewN | apply Kept.alloc | refine Kept.trans ?_ (by assumption)))⟩
  refine wpAnyH_take (i := 0) (oi := { dst := some 5, op := Go.Op.load 60 (Go.Operand.tmp 2), type := 60, pos := "big.go:107", after := #[], guard := none }) (v := ?v22) rfl (by kernel_rfl) (by kernel_rfl) (by kernel_rfl) (fun _ _ _ h => h) (Or.inl ⟨by rfl, ?hy22⟩) (by assumption) ?rs22
  case hy22 =>
    intro w hSw
    (try dsimp only at hSw)
    go_simp
    try with_reducible rfl
  (try simp only [Act.put, List.setIfInBounds_toArray, List.set_cons_zero, List.set_cons_succ])
  refine wpAnyH_take (i := 1) (oi := { dst := some 6, op := Go.Op.load 60 (Go.Operand.tmp 3), type := 60, pos := "big.go:107", after := #[], guard := none }) (v := ?v23) rfl (by kernel_rfl) (by kernel_rfl) (by kernel_rfl) (fun _ _ _ h => h) (Or.inl ⟨by rfl, ?hy23⟩) (by assumption) ?rs23
  case hy23 =>
    intro w hSw
    (try dsimp only at hSw)
    go_simp
    try with_reducible rfl
  (try simp only [Act.put, List.setIfInBounds_toArray, List.set_cons_zero, List.set_cons_succ])
  refine wpAnyH_ready (rs := [2]) (by kernel_rfl) (by simp) ?_
  refine AllReadyH.cons (o := { dst := some 7, op := Go.Op.call { callee := Go.Callee.value (Go.Operand.func 94), args := #[Go.Operand.tmp 6], argTypes := #[60] }, type := 60, pos := "big.go:107", after := #[{ on := 1, ground := Go.Ground.data }], guard := none }) rfl (fun K2 hK2 => ?_) AllReadyH.nil
  go_simp
  (go_at_call 94; refine (Neg_any _ _ y (HY.out.kept (hKwW.trans (by repeat (first | assumption | exact Kept.refl _ | apply Kept.drew | apply Kept.drewN | apply Kept.alloc | refine Kept.trans ?_ (by assumption)))))).mono ?_; rintro e w5 ⟨v5, rfl, hz5, hk5⟩; obtain ⟨mq, aq, nq, cq, rfl⟩ := hz5.shape)
  go_wp2_with fail
  refine hK2.out _ _ ?_ (fun hHeld => ?_)
  · (try dsimp only)
    exact ⟨Kept.cellSome (w := W) (by repeat (first | assumption | exact Kept.refl _ | apply Kept.drew | apply Kept.drewN | apply Kept.alloc | refine Kept.trans ?_ (by assumption))) k0, Kept.cellSome (w := W) (by repeat (first | assumption | exact Kept.refl _ | apply Kept.drew | apply Kept.drewN | apply Kept.alloc | refine Kept.trans ?_ (by assumption))) k1, Kept.cellSome (w := W) (by repeat (first | assumption | exact Kept.refl _ | apply Kept.drew | apply Kept.drewN | apply Kept.alloc | refine Kept.trans ?_ (by assumption))) l0, Kept.cellSome (w := W) (by repeat (first | assumption | exact Kept.refl _ | apply Kept.drew | apply Kept.drewN | apply Kept.alloc | refine Kept.trans ?_ (by assumption))) l1, hKwW.trans (by repeat (first | assumption | exact Kept.refl _ | apply Kept.drew | apply Kept.drewN | apply Kept.alloc | refine Kept.trans ?_ (by assumption)))⟩
  clear hK2 K2
  (try simp only [Act.put, List.setIfInBounds_toArray, List.set_cons_zero, List.set_cons_succ])
  refine wpAnyH_ready (rs := [3]) (by kernel_rfl) (by simp) ?_
  refine AllReadyH.cons (o := { dst := some 8, op := Go.Op.call { callee := Go.Callee.value (Go.Operand.func 63), args := #[Go.Operand.tmp 5, Go.Operand.tmp 7], argTypes := #[60, 60] }, type := 60, pos := "big.go:107", after := #[{ on := 0, ground := Go.Ground.data }, { on := 2, ground := Go.Ground.data }, { on := 2, ground := Go.Ground.chain }], guard := none }) rfl (fun K2 hK2 => ?_) AllReadyH.nil
  go_simp
  (go_at_call 63; refine (Add_any _ _ _ x (-y) (HX.out.kept (hKwW.trans (by repeat (first | assumption | exact Kept.refl _ | apply Kept.drew | apply Kept.drewN | apply Kept.alloc | refine Kept.trans ?_ (by assumption))))) (hz5.kept (by repeat (first | assumption | exact Kept.refl _ | apply Kept.drew | apply Kept.drewN | apply Kept.alloc | refine Kept.trans ?_ (by assumption)))) HB.out).mono ?_; rintro e w6 ⟨v6, rfl, hz6, hk6⟩; obtain ⟨mr, ar, nr, cr, rfl⟩ := hz6.shape)
  go_wp2_with fail
  refine hK2.out _ _ ?_ (fun hHeld => ?_)
  · (try dsimp only)
    exact ⟨Kept.cellSome (w := W) (by repeat (first | assumption | exact Kept.refl _ | apply Kept.drew | apply Kept.drewN | apply Kept.alloc | refine Kept.trans ?_ (by assumption))) k0, Kept.cellSome (w := W) (by repeat (first | assumption | exact Kept.refl _ | apply Kept.drew | apply Kept.drewN | apply Kept.alloc | refine Kept.trans ?_ (by assumption))) k1, Kept.cellSome (w := W) (by repeat (first | assumption | exact Kept.refl _ | apply Kept.drew | apply Kept.drewN | apply Kept.alloc | refine Kept.trans ?_ (by assumption))) l0, Kept.cellSome (w := W) (by repeat (first | assumption | exact Kept.refl _ | apply Kept.drew | apply Kept.drewN | apply Kept.alloc | refine Kept.trans ?_ (by assumption))) l1, hKwW.trans (by repeat (first | assumption | exact Kept.refl _ | apply Kept.drew | apply Kept.drewN | apply Kept.alloc | refine Kept.trans ?_ (by assumption)))⟩
  clear hK2 K2
  (try simp only [Act.put, List.setIfInBounds_toArray, List.set_cons_zero, List.set_cons_succ])
  have hKW6 : Kept W w6 := (by repeat (first | assumption | exact Kept.refl _ | apply Kept.drew | apply Kept.drewN | apply Kept.alloc | refine Kept.trans ?_ (by assumption)))
  have hR6 := hKW6.row HRr.out
  have hZ6 := hKW6.row HZ0.out
  have hY6 := hKW6.row HZ1.out
  obtain ⟨f0, f1, f2, f3⟩ := bx_cells hR6
  have hRF := bx_set1 (bx_set0 hR6 (.bool mr)) (.slice ar nr cr)
  have hZF := (hZ6.setOther (a := ⟨r0, 0, none⟩) hzr (.bool mr)).setOther (a := ⟨r0, 1, none⟩) hzr (.slice ar nr cr)
  have hYF := (hY6.setOther (a := ⟨r0, 0, none⟩) hyr (.bool mr)).setOther (a := ⟨r0, 1, none⟩) hyr (.slice ar nr cr)
  have hKF : Kept w ((w6.setCell ⟨r0, 0, none⟩ (.bool mr)).setCell ⟨r0, 1, none⟩ (.slice ar nr cr)) := ((hKwW.trans hKW6).setCell hrw _).setCell hrw _
  have hX : KeptX (fun k => k = r0) w6 ((w6.setCell ⟨r0, 0, none⟩ (.bool mr)).setCell ⟨r0, 1, none⟩ (.slice ar nr cr)) := ((KeptX.refl (fun k => k = r0) w6).setIn 0 _).setIn 1 _
  have hz7 := hz6.keptBox hX hR6
  have HZ7 := Lib.hid hz7
  obtain ⟨g0, g1, _, _⟩ := bx_cells hRF
  obtain ⟨q0, q1, _, _⟩ := bx_cells hZF
  obtain ⟨q2, q3, _, _⟩ := bx_cells hYF
  clear hR6 hZ6 hY6 hRF hZF hYF hX hz6 hz7 hz5
  refine wpAnyH_ready (rs := [4]) (by kernel_rfl) (by simp) ?_
  refine AllReadyH.cons (o := { dst := none, op := Go.Op.store 60 (Go.Operand.tmp 4) (Go.Operand.tmp 8), type := 0, pos := "big.go:107", after := #[{ on := 3, ground := Go.Ground.data }, { on := 3, ground := Go.Ground.chain }, { on := 0, ground := Go.Ground.phase }, { on := 1, ground := Go.Ground.phase }, { on := 2, ground := Go.Ground.phase }, { on := 3, ground := Go.Ground.phase }], guard := none }) rfl (fun K2 hK2 => ?_) AllReadyH.nil
  go_simp
  refine hK2.out _ _ ?_ (fun hHeld => ?_)
  · (try dsimp only)
    exact ⟨q0, q1, q2, q3, hKF⟩
  generalize ((w6.setCell ⟨r0, 0, none⟩ (.bool mr)).setCell ⟨r0, 1, none⟩ (.slice ar nr cr)) = WF at *
  clear hK2 K2
  (try simp only [Act.put, List.setIfInBounds_toArray, List.set_cons_zero, List.set_cons_succ])
  refine wpAnyH_done (by kernel_rfl) ?_ _
  go_wp2_with fail
  exact bodyPost_ret (v := .agg #[.bool mr, .slice ar nr cr]) (by simp [results, Try.results88, go_sem, g0, g1]) rfl ⟨_, rfl, HZ7.out, hKF⟩
theorem signI_cmp (x y : Int) : signI (x - y) = cmpI x y := by
  unfold signI cmpI
  by_cases h : x < y
  · rw [if_pos (by omega), if_pos h]
  · rw [if_neg (by omega), if_neg h]
    by_cases h2 : y < x
    · rw [if_pos (by omega), if_pos h2]
    · rw [if_neg (by omega), if_neg h2]
set_option maxRecDepth 100000 in
set_option maxHeartbeats 4000000 in
theorem Cmp_any (w : World) (u v : Value) (x y : Int) (hX : ZAt w u x) (hY : ZAt w v y) (hB : Big (x - y)) :
    Calls Try.prog 90 #[u, v] w fun e w' => e = .returned (.int .i64 (cmpI x y)) ∧ Kept w w' := by
  rw [← signI_cmp]
  have HX := Lib.hid hX
  have HY := Lib.hid hY
  have HB := Lib.hid hB
  obtain ⟨m, a, l, cap, rfl⟩ := hX.shape
  obtain ⟨m2, a2, l2, cap2, rfl⟩ := hY.shape
  have hkw : Kept w ((w.alloc (.cells #[.bool m, .slice a l cap] 60)).alloc (.cells #[.bool m2, .slice a2 l2 cap2] 60)) := ((Kept.refl w).alloc _).alloc _
  clear hX hY hB
  go_enter Try.func90, Try.ntmps90
  go_wp2_with fail
  refine (Sub_any _ _ _ x y (HX.out.kept hkw) (HY.out.kept hkw) HB.out).mono ?_
  rintro e w3 ⟨v3, rfl, hz3, hk3⟩
  go_wp2_with fail
  refine (Sign_any _ _ _ hz3).mono ?_
  rintro e w4 ⟨rfl, hk4⟩
  go_wp2_with fail
  go_ret
  exact ⟨rfl, (hkw.trans hk3).trans hk4⟩
end Go.Proofs.Ytomnjcjipdnnfaa
