/-
  The reference's fractions: AddQ, SubQ, CmpQ.
-/
import Derived.Test.YtomnjcjipdnnfaaNq
namespace Go.Proofs.Ytomnjcjipdnnfaa
open Go.RowKit Go.Deep

set_option maxRecDepth 100000 in
set_option maxHeartbeats 16000000 in
theorem SubQ_any (w : World) (u v : Value) (xn xd yn yd : Int) (hX : QAt w u xn xd) (hY : QAt w v yn yd) (hB1 : Big (xn * yd)) (hB2 : Big (yn * xd)) (hB3 : Big (xn * yd - yn * xd)) (hB4 : Big (xd * yd)) :
    Calls Try.prog 64 #[u, v] w (QPost w (xn * yd - yn * xd) (xd * yd)) := by
  have HB3 := Lib.hid hB3
  have HB4 := Lib.hid hB4
  clear hB3 hB4
  obtain ⟨mx, ax, lx, cx, nx, bx0, kx, dx, rfl, hxn, hxd⟩ := hX.shape
  obtain ⟨my, ay, ly, cy, ny, by0, ky, dy, rfl, hyn, hyd⟩ := hY.shape
  have HXN := Lib.hid hxn
  have HXD := Lib.hid hxd
  have HYN := Lib.hid hyn
  have HYD := Lib.hid hyd
  have HB1 := Lib.hid hB1
  have HB2 := Lib.hid hB2
  clear hX hY hxn hxd hyn hyd hB1 hB2
  go_enter Try.func64, Try.ntmps64
  go_wp2_with fail
  have hA0 := box_row4 w (.bool mx) (.slice ax lx cx) (.bool nx) (.slice bx0 kx dx) 64 w.heap.size rfl
  have hA1 := box_row4 (w.alloc (.cells #[.bool mx, .slice ax lx cx, .bool nx, .slice bx0 kx dx] 64)) (.bool my) (.slice ay ly cy) (.bool ny) (.slice by0 ky dy) 64 (w.heap.size + 1) (by simp)
  have hA2 := box_row4 ((w.alloc (.cells #[.bool mx, .slice ax lx cx, .bool nx, .slice bx0 kx dx] 64)).alloc (.cells #[.bool my, .slice ay ly cy, .bool ny, .slice by0 ky dy] 64)) (.bool false) (.slice none 0 0) (.bool false) (.slice none 0 0) 64 (w.heap.size + 1 + 1) (by simp)
  have hB0 := (((Kept.refl _).alloc (.cells #[.bool my, .slice ay ly cy, .bool ny, .slice by0 ky dy] 64)).alloc (.cells #[.bool false, .slice none 0 0, .bool false, .slice none 0 0] 64)).row hA0
  have hB1 := ((Kept.refl _).alloc (.cells #[.bool false, .slice none 0 0, .bool false, .slice none 0 0] 64)).row hA1
  have hKwW : Kept w (((w.alloc (.cells #[.bool mx, .slice ax lx cx, .bool nx, .slice bx0 kx dx] 64)).alloc (.cells #[.bool my, .slice ay ly cy, .bool ny, .slice by0 ky dy] 64)).alloc (.cells #[.bool false, .slice none 0 0, .bool false, .slice none 0 0] 64)) := (((Kept.refl w).alloc _).alloc _).alloc _
  generalize (((w.alloc (.cells #[.bool mx, .slice ax lx cx, .bool nx, .slice bx0 kx dx] 64)).alloc (.cells #[.bool my, .slice ay ly cy, .bool ny, .slice by0 ky dy] 64)).alloc (.cells #[.bool false, .slice none 0 0, .bool false, .slice none 0 0] 64)) = W at *
  obtain ⟨r0, HR0⟩ : ∃ r0, Hid (r0 = w.heap.size + 1 + 1) := ⟨_, rfl⟩
  obtain ⟨z1, HZZ1⟩ : ∃ z1, Hid (z1 = w.heap.size + 1) := ⟨_, rfl⟩
  obtain ⟨z0, HZZ0⟩ : ∃ z0, Hid (z0 = w.heap.size) := ⟨_, rfl⟩
  rw [← HR0.out] at hA2 ⊢
  rw [← HZZ1.out] at hB1 ⊢
  rw [← HZZ0.out] at hB0 ⊢
  have hrw : w.heap.size ≤ r0 := by rw [HR0.out]; omega
  have hzr : z0 ≠ r0 := by rw [HR0.out, HZZ0.out]; omega
  have hyr : z1 ≠ r0 := by rw [HR0.out, HZZ1.out]; omega
  have HRr := Lib.hid hA2
  have HZ0 := Lib.hid hB0
  have HZ1 := Lib.hid hB1
  obtain ⟨p0, p1, p2, p3, _⟩ := bx4_cells hB0
  obtain ⟨q0, q1, q2, q3, _⟩ := bx4_cells hB1
  clear hA0 hA1 hA2 hB0 hB1
  try go_wp2_with fail
  refine wp_region_held_drew (S := (fun w' => w'.cell? ⟨z0, 0, none⟩ = some (.bool mx) ∧ w'.cell? ⟨z0, 1, none⟩ = some (.slice ax lx cx) ∧ w'.cell? ⟨z0, 2, none⟩ = some (.bool nx) ∧ w'.cell? ⟨z0, 3, none⟩ = some (.slice bx0 kx dx) ∧ w'.cell? ⟨z1, 0, none⟩ = some (.bool my) ∧ w'.cell? ⟨z1, 1, none⟩ = some (.slice ay ly cy) ∧ w'.cell? ⟨z1, 2, none⟩ = some (.bool ny) ∧ w'.cell? ⟨z1, 3, none⟩ = some (.slice by0 ky dy) ∧ Kept w w')) (by kernel_rfl) ?_ (fun hHeld => ?_)
  · (try dsimp only)
    exact ⟨Kept.cellSome (w := W) (by repeat (first | assumption | exact Kept.refl _ | apply Kept.drew | apply Kept.drewN | apply Kept.alloc | refine Kept.trans ?_ (by assumption))) p0, Kept.cellSome (w := W) (by repeat (first | assumption | exact Kept.refl _ | apply Kept.drew | apply Kept.drewN | apply Kept.alloc | refine Kept.trans ?_ (by assumption))) p1, Kept.cellSome (w := W) (by repeat (first | assumption | exact Kept.refl _ | apply Kept.drew | apply Kept.drewN | apply Kept.alloc | refine Kept.trans ?_ (by assumption))) p2, Kept.cellSome (w := W) (by repeat (first | assumption | exact Kept.refl _ | apply Kept.drew | apply Kept.drewN | apply Kept.alloc | refine Kept.trans ?_ (by assumption))) p3, Kept.cellSome (w := W) (by repeat (first | assumption | exact Kept.refl _ | apply Kept.drew | apply Kept.drewN | apply Kept.alloc | refine Kept.trans ?_ (by assumption))) q0, Kept.cellSome (w := W) (by repeat (first | assumption | exact Kept.refl _ | apply Kept.drew | apply Kept.drewN | apply Kept.alloc | refine Kept.trans ?_ (by assumption))) q1, Kept.cellSome (w := W) (by repeat (first | assumption | exact Kept.refl _ | apply Kept.drew | apply Kept.drewN | apply Kept.alloc | refine Kept.trans ?_ (by assumption))) q2, Kept.cellSome (w := W) (by repeat (first | assumption | exact Kept.refl _ | apply Kept.drew | apply Kept.drewN | apply Kept.alloc | refine Kept.trans ?_ (by assumption))) q3, hKwW.trans (by repeat (first | assumption | exact Kept.refl _ | apply Kept.drew | apply Kept.drewN | apply Kept.alloc | refine Kept.trans ?_ (by assumption)))⟩
  refine wpAnyH_take (i := 0) (oi := { dst := some 5, op := Go.Op.fieldAddr 64 (Go.Operand.tmp 2) 0, type := 0, pos := "big.go:204", after := #[], guard := none }) (v := ?v31) rfl (by kernel_rfl) (by kernel_rfl) (by kernel_rfl) (fun _ _ _ h => h) (Or.inl ⟨by rfl, ?hy31⟩) (by assumption) ?rs31
  case hy31 =>
    intro w hSw
    (try dsimp only at hSw)
    go_simp
    try with_reducible rfl
  (try simp only [Act.put, List.setIfInBounds_toArray, List.set_cons_zero, List.set_cons_succ])
  refine wpAnyH_take (i := 1) (oi := { dst := some 6, op := Go.Op.load 60 (Go.Operand.tmp 5), type := 60, pos := "big.go:204", after := #[{ on := 0, ground := Go.Ground.data }], guard := none }) (v := ?v32) rfl (by kernel_rfl) (by kernel_rfl) (by kernel_rfl) (fun _ _ _ h => h) (Or.inl ⟨by rfl, ?hy32⟩) (by assumption) ?rs32
  case hy32 =>
    intro w hSw
    (try dsimp only at hSw)
    go_simp
    try with_reducible rfl
  (try simp only [Act.put, List.setIfInBounds_toArray, List.set_cons_zero, List.set_cons_succ])
  refine wpAnyH_take (i := 2) (oi := { dst := some 7, op := Go.Op.fieldAddr 64 (Go.Operand.tmp 3) 1, type := 0, pos := "big.go:204", after := #[], guard := none }) (v := ?v33) rfl (by kernel_rfl) (by kernel_rfl) (by kernel_rfl) (fun _ _ _ h => h) (Or.inl ⟨by rfl, ?hy33⟩) (by assumption) ?rs33
  case hy33 =>
    intro w hSw
    (try dsimp only at hSw)
    go_simp
    try with_reducible rfl
  (try simp only [Act.put, List.setIfInBounds_toArray, List.set_cons_zero, List.set_cons_succ])
  refine wpAnyH_take (i := 3) (oi := { dst := some 8, op := Go.Op.load 60 (Go.Operand.tmp 7), type := 60, pos := "big.go:204", after := #[{ on := 2, ground := Go.Ground.data }], guard := none }) (v := ?v34) rfl (by kernel_rfl) (by kernel_rfl) (by kernel_rfl) (fun _ _ _ h => h) (Or.inl ⟨by rfl, ?hy34⟩) (by assumption) ?rs34
  case hy34 =>
    intro w hSw
    (try dsimp only at hSw)
    go_simp
    try with_reducible rfl
  (try simp only [Act.put, List.setIfInBounds_toArray, List.set_cons_zero, List.set_cons_succ])
  refine wpAnyH_take (i := 5) (oi := { dst := some 10, op := Go.Op.fieldAddr 64 (Go.Operand.tmp 3) 0, type := 0, pos := "big.go:204", after := #[], guard := none }) (v := ?v35) rfl (by kernel_rfl) (by kernel_rfl) (by kernel_rfl) (fun _ _ _ h => h) (Or.inl ⟨by rfl, ?hy35⟩) (by assumption) ?rs35
  case hy35 =>
    intro w hSw
    (try dsimp only at hSw)
    go_simp
    try with_reducible rfl
  (try simp only [Act.put, List.setIfInBounds_toArray, List.set_cons_zero, List.set_cons_succ])
  refine wpAnyH_take (i := 6) (oi := { dst := some 11, op := Go.Op.load 60 (Go.Operand.tmp 10), type := 60, pos := "big.go:204", after := #[{ on := 5, ground := Go.Ground.data }], guard := none }) (v := ?v36) rfl (by kernel_rfl) (by kernel_rfl) (by kernel_rfl) (fun _ _ _ h => h) (Or.inl ⟨by rfl, ?hy36⟩) (by assumption) ?rs36
  case hy36 =>
    intro w hSw
    (try dsimp only at hSw)
    go_simp
    try with_reducible rfl
  (try simp only [Act.put, List.setIfInBounds_toArray, List.set_cons_zero, List.set_cons_succ])
  refine wpAnyH_take (i := 7) (oi := { dst := some 12, op := Go.Op.fieldAddr 64 (Go.Operand.tmp 2) 1, type := 0, pos := "big.go:204", after := #[], guard := none }) (v := ?v37) rfl (by kernel_rfl) (by kernel_rfl) (by kernel_rfl) (fun _ _ _ h => h) (Or.inl ⟨by rfl, ?hy37⟩) (by assumption) ?rs37
  case hy37 =>
    intro w hSw
    (try dsimp only at hSw)
    go_simp
    try with_reducible rfl
  (try simp only [Act.put, List.setIfInBounds_toArray, List.set_cons_zero, List.set_cons_succ])
  refine wpAnyH_take (i := 8) (oi := { dst := some 13, op := Go.Op.load 60 (Go.Operand.tmp 12), type := 60, pos := "big.go:204", after := #[{ on := 7, ground := Go.Ground.data }], guard := none }) (v := ?v38) rfl (by kernel_rfl) (by kernel_rfl) (by kernel_rfl) (fun _ _ _ h => h) (Or.inl ⟨by rfl, ?hy38⟩) (by assumption) ?rs38
  case hy38 =>
    intro w hSw
    (try dsimp only at hSw)
    go_simp
    try with_reducible rfl
  (try simp only [Act.put, List.setIfInBounds_toArray, List.set_cons_zero, List.set_cons_succ])
  refine wpAnyH_take (i := 11) (oi := { dst := some 16, op := Go.Op.fieldAddr 64 (Go.Operand.tmp 2) 1, type := 0, pos := "big.go:204", after := #[], guard := none }) (v := ?v39) rfl (by kernel_rfl) (by kernel_rfl) (by kernel_rfl) (fun _ _ _ h => h) (Or.inl ⟨by rfl, ?hy39⟩) (by assumption) ?rs39
  case hy39 =>
    intro w hSw
    (try dsimp only at hSw)
    go_simp
    try with_reducible rfl
  (try simp only [Act.put, List.setIfInBounds_toArray, List.set_cons_zero, List.set_cons_succ])
  refine wpAnyH_take (i := 12) (oi := { dst := some 17, op := Go.Op.load 60 (Go.Operand.tmp 16), type := 60, pos := "big.go:204", after := #[{ on := 11, ground := Go.Ground.data }], guard := none }) (v := ?v40) rfl (by kernel_rfl) (by kernel_rfl) (by kernel_rfl) (fun _ _ _ h => h) (Or.inl ⟨by rfl, ?hy40⟩) (by assumption) ?rs40
  case hy40 =>
    intro w hSw
    (try dsimp only at hSw)
    go_simp
    try with_reducible rfl
  (try simp only [Act.put, List.setIfInBounds_toArray, List.set_cons_zero, List.set_cons_succ])
  refine wpAnyH_take (i := 13) (oi := { dst := some 18, op := Go.Op.fieldAddr 64 (Go.Operand.tmp 3) 1, type := 0, pos := "big.go:204", after := #[], guard := none }) (v := ?v41) rfl (by kernel_rfl) (by kernel_rfl) (by kernel_rfl) (fun _ _ _ h => h) (Or.inl ⟨by rfl, ?hy41⟩) (by assumption) ?rs41
  case hy41 =>
    intro w hSw
    (try dsimp only at hSw)
    go_simp
    try with_reducible rfl
  (try simp only [Act.put, List.setIfInBounds_toArray, List.set_cons_zero, List.set_cons_succ])
  refine wpAnyH_take (i := 14) (oi := { dst := some 19, op := Go.Op.load 60 (Go.Operand.tmp 18), type := 60, pos := "big.go:204", after := #[{ on := 13, ground := Go.Ground.data }], guard := none }) (v := ?v42) rfl (by kernel_rfl) (by kernel_rfl) (by kernel_rfl) (fun _ _ _ h => h) (Or.inl ⟨by rfl, ?hy42⟩) (by assumption) ?rs42
  case hy42 =>
    intro w hSw
    (try dsimp only at hSw)
    go_simp
    try with_reducible rfl
  (try simp only [Act.put, List.setIfInBounds_toArray, List.set_cons_zero, List.set_cons_succ])
  refine wpAnyH_ready (rs := [4]) (by kernel_rfl) (by simp) ?_
  refine AllReadyH.cons (o := { dst := some 9, op := Go.Op.call { callee := Go.Callee.value (Go.Operand.func 89), args := #[Go.Operand.tmp 6, Go.Operand.tmp 8], argTypes := #[60, 60] }, type := 60, pos := "big.go:204", after := #[{ on := 1, ground := Go.Ground.data }, { on := 3, ground := Go.Ground.data }], guard := none }) rfl (fun K2 hK2 => ?_) AllReadyH.nil
  go_simp
  (go_at_call 89; refine (Mul_any _ _ _ xn yd (HXN.out.kept (hKwW.trans (by repeat (first | assumption | exact Kept.refl _ | apply Kept.drew | apply Kept.drewN | apply Kept.alloc | refine Kept.trans ?_ (by assumption))))) (HYD.out.kept (hKwW.trans (by repeat (first | assumption | exact Kept.refl _ | apply Kept.drew | apply Kept.drewN | apply Kept.alloc | refine Kept.trans ?_ (by assumption))))) HB1.out).mono ?_; rintro e w4 ⟨v4, rfl, hz4, hk4⟩; obtain ⟨m4, a4, l4, c4, rfl⟩ := hz4.shape)
  go_wp2_with fail
  refine hK2.out _ _ ?_ (fun hHeld => ?_)
  · (try dsimp only)
    exact ⟨Kept.cellSome (w := W) (by repeat (first | assumption | exact Kept.refl _ | apply Kept.drew | apply Kept.drewN | apply Kept.alloc | refine Kept.trans ?_ (by assumption))) p0, Kept.cellSome (w := W) (by repeat (first | assumption | exact Kept.refl _ | apply Kept.drew | apply Kept.drewN | apply Kept.alloc | refine Kept.trans ?_ (by assumption))) p1, Kept.cellSome (w := W) (by repeat (first | assumption | exact Kept.refl _ | apply Kept.drew | apply Kept.drewN | apply Kept.alloc | refine Kept.trans ?_ (by assumption))) p2, Kept.cellSome (w := W) (by repeat (first | assumption | exact Kept.refl _ | apply Kept.drew | apply Kept.drewN | apply Kept.alloc | refine Kept.trans ?_ (by assumption))) p3, Kept.cellSome (w := W) (by repeat (first | assumption | exact Kept.refl _ | apply Kept.drew | apply Kept.drewN | apply Kept.alloc | refine Kept.trans ?_ (by assumption))) q0, Kept.cellSome (w := W) (by repeat (first | assumption | exact Kept.refl _ | apply Kept.drew | apply Kept.drewN | apply Kept.alloc | refine Kept.trans ?_ (by assumption))) q1, Kept.cellSome (w := W) (by repeat (first | assumption | exact Kept.refl _ | apply Kept.drew | apply Kept.drewN | apply Kept.alloc | refine Kept.trans ?_ (by assumption))) q2, Kept.cellSome (w := W) (by repeat (first | assumption | exact Kept.refl _ | apply Kept.drew | apply Kept.drewN | apply Kept.alloc | refine Kept.trans ?_ (by assumption))) q3, hKwW.trans (by repeat (first | assumption | exact Kept.refl _ | apply Kept.drew | apply Kept.drewN | apply Kept.alloc | refine Kept.trans ?_ (by assumption)))⟩
  clear hK2 K2
  (try simp only [Act.put, List.setIfInBounds_toArray, List.set_cons_zero, List.set_cons_succ])
  refine wpAnyH_ready (rs := [9]) (by kernel_rfl) (by simp) ?_
  refine AllReadyH.cons (o := { dst := some 14, op := Go.Op.call { callee := Go.Callee.value (Go.Operand.func 89), args := #[Go.Operand.tmp 11, Go.Operand.tmp 13], argTypes := #[60, 60] }, type := 60, pos := "big.go:204", after := #[{ on := 6, ground := Go.Ground.data }, { on := 8, ground := Go.Ground.data }, { on := 4, ground := Go.Ground.chain }], guard := none }) rfl (fun K2 hK2 => ?_) AllReadyH.nil
  go_simp
  (go_at_call 89; refine (Mul_any _ _ _ yn xd (HYN.out.kept (hKwW.trans (by repeat (first | assumption | exact Kept.refl _ | apply Kept.drew | apply Kept.drewN | apply Kept.alloc | refine Kept.trans ?_ (by assumption))))) (HXD.out.kept (hKwW.trans (by repeat (first | assumption | exact Kept.refl _ | apply Kept.drew | apply Kept.drewN | apply Kept.alloc | refine Kept.trans ?_ (by assumption))))) HB2.out).mono ?_; rintro e w5 ⟨v5, rfl, hz5, hk5⟩; obtain ⟨m5, a5, l5, c5, rfl⟩ := hz5.shape)
  go_wp2_with fail
  refine hK2.out _ _ ?_ (fun hHeld => ?_)
  · (try dsimp only)
    exact ⟨Kept.cellSome (w := W) (by repeat (first | assumption | exact Kept.refl _ | apply Kept.drew | apply Kept.drewN | apply Kept.alloc | refine Kept.trans ?_ (by assumption))) p0, Kept.cellSome (w := W) (by repeat (first | assumption | exact Kept.refl _ | apply Kept.drew | apply Kept.drewN | apply Kept.alloc | refine Kept.trans ?_ (by assumption))) p1, Kept.cellSome (w := W) (by repeat (first | assumption | exact Kept.refl _ | apply Kept.drew | apply Kept.drewN | apply Kept.alloc | refine Kept.trans ?_ (by assumption))) p2, Kept.cellSome (w := W) (by repeat (first | assumption | exact Kept.refl _ | apply Kept.drew | apply Kept.drewN | apply Kept.alloc | refine Kept.trans ?_ (by assumption))) p3, Kept.cellSome (w := W) (by repeat (first | assumption | exact Kept.refl _ | apply Kept.drew | apply Kept.drewN | apply Kept.alloc | refine Kept.trans ?_ (by assumption))) q0, Kept.cellSome (w := W) (by repeat (first | assumption | exact Kept.refl _ | apply Kept.drew | apply Kept.drewN | apply Kept.alloc | refine Kept.trans ?_ (by assumption))) q1, Kept.cellSome (w := W) (by repeat (first | assumption | exact Kept.refl _ | apply Kept.drew | apply Kept.drewN | apply Kept.alloc | refine Kept.trans ?_ (by assumption))) q2, Kept.cellSome (w := W) (by repeat (first | assumption | exact Kept.refl _ | apply Kept.drew | apply Kept.drewN | apply Kept.alloc | refine Kept.trans ?_ (by assumption))) q3, hKwW.trans (by repeat (first | assumption | exact Kept.refl _ | apply Kept.drew | apply Kept.drewN | apply Kept.alloc | refine Kept.trans ?_ (by assumption)))⟩
  clear hK2 K2
  (try simp only [Act.put, List.setIfInBounds_toArray, List.set_cons_zero, List.set_cons_succ])
  refine wpAnyH_ready (rs := [10]) (by kernel_rfl) (by simp) ?_
  refine AllReadyH.cons (o := { dst := some 15, op := Go.Op.call { callee := Go.Callee.value (Go.Operand.func 88), args := #[Go.Operand.tmp 9, Go.Operand.tmp 14], argTypes := #[60, 60] }, type := 60, pos := "big.go:204", after := #[{ on := 4, ground := Go.Ground.data }, { on := 9, ground := Go.Ground.data }, { on := 9, ground := Go.Ground.chain }], guard := none }) rfl (fun K2 hK2 => ?_) AllReadyH.nil
  go_simp
  (go_at_call 88; refine (Sub_any _ _ _ (xn * yd) (yn * xd) (hz4.kept (by repeat (first | assumption | exact Kept.refl _ | apply Kept.drew | apply Kept.drewN | apply Kept.alloc | refine Kept.trans ?_ (by assumption)))) (hz5.kept (by repeat (first | assumption | exact Kept.refl _ | apply Kept.drew | apply Kept.drewN | apply Kept.alloc | refine Kept.trans ?_ (by assumption)))) HB3.out).mono ?_; rintro e w6 ⟨v6, rfl, hz6, hk6⟩; obtain ⟨m6, a6, l6, c6, rfl⟩ := hz6.shape)
  go_wp2_with fail
  refine hK2.out _ _ ?_ (fun hHeld => ?_)
  · (try dsimp only)
    exact ⟨Kept.cellSome (w := W) (by repeat (first | assumption | exact Kept.refl _ | apply Kept.drew | apply Kept.drewN | apply Kept.alloc | refine Kept.trans ?_ (by assumption))) p0, Kept.cellSome (w := W) (by repeat (first | assumption | exact Kept.refl _ | apply Kept.drew | apply Kept.drewN | apply Kept.alloc | refine Kept.trans ?_ (by assumption))) p1, Kept.cellSome (w := W) (by repeat (first | assumption | exact Kept.refl _ | apply Kept.drew | apply Kept.drewN | apply Kept.alloc | refine Kept.trans ?_ (by assumption))) p2, Kept.cellSome (w := W) (by repeat (first | assumption | exact Kept.refl _ | apply Kept.drew | apply Kept.drewN | apply Kept.alloc | refine Kept.trans ?_ (by assumption))) p3, Kept.cellSome (w := W) (by repeat (first | assumption | exact Kept.refl _ | apply Kept.drew | apply Kept.drewN | apply Kept.alloc | refine Kept.trans ?_ (by assumption))) q0, Kept.cellSome (w := W) (by repeat (first | assumption | exact Kept.refl _ | apply Kept.drew | apply Kept.drewN | apply Kept.alloc | refine Kept.trans ?_ (by assumption))) q1, Kept.cellSome (w := W) (by repeat (first | assumption | exact Kept.refl _ | apply Kept.drew | apply Kept.drewN | apply Kept.alloc | refine Kept.trans ?_ (by assumption))) q2, Kept.cellSome (w := W) (by repeat (first | assumption | exact Kept.refl _ | apply Kept.drew | apply Kept.drewN | apply Kept.alloc | refine Kept.trans ?_ (by assumption))) q3, hKwW.trans (by repeat (first | assumption | exact Kept.refl _ | apply Kept.drew | apply Kept.drewN | apply Kept.alloc | refine Kept.trans ?_ (by assumption)))⟩
  clear hK2 K2
  (try simp only [Act.put, List.setIfInBounds_toArray, List.set_cons_zero, List.set_cons_succ])
  refine wpAnyH_ready (rs := [15]) (by kernel_rfl) (by simp) ?_
  refine AllReadyH.cons (o := { dst := some 20, op := Go.Op.call { callee := Go.Callee.value (Go.Operand.func 89), args := #[Go.Operand.tmp 17, Go.Operand.tmp 19], argTypes := #[60, 60] }, type := 60, pos := "big.go:204", after := #[{ on := 12, ground := Go.Ground.data }, { on := 14, ground := Go.Ground.data }, { on := 10, ground := Go.Ground.chain }], guard := none }) rfl (fun K2 hK2 => ?_) AllReadyH.nil
  go_simp
  (go_at_call 89; refine (Mul_any _ _ _ xd yd (HXD.out.kept (hKwW.trans (by repeat (first | assumption | exact Kept.refl _ | apply Kept.drew | apply Kept.drewN | apply Kept.alloc | refine Kept.trans ?_ (by assumption))))) (HYD.out.kept (hKwW.trans (by repeat (first | assumption | exact Kept.refl _ | apply Kept.drew | apply Kept.drewN | apply Kept.alloc | refine Kept.trans ?_ (by assumption))))) HB4.out).mono ?_; rintro e w7 ⟨v7, rfl, hz7, hk7⟩; obtain ⟨m7, a7, l7, c7, rfl⟩ := hz7.shape)
  go_wp2_with fail
  refine hK2.out _ _ ?_ (fun hHeld => ?_)
  · (try dsimp only)
    exact ⟨Kept.cellSome (w := W) (by repeat (first | assumption | exact Kept.refl _ | apply Kept.drew | apply Kept.drewN | apply Kept.alloc | refine Kept.trans ?_ (by assumption))) p0, Kept.cellSome (w := W) (by repeat (first | assumption | exact Kept.refl _ | apply Kept.drew | apply Kept.drewN | apply Kept.alloc | refine Kept.trans ?_ (by assumption))) p1, Kept.cellSome (w := W) (by repeat (first | assumption | exact Kept.refl _ | apply Kept.drew | apply Kept.drewN | apply Kept.alloc | refine Kept.trans ?_ (by assumption))) p2, Kept.cellSome (w := W) (by repeat (first | assumption | exact Kept.refl _ | apply Kept.drew | apply Kept.drewN | apply Kept.alloc | refine Kept.trans ?_ (by assumption))) p3, Kept.cellSome (w := W) (by repeat (first | assumption | exact Kept.refl _ | apply Kept.drew | apply Kept.drewN | apply Kept.alloc | refine Kept.trans ?_ (by assumption))) q0, Kept.cellSome (w := W) (by repeat (first | assumption | exact Kept.refl _ | apply Kept.drew | apply Kept.drewN | apply Kept.alloc | refine Kept.trans ?_ (by assumption))) q1, Kept.cellSome (w := W) (by repeat (first | assumption | exact Kept.refl _ | apply Kept.drew | apply Kept.drewN | apply Kept.alloc | refine Kept.trans ?_ (by assumption))) q2, Kept.cellSome (w := W) (by repeat (first | assumption | exact Kept.refl _ | apply Kept.drew | apply Kept.drewN | apply Kept.alloc | refine Kept.trans ?_ (by assumption))) q3, hKwW.trans (by repeat (first | assumption | exact Kept.refl _ | apply Kept.drew | apply Kept.drewN | apply Kept.alloc | refine Kept.trans ?_ (by assumption)))⟩
  clear hK2 K2
  (try simp only [Act.put, List.setIfInBounds_toArray, List.set_cons_zero, List.set_cons_succ])
  refine wpAnyH_take (i := 16) (oi := { dst := some 21, op := Go.Op.build 64 #[(0, Go.Operand.tmp 15), (1, Go.Operand.tmp 20)], type := 64, pos := "big.go:204", after := #[{ on := 10, ground := Go.Ground.data }, { on := 15, ground := Go.Ground.data }], guard := none }) (v := ?v43) rfl (by kernel_rfl) (by kernel_rfl) (by kernel_rfl) (fun _ _ _ h => h) (Or.inl ⟨by rfl, ?hy43⟩) (by assumption) ?rs43
  case hy43 =>
    intro w hSw
    (try dsimp only at hSw)
    go_simp
    try with_reducible rfl
  (try simp only [Act.put, List.setIfInBounds_toArray, List.set_cons_zero, List.set_cons_succ])
  have hKW6 : Kept W w7 := (by repeat (first | assumption | exact Kept.refl _ | apply Kept.drew | apply Kept.drewN | apply Kept.alloc | refine Kept.trans ?_ (by assumption)))
  have hR6 := hKW6.row HRr.out
  have hZ6 := hKW6.row HZ0.out
  have hY6 := hKW6.row HZ1.out
  obtain ⟨f0, f1, f2, f3, f4, f5, f6, f7⟩ := bx4_cells hR6
  have hRF := bx4_set hR6 (.bool m6) (.slice a6 l6 c6) (.bool m7) (.slice a7 l7 c7)
  have hZF := ((((hZ6.setOther (a := ⟨r0, 0, none⟩) hzr (.bool m6)).setOther (a := ⟨r0, 1, none⟩) hzr (.slice a6 l6 c6)).setOther (a := ⟨r0, 2, none⟩) hzr (.bool m7)).setOther (a := ⟨r0, 3, none⟩) hzr (.slice a7 l7 c7))
  have hYF := ((((hY6.setOther (a := ⟨r0, 0, none⟩) hyr (.bool m6)).setOther (a := ⟨r0, 1, none⟩) hyr (.slice a6 l6 c6)).setOther (a := ⟨r0, 2, none⟩) hyr (.bool m7)).setOther (a := ⟨r0, 3, none⟩) hyr (.slice a7 l7 c7))
  have hKF : Kept w ((((w7.setCell ⟨r0, 0, none⟩ (.bool m6)).setCell ⟨r0, 1, none⟩ (.slice a6 l6 c6)).setCell ⟨r0, 2, none⟩ (.bool m7)).setCell ⟨r0, 3, none⟩ (.slice a7 l7 c7)) := ((((hKwW.trans hKW6).setCell hrw _).setCell hrw _).setCell hrw _).setCell hrw _
  have hX : KeptX (fun k => k = r0) w7 ((((w7.setCell ⟨r0, 0, none⟩ (.bool m6)).setCell ⟨r0, 1, none⟩ (.slice a6 l6 c6)).setCell ⟨r0, 2, none⟩ (.bool m7)).setCell ⟨r0, 3, none⟩ (.slice a7 l7 c7)) := ((((KeptX.refl (fun k => k = r0) w7).setIn 0 _).setIn 1 _).setIn 2 _).setIn 3 _
  have HN7 := Lib.hid ((hz6.kept (by repeat (first | assumption | exact Kept.refl _ | apply Kept.drew | apply Kept.drewN | apply Kept.alloc | refine Kept.trans ?_ (by assumption))) : ZAt w7 _ _).keptBoxN hX hR6 (bx4_noint _ _ _ _ _ _ _ _))
  have HD7 := Lib.hid ((hz7.kept (by repeat (first | assumption | exact Kept.refl _ | apply Kept.drew | apply Kept.drewN | apply Kept.alloc | refine Kept.trans ?_ (by assumption))) : ZAt w7 _ _).keptBoxN hX hR6 (bx4_noint _ _ _ _ _ _ _ _))
  obtain ⟨g0, g1, g2, g3, _⟩ := bx4_cells hRF
  obtain ⟨s0, s1, s2, s3, _⟩ := bx4_cells hZF
  obtain ⟨s4, s5, s6, s7, _⟩ := bx4_cells hYF
  clear hR6 hZ6 hY6 hRF hZF hYF hX
  refine wpAnyH_ready (rs := [17]) (by kernel_rfl) (by simp) ?_
  refine AllReadyH.cons (o := { dst := none, op := Go.Op.store 64 (Go.Operand.tmp 4) (Go.Operand.tmp 21), type := 0, pos := "big.go:204", after := #[{ on := 16, ground := Go.Ground.data }, { on := 15, ground := Go.Ground.chain }, { on := 0, ground := Go.Ground.phase }, { on := 1, ground := Go.Ground.phase }, { on := 2, ground := Go.Ground.phase }, { on := 3, ground := Go.Ground.phase }, { on := 4, ground := Go.Ground.phase }, { on := 5, ground := Go.Ground.phase }, { on := 6, ground := Go.Ground.phase }, { on := 7, ground := Go.Ground.phase }, { on := 8, ground := Go.Ground.phase }, { on := 9, ground := Go.Ground.phase }, { on := 10, ground := Go.Ground.phase }, { on := 11, ground := Go.Ground.phase }, { on := 12, ground := Go.Ground.phase }, { on := 13, ground := Go.Ground.phase }, { on := 14, ground := Go.Ground.phase }, { on := 15, ground := Go.Ground.phase }, { on := 16, ground := Go.Ground.phase }], guard := none }) rfl (fun K2 hK2 => ?_) AllReadyH.nil
  go_simp
  refine hK2.out _ _ ?_ (fun hHeld => ?_)
  · (try dsimp only)
    exact ⟨s0, s1, s2, s3, s4, s5, s6, s7, hKF⟩
  generalize ((((w7.setCell ⟨r0, 0, none⟩ (.bool m6)).setCell ⟨r0, 1, none⟩ (.slice a6 l6 c6)).setCell ⟨r0, 2, none⟩ (.bool m7)).setCell ⟨r0, 3, none⟩ (.slice a7 l7 c7)) = WF at *
  clear hK2 K2
  (try simp only [Act.put, List.setIfInBounds_toArray, List.set_cons_zero, List.set_cons_succ])
  refine wpAnyH_done (by kernel_rfl) ?_ _
  go_wp2_with fail
  exact bodyPost_ret (v := .agg #[.bool m6, .slice a6 l6 c6, .bool m7, .slice a7 l7 c7]) (by simp [results, Try.results64, go_sem, g0, g1, g2, g3]) rfl ⟨_, rfl, ⟨m6, _, m7, _, rfl, HN7.out, HD7.out⟩, hKF⟩
set_option maxRecDepth 100000 in
set_option maxHeartbeats 16000000 in
theorem AddQ_any (w : World) (u v : Value) (xn xd yn yd : Int) (hX : QAt w u xn xd) (hY : QAt w v yn yd) (hB1 : Big (xn * yd)) (hB2 : Big (yn * xd)) (hB3 : Big (xn * yd + yn * xd)) (hB4 : Big (xd * yd)) :
    Calls Try.prog 66 #[u, v] w (QPost w (xn * yd + yn * xd) (xd * yd)) := by
  have HB3 := Lib.hid hB3
  have HB4 := Lib.hid hB4
  clear hB3 hB4
  obtain ⟨mx, ax, lx, cx, nx, bx0, kx, dx, rfl, hxn, hxd⟩ := hX.shape
  obtain ⟨my, ay, ly, cy, ny, by0, ky, dy, rfl, hyn, hyd⟩ := hY.shape
  have HXN := Lib.hid hxn
  have HXD := Lib.hid hxd
  have HYN := Lib.hid hyn
  have HYD := Lib.hid hyd
  have HB1 := Lib.hid hB1
  have HB2 := Lib.hid hB2
  clear hX hY hxn hxd hyn hyd hB1 hB2
  go_enter Try.func66, Try.ntmps66
  go_wp2_with fail
  have hA0 := box_row4 w (.bool mx) (.slice ax lx cx) (.bool nx) (.slice bx0 kx dx) 64 w.heap.size rfl
  have hA1 := box_row4 (w.alloc (.cells #[.bool mx, .slice ax lx cx, .bool nx, .slice bx0 kx dx] 64)) (.bool my) (.slice ay ly cy) (.bool ny) (.slice by0 ky dy) 64 (w.heap.size + 1) (by simp)
  have hA2 := box_row4 ((w.alloc (.cells #[.bool mx, .slice ax lx cx, .bool nx, .slice bx0 kx dx] 64)).alloc (.cells #[.bool my, .slice ay ly cy, .bool ny, .slice by0 ky dy] 64)) (.bool false) (.slice none 0 0) (.bool false) (.slice none 0 0) 64 (w.heap.size + 1 + 1) (by simp)
  have hB0 := (((Kept.refl _).alloc (.cells #[.bool my, .slice ay ly cy, .bool ny, .slice by0 ky dy] 64)).alloc (.cells #[.bool false, .slice none 0 0, .bool false, .slice none 0 0] 64)).row hA0
  have hB1 := ((Kept.refl _).alloc (.cells #[.bool false, .slice none 0 0, .bool false, .slice none 0 0] 64)).row hA1
  have hKwW : Kept w (((w.alloc (.cells #[.bool mx, .slice ax lx cx, .bool nx, .slice bx0 kx dx] 64)).alloc (.cells #[.bool my, .slice ay ly cy, .bool ny, .slice by0 ky dy] 64)).alloc (.cells #[.bool false, .slice none 0 0, .bool false, .slice none 0 0] 64)) := (((Kept.refl w).alloc _).alloc _).alloc _
  generalize (((w.alloc (.cells #[.bool mx, .slice ax lx cx, .bool nx, .slice bx0 kx dx] 64)).alloc (.cells #[.bool my, .slice ay ly cy, .bool ny, .slice by0 ky dy] 64)).alloc (.cells #[.bool false, .slice none 0 0, .bool false, .slice none 0 0] 64)) = W at *
  obtain ⟨r0, HR0⟩ : ∃ r0, Hid (r0 = w.heap.size + 1 + 1) := ⟨_, rfl⟩
  obtain ⟨z1, HZZ1⟩ : ∃ z1, Hid (z1 = w.heap.size + 1) := ⟨_, rfl⟩
  obtain ⟨z0, HZZ0⟩ : ∃ z0, Hid (z0 = w.heap.size) := ⟨_, rfl⟩
  rw [← HR0.out] at hA2 ⊢
  rw [← HZZ1.out] at hB1 ⊢
  rw [← HZZ0.out] at hB0 ⊢
  have hrw : w.heap.size ≤ r0 := by rw [HR0.out]; omega
  have hzr : z0 ≠ r0 := by rw [HR0.out, HZZ0.out]; omega
  have hyr : z1 ≠ r0 := by rw [HR0.out, HZZ1.out]; omega
  have HRr := Lib.hid hA2
  have HZ0 := Lib.hid hB0
  have HZ1 := Lib.hid hB1
  obtain ⟨p0, p1, p2, p3, _⟩ := bx4_cells hB0
  obtain ⟨q0, q1, q2, q3, _⟩ := bx4_cells hB1
  clear hA0 hA1 hA2 hB0 hB1
  try go_wp2_with fail
  refine wp_region_held_drew (S := (fun w' => w'.cell? ⟨z0, 0, none⟩ = some (.bool mx) ∧ w'.cell? ⟨z0, 1, none⟩ = some (.slice ax lx cx) ∧ w'.cell? ⟨z0, 2, none⟩ = some (.bool nx) ∧ w'.cell? ⟨z0, 3, none⟩ = some (.slice bx0 kx dx) ∧ w'.cell? ⟨z1, 0, none⟩ = some (.bool my) ∧ w'.cell? ⟨z1, 1, none⟩ = some (.slice ay ly cy) ∧ w'.cell? ⟨z1, 2, none⟩ = some (.bool ny) ∧ w'.cell? ⟨z1, 3, none⟩ = some (.slice by0 ky dy) ∧ Kept w w')) (by kernel_rfl) ?_ (fun hHeld => ?_)
  · (try dsimp only)
    exact ⟨Kept.cellSome (w := W) (by repeat (first | assumption | exact Kept.refl _ | apply Kept.drew | apply Kept.drewN | apply Kept.alloc | refine Kept.trans ?_ (by assumption))) p0, Kept.cellSome (w := W) (by repeat (first | assumption | exact Kept.refl _ | apply Kept.drew | apply Kept.drewN | apply Kept.alloc | refine Kept.trans ?_ (by assumption))) p1, Kept.cellSome (w := W) (by repeat (first | assumption | exact Kept.refl _ | apply Kept.drew | apply Kept.drewN | apply Kept.alloc | refine Kept.trans ?_ (by assumption))) p2, Kept.cellSome (w := W) (by repeat (first | assumption | exact Kept.refl _ | apply Kept.drew | apply Kept.drewN | apply Kept.alloc | refine Kept.trans ?_ (by assumption))) p3, Kept.cellSome (w := W) (by repeat (first | assumption | exact Kept.refl _ | apply Kept.drew | apply Kept.drewN | apply Kept.alloc | refine Kept.trans ?_ (by assumption))) q0, Kept.cellSome (w := W) (by repeat (first | assumption | exact Kept.refl _ | apply Kept.drew | apply Kept.drewN | apply Kept.alloc | refine Kept.trans ?_ (by assumption))) q1, Kept.cellSome (w := W) (by repeat (first | assumption | exact Kept.refl _ | apply Kept.drew | apply Kept.drewN | apply Kept.alloc | refine Kept.trans ?_ (by assumption))) q2, Kept.cellSome (w := W) (by repeat (first | assumption | exact Kept.refl _ | apply Kept.drew | apply Kept.drewN | apply Kept.alloc | refine Kept.trans ?_ (by assumption))) q3, hKwW.trans (by repeat (first | assumption | exact Kept.refl _ | apply Kept.drew | apply Kept.drewN | apply Kept.alloc | refine Kept.trans ?_ (by assumption)))⟩
  refine wpAnyH_take (i := 0) (oi := { dst := some 5, op := Go.Op.fieldAddr 64 (Go.Operand.tmp 2) 0, type := 0, pos := "big.go:203", after := #[], guard := none }) (v := ?v44) rfl (by kernel_rfl) (by kernel_rfl) (by kernel_rfl) (fun _ _ _ h => h) (Or.inl ⟨by rfl, ?hy44⟩) (by assumption) ?rs44
  case hy44 =>
    intro w hSw
    (try dsimp only at hSw)
    go_simp
    try with_reducible rfl
  (try simp only [Act.put, List.setIfInBounds_toArray, List.set_cons_zero, List.set_cons_succ])
  refine wpAnyH_take (i := 1) (oi := { dst := some 6, op := Go.Op.load 60 (Go.Operand.tmp 5), type := 60, pos := "big.go:203", after := #[{ on := 0, ground := Go.Ground.data }], guard := none }) (v := ?v45) rfl (by kernel_rfl) (by kernel_rfl) (by kernel_rfl) (fun _ _ _ h => h) (Or.inl ⟨by rfl, ?hy45⟩) (by assumption) ?rs45
  case hy45 =>
    intro w hSw
    (try dsimp only at hSw)
    go_simp
    try with_reducible rfl
  (try simp only [Act.put, List.setIfInBounds_toArray, List.set_cons_zero, List.set_cons_succ])
  refine wpAnyH_take (i := 2) (oi := { dst := some 7, op := Go.Op.fieldAddr 64 (Go.Operand.tmp 3) 1, type := 0, pos := "big.go:203", after := #[], guard := none }) (v := ?v46) rfl (by kernel_rfl) (by kernel_rfl) (by kernel_rfl) (fun _ _ _ h => h) (Or.inl ⟨by rfl, ?hy46⟩) (by assumption) ?rs46
  case hy46 =>
    intro w hSw
    (try dsimp only at hSw)
    go_simp
    try with_reducible rfl
  (try simp only [Act.put, List.setIfInBounds_toArray, List.set_cons_zero, List.set_cons_succ])
  refine wpAnyH_take (i := 3) (oi := { dst := some 8, op := Go.Op.load 60 (Go.Operand.tmp 7), type := 60, pos := "big.go:203", after := #[{ on := 2, ground := Go.Ground.data }], guard := none }) (v := ?v47) rfl (by kernel_rfl) (by kernel_rfl) (by kernel_rfl) (fun _ _ _ h => h) (Or.inl ⟨by rfl, ?hy47⟩) (by assumption) ?rs47
  case hy47 =>
    intro w hSw
    (try dsimp only at hSw)
    go_simp
    try with_reducible rfl
  (try simp only [Act.put, List.setIfInBounds_toArray, List.set_cons_zero, List.set_cons_succ])
  refine wpAnyH_take (i := 5) (oi := { dst := some 10, op := Go.Op.fieldAddr 64 (Go.Operand.tmp 3) 0, type := 0, pos := "big.go:203", after := #[], guard := none }) (v := ?v48) rfl (by kernel_rfl) (by kernel_rfl) (by kernel_rfl) (fun _ _ _ h => h) (Or.inl ⟨by rfl, ?hy48⟩) (by assumption) ?rs48
  case hy48 =>
    intro w hSw
    (try dsimp only at hSw)
    go_simp
    try with_reducible rfl
  (try simp only [Act.put, List.setIfInBounds_toArray, List.set_cons_zero, List.set_cons_succ])
  refine wpAnyH_take (i := 6) (oi := { dst := some 11, op := Go.Op.load 60 (Go.Operand.tmp 10), type := 60, pos := "big.go:203", after := #[{ on := 5, ground := Go.Ground.data }], guard := none }) (v := ?v49) rfl (by kernel_rfl) (by kernel_rfl) (by kernel_rfl) (fun _ _ _ h => h) (Or.inl ⟨by rfl, ?hy49⟩) (by assumption) ?rs49
  case hy49 =>
    intro w hSw
    (try dsimp only at hSw)
    go_simp
    try with_reducible rfl
  (try simp only [Act.put, List.setIfInBounds_toArray, List.set_cons_zero, List.set_cons_succ])
  refine wpAnyH_take (i := 7) (oi := { dst := some 12, op := Go.Op.fieldAddr 64 (Go.Operand.tmp 2) 1, type := 0, pos := "big.go:203", after := #[], guard := none }) (v := ?v50) rfl (by kernel_rfl) (by kernel_rfl) (by kernel_rfl) (fun _ _ _ h => h) (Or.inl ⟨by rfl, ?hy50⟩) (by assumption) ?rs50
  case hy50 =>
    intro w hSw
    (try dsimp only at hSw)
    go_simp
    try with_reducible rfl
  (try simp only [Act.put, List.setIfInBounds_toArray, List.set_cons_zero, List.set_cons_succ])
  refine wpAnyH_take (i := 8) (oi := { dst := some 13, op := Go.Op.load 60 (Go.Operand.tmp 12), type := 60, pos := "big.go:203", after := #[{ on := 7, ground := Go.Ground.data }], guard := none }) (v := ?v51) rfl (by kernel_rfl) (by kernel_rfl) (by kernel_rfl) (fun _ _ _ h => h) (Or.inl ⟨by rfl, ?hy51⟩) (by assumption) ?rs51
  case hy51 =>
    intro w hSw
    (try dsimp only at hSw)
    go_simp
    try with_reducible rfl
  (try simp only [Act.put, List.setIfInBounds_toArray, List.set_cons_zero, List.set_cons_succ])
  refine wpAnyH_take (i := 11) (oi := { dst := some 16, op := Go.Op.fieldAddr 64 (Go.Operand.tmp 2) 1, type := 0, pos := "big.go:203", after := #[], guard := none }) (v := ?v52) rfl (by kernel_rfl) (by kernel_rfl) (by kernel_rfl) (fun _ _ _ h => h) (Or.inl ⟨by rfl, ?hy52⟩) (by assumption) ?rs52
  case hy52 =>
    intro w hSw
    (try dsimp only at hSw)
    go_simp
    try with_reducible rfl
  (try simp only [Act.put, List.setIfInBounds_toArray, List.set_cons_zero, List.set_cons_succ])
  refine wpAnyH_take (i := 12) (oi := { dst := some 17, op := Go.Op.load 60 (Go.Operand.tmp 16), type := 60, pos := "big.go:203", after := #[{ on := 11, ground := Go.Ground.data }], guard := none }) (v := ?v53) rfl (by kernel_rfl) (by kernel_rfl) (by kernel_rfl) (fun _ _ _ h => h) (Or.inl ⟨by rfl, ?hy53⟩) (by assumption) ?rs53
  case hy53 =>
    intro w hSw
    (try dsimp only at hSw)
    go_simp
    try with_reducible rfl
  (try simp only [Act.put, List.setIfInBounds_toArray, List.set_cons_zero, List.set_cons_succ])
  refine wpAnyH_take (i := 13) (oi := { dst := some 18, op := Go.Op.fieldAddr 64 (Go.Operand.tmp 3) 1, type := 0, pos := "big.go:203", after := #[], guard := none }) (v := ?v54) rfl (by kernel_rfl) (by kernel_rfl) (by kernel_rfl) (fun _ _ _ h => h) (Or.inl ⟨by rfl, ?hy54⟩) (by assumption) ?rs54
  case hy54 =>
    intro w hSw
    (try dsimp only at hSw)
    go_simp
    try with_reducible rfl
  (try simp only [Act.put, List.setIfInBounds_toArray, List.set_cons_zero, List.set_cons_succ])
  refine wpAnyH_take (i := 14) (oi := { dst := some 19, op := Go.Op.load 60 (Go.Operand.tmp 18), type := 60, pos := "big.go:203", after := #[{ on := 13, ground := Go.Ground.data }], guard := none }) (v := ?v55) rfl (by kernel_rfl) (by kernel_rfl) (by kernel_rfl) (fun _ _ _ h => h) (Or.inl ⟨by rfl, ?hy55⟩) (by assumption) ?rs55
  case hy55 =>
    intro w hSw
    (try dsimp only at hSw)
    go_simp
    try with_reducible rfl
  (try simp only [Act.put, List.setIfInBounds_toArray, List.set_cons_zero, List.set_cons_succ])
  refine wpAnyH_ready (rs := [4]) (by kernel_rfl) (by simp) ?_
  refine AllReadyH.cons (o := { dst := some 9, op := Go.Op.call { callee := Go.Callee.value (Go.Operand.func 89), args := #[Go.Operand.tmp 6, Go.Operand.tmp 8], argTypes := #[60, 60] }, type := 60, pos := "big.go:203", after := #[{ on := 1, ground := Go.Ground.data }, { on := 3, ground := Go.Ground.data }], guard := none }) rfl (fun K2 hK2 => ?_) AllReadyH.nil
  go_simp
  (go_at_call 89; refine (Mul_any _ _ _ xn yd (HXN.out.kept (hKwW.trans (by repeat (first | assumption | exact Kept.refl _ | apply Kept.drew | apply Kept.drewN | apply Kept.alloc | refine Kept.trans ?_ (by assumption))))) (HYD.out.kept (hKwW.trans (by repeat (first | assumption | exact Kept.refl _ | apply Kept.drew | apply Kept.drewN | apply Kept.alloc | refine Kept.trans ?_ (by assumption))))) HB1.out).mono ?_; rintro e w4 ⟨v4, rfl, hz4, hk4⟩; obtain ⟨m4, a4, l4, c4, rfl⟩ := hz4.shape)
  go_wp2_with fail
  refine hK2.out _ _ ?_ (fun hHeld => ?_)
  · (try dsimp only)
    exact ⟨Kept.cellSome (w := W) (by repeat (first | assumption | exact Kept.refl _ | apply Kept.drew | apply Kept.drewN | apply Kept.alloc | refine Kept.trans ?_ (by assumption))) p0, Kept.cellSome (w := W) (by repeat (first | assumption | exact Kept.refl _ | apply Kept.drew | apply Kept.drewN | apply Kept.alloc | refine Kept.trans ?_ (by assumption))) p1, Kept.cellSome (w := W) (by repeat (first | assumption | exact Kept.refl _ | apply Kept.drew | apply Kept.drewN | apply Kept.alloc | refine Kept.trans ?_ (by assumption))) p2, Kept.cellSome (w := W) (by repeat (first | assumption | exact Kept.refl _ | apply Kept.drew | apply Kept.drewN | apply Kept.alloc | refine Kept.trans ?_ (by assumption))) p3, Kept.cellSome (w := W) (by repeat (first | assumption | exact Kept.refl _ | apply Kept.drew | apply Kept.drewN | apply Kept.alloc | refine Kept.trans ?_ (by assumption))) q0, Kept.cellSome (w := W) (by repeat (first | assumption | exact Kept.refl _ | apply Kept.drew | apply Kept.drewN | apply Kept.alloc | refine Kept.trans ?_ (by assumption))) q1, Kept.cellSome (w := W) (by repeat (first | assumption | exact Kept.refl _ | apply Kept.drew | apply Kept.drewN | apply Kept.alloc | refine Kept.trans ?_ (by assumption))) q2, Kept.cellSome (w := W) (by repeat (first | assumption | exact Kept.refl _ | apply Kept.drew | apply Kept.drewN | apply Kept.alloc | refine Kept.trans ?_ (by assumption))) q3, hKwW.trans (by repeat (first | assumption | exact Kept.refl _ | apply Kept.drew | apply Kept.drewN | apply Kept.alloc | refine Kept.trans ?_ (by assumption)))⟩
  clear hK2 K2
  (try simp only [Act.put, List.setIfInBounds_toArray, List.set_cons_zero, List.set_cons_succ])
  refine wpAnyH_ready (rs := [9]) (by kernel_rfl) (by simp) ?_
  refine AllReadyH.cons (o := { dst := some 14, op := Go.Op.call { callee := Go.Callee.value (Go.Operand.func 89), args := #[Go.Operand.tmp 11, Go.Operand.tmp 13], argTypes := #[60, 60] }, type := 60, pos := "big.go:203", after := #[{ on := 6, ground := Go.Ground.data }, { on := 8, ground := Go.Ground.data }, { on := 4, ground := Go.Ground.chain }], guard := none }) rfl (fun K2 hK2 => ?_) AllReadyH.nil
  go_simp
  (go_at_call 89; refine (Mul_any _ _ _ yn xd (HYN.out.kept (hKwW.trans (by repeat (first | assumption | exact Kept.refl _ | apply Kept.drew | apply Kept.drewN | apply Kept.alloc | refine Kept.trans ?_ (by assumption))))) (HXD.out.kept (hKwW.trans (by repeat (first | assumption | exact Kept.refl _ | apply Kept.drew | apply Kept.drewN | apply Kept.alloc | refine Kept.trans ?_ (by assumption))))) HB2.out).mono ?_; rintro e w5 ⟨v5, rfl, hz5, hk5⟩; obtain ⟨m5, a5, l5, c5, rfl⟩ := hz5.shape)
  go_wp2_with fail
  refine hK2.out _ _ ?_ (fun hHeld => ?_)
  · (try dsimp only)
    exact ⟨Kept.cellSome (w := W) (by repeat (first | assumption | exact Kept.refl _ | apply Kept.drew | apply Kept.drewN | apply Kept.alloc | refine Kept.trans ?_ (by assumption))) p0, Kept.cellSome (w := W) (by repeat (first | assumption | exact Kept.refl _ | apply Kept.drew | apply Kept.drewN | apply Kept.alloc | refine Kept.trans ?_ (by assumption))) p1, Kept.cellSome (w := W) (by repeat (first | assumption | exact Kept.refl _ | apply Kept.drew | apply Kept.drewN | apply Kept.alloc | refine Kept.trans ?_ (by assumption))) p2, Kept.cellSome (w := W) (by repeat (first | assumption | exact Kept.refl _ | apply Kept.drew | apply Kept.drewN | apply Kept.alloc | refine Kept.trans ?_ (by assumption))) p3, Kept.cellSome (w := W) (by repeat (first | assumption | exact Kept.refl _ | apply Kept.drew | apply Kept.drewN | apply Kept.alloc | refine Kept.trans ?_ (by assumption))) q0, Kept.cellSome (w := W) (by repeat (first | assumption | exact Kept.refl _ | apply Kept.drew | apply Kept.drewN | apply Kept.alloc | refine Kept.trans ?_ (by assumption))) q1, Kept.cellSome (w := W) (by repeat (first | assumption | exact Kept.refl _ | apply Kept.drew | apply Kept.drewN | apply Kept.alloc | refine Kept.trans ?_ (by assumption))) q2, Kept.cellSome (w := W) (by repeat (first | assumption | exact Kept.refl _ | apply Kept.drew | apply Kept.drewN | apply Kept.alloc | refine Kept.trans ?_ (by assumption))) q3, hKwW.trans (by repeat (first | assumption | exact Kept.refl _ | apply Kept.drew | apply Kept.drewN | apply Kept.alloc | refine Kept.trans ?_ (by assumption)))⟩
  clear hK2 K2
  (try simp only [Act.put, List.setIfInBounds_toArray, List.set_cons_zero, List.set_cons_succ])
  refine wpAnyH_ready (rs := [10]) (by kernel_rfl) (by simp) ?_
  refine AllReadyH.cons (o := { dst := some 15, op := Go.Op.call { callee := Go.Callee.value (Go.Operand.func 63), args := #[Go.Operand.tmp 9, Go.Operand.tmp 14], argTypes := #[60, 60] }, type := 60, pos := "big.go:203", after := #[{ on := 4, ground := Go.Ground.data }, { on := 9, ground := Go.Ground.data }, { on := 9, ground := Go.Ground.chain }], guard := none }) rfl (fun K2 hK2 => ?_) AllReadyH.nil
  go_simp
  (go_at_call 63; refine (Add_any _ _ _ (xn * yd) (yn * xd) (hz4.kept (by repeat (first | assumption | exact Kept.refl _ | apply Kept.drew | apply Kept.drewN | apply Kept.alloc | refine Kept.trans ?_ (by assumption)))) (hz5.kept (by repeat (first | assumption | exact Kept.refl _ | apply Kept.drew | apply Kept.drewN | apply Kept.alloc | refine Kept.trans ?_ (by assumption)))) HB3.out).mono ?_; rintro e w6 ⟨v6, rfl, hz6, hk6⟩; obtain ⟨m6, a6, l6, c6, rfl⟩ := hz6.shape)
  go_wp2_with fail
  refine hK2.out _ _ ?_ (fun hHeld => ?_)
  · (try dsimp only)
    exact ⟨Kept.cellSome (w := W) (by repeat (first | assumption | exact Kept.refl _ | apply Kept.drew | apply Kept.drewN | apply Kept.alloc | refine Kept.trans ?_ (by assumption))) p0, Kept.cellSome (w := W) (by repeat (first | assumption | exact Kept.refl _ | apply Kept.drew | apply Kept.drewN | apply Kept.alloc | refine Kept.trans ?_ (by assumption))) p1, Kept.cellSome (w := W) (by repeat (first | assumption | exact Kept.refl _ | apply Kept.drew | apply Kept.drewN | apply Kept.alloc | refine Kept.trans ?_ (by assumption))) p2, Kept.cellSome (w := W) (by repeat (first | assumption | exact Kept.refl _ | apply Kept.drew | apply Kept.drewN | apply Kept.alloc | refine Kept.trans ?_ (by assumption))) p3, Kept.cellSome (w := W) (by repeat (first | assumption | exact Kept.refl _ | apply Kept.drew | apply Kept.drewN | apply Kept.alloc | refine Kept.trans ?_ (by assumption))) q0, Kept.cellSome (w := W) (by repeat (first | assumption | exact Kept.refl _ | apply Kept.drew | apply Kept.drewN | apply Kept.alloc | refine Kept.trans ?_ (by assumption))) q1, Kept.cellSome (w := W) (by repeat (first | assumption | exact Kept.refl _ | apply Kept.drew | apply Kept.drewN | apply Kept.alloc | refine Kept.trans ?_ (by assumption))) q2, Kept.cellSome (w := W) (by repeat (first | assumption | exact Kept.refl _ | apply Kept.drew | apply Kept.drewN | apply Kept.alloc | refine Kept.trans ?_ (by assumption))) q3, hKwW.trans (by repeat (first | assumption | exact Kept.refl _ | apply Kept.drew | apply Kept.drewN | apply Kept.alloc | refine Kept.trans ?_ (by assumption)))⟩
  clear hK2 K2
  (try simp only [Act.put, List.setIfInBounds_toArray, List.set_cons_zero, List.set_cons_succ])
  refine wpAnyH_ready (rs := [15]) (by kernel_rfl) (by simp) ?_
  refine AllReadyH.cons (o := { dst := some 20, op := Go.Op.call { callee := Go.Callee.value (Go.Operand.func 89), args := #[Go.Operand.tmp 17, Go.Operand.tmp 19], argTypes := #[60, 60] }, type := 60, pos := "big.go:203", after := #[{ on := 12, ground := Go.Ground.data }, { on := 14, ground := Go.Ground.data }, { on := 10, ground := Go.Ground.chain }], guard := none }) rfl (fun K2 hK2 => ?_) AllReadyH.nil
  go_simp
  (go_at_call 89; refine (Mul_any _ _ _ xd yd (HXD.out.kept (hKwW.trans (by repeat (first | assumption | exact Kept.refl _ | apply Kept.drew | apply Kept.drewN | apply Kept.alloc | refine Kept.trans ?_ (by assumption))))) (HYD.out.kept (hKwW.trans (by repeat (first | assumption | exact Kept.refl _ | apply Kept.drew | apply Kept.drewN | apply Kept.alloc | refine Kept.trans ?_ (by assumption))))) HB4.out).mono ?_; rintro e w7 ⟨v7, rfl, hz7, hk7⟩; obtain ⟨m7, a7, l7, c7, rfl⟩ := hz7.shape)
  go_wp2_with fail
  refine hK2.out _ _ ?_ (fun hHeld => ?_)
  · (try dsimp only)
    exact ⟨Kept.cellSome (w := W) (by repeat (first | assumption | exact Kept.refl _ | apply Kept.drew | apply Kept.drewN | apply Kept.alloc | refine Kept.trans ?_ (by assumption))) p0, Kept.cellSome (w := W) (by repeat (first | assumption | exact Kept.refl _ | apply Kept.drew | apply Kept.drewN | apply Kept.alloc | refine Kept.trans ?_ (by assumption))) p1, Kept.cellSome (w := W) (by repeat (first | assumption | exact Kept.refl _ | apply Kept.drew | apply Kept.drewN | apply Kept.alloc | refine Kept.trans ?_ (by assumption))) p2, Kept.cellSome (w := W) (by repeat (first | assumption | exact Kept.refl _ | apply Kept.drew | apply Kept.drewN | apply Kept.alloc | refine Kept.trans ?_ (by assumption))) p3, Kept.cellSome (w := W) (by repeat (first | assumption | exact Kept.refl _ | apply Kept.drew | apply Kept.drewN | apply Kept.alloc | refine Kept.trans ?_ (by assumption))) q0, Kept.cellSome (w := W) (by repeat (first | assumption | exact Kept.refl _ | apply Kept.drew | apply Kept.drewN | apply Kept.alloc | refine Kept.trans ?_ (by assumption))) q1, Kept.cellSome (w := W) (by repeat (first | assumption | exact Kept.refl _ | apply Kept.drew | apply Kept.drewN | apply Kept.alloc | refine Kept.trans ?_ (by assumption))) q2, Kept.cellSome (w := W) (by repeat (first | assumption | exact Kept.refl _ | apply Kept.drew | apply Kept.drewN | apply Kept.alloc | refine Kept.trans ?_ (by assumption))) q3, hKwW.trans (by repeat (first | assumption | exact Kept.refl _ | apply Kept.drew | apply Kept.drewN | apply Kept.alloc | refine Kept.trans ?_ (by assumption)))⟩
  clear hK2 K2
  (try simp only [Act.put, List.setIfInBounds_toArray, List.set_cons_zero, List.set_cons_succ])
  refine wpAnyH_take (i := 16) (oi := { dst := some 21, op := Go.Op.build 64 #[(0, Go.Operand.tmp 15), (1, Go.Operand.tmp 20)], type := 64, pos := "big.go:203", after := #[{ on := 10, ground := Go.Ground.data }, { on := 15, ground := Go.Ground.data }], guard := none }) (v := ?v56) rfl (by kernel_rfl) (by kernel_rfl) (by kernel_rfl) (fun _ _ _ h => h) (Or.inl ⟨by rfl, ?hy56⟩) (by assumption) ?rs56
  case hy56 =>
    intro w hSw
    (try dsimp only at hSw)
    go_simp
    try with_reducible rfl
  (try simp only [Act.put, List.setIfInBounds_toArray, List.set_cons_zero, List.set_cons_succ])
  have hKW6 : Kept W w7 := (by repeat (first | assumption | exact Kept.refl _ | apply Kept.drew | apply Kept.drewN | apply Kept.alloc | refine Kept.trans ?_ (by assumption)))
  have hR6 := hKW6.row HRr.out
  have hZ6 := hKW6.row HZ0.out
  have hY6 := hKW6.row HZ1.out
  obtain ⟨f0, f1, f2, f3, f4, f5, f6, f7⟩ := bx4_cells hR6
  have hRF := bx4_set hR6 (.bool m6) (.slice a6 l6 c6) (.bool m7) (.slice a7 l7 c7)
  have hZF := ((((hZ6.setOther (a := ⟨r0, 0, none⟩) hzr (.bool m6)).setOther (a := ⟨r0, 1, none⟩) hzr (.slice a6 l6 c6)).setOther (a := ⟨r0, 2, none⟩) hzr (.bool m7)).setOther (a := ⟨r0, 3, none⟩) hzr (.slice a7 l7 c7))
  have hYF := ((((hY6.setOther (a := ⟨r0, 0, none⟩) hyr (.bool m6)).setOther (a := ⟨r0, 1, none⟩) hyr (.slice a6 l6 c6)).setOther (a := ⟨r0, 2, none⟩) hyr (.bool m7)).setOther (a := ⟨r0, 3, none⟩) hyr (.slice a7 l7 c7))
  have hKF : Kept w ((((w7.setCell ⟨r0, 0, none⟩ (.bool m6)).setCell ⟨r0, 1, none⟩ (.slice a6 l6 c6)).setCell ⟨r0, 2, none⟩ (.bool m7)).setCell ⟨r0, 3, none⟩ (.slice a7 l7 c7)) := ((((hKwW.trans hKW6).setCell hrw _).setCell hrw _).setCell hrw _).setCell hrw _
  have hX : KeptX (fun k => k = r0) w7 ((((w7.setCell ⟨r0, 0, none⟩ (.bool m6)).setCell ⟨r0, 1, none⟩ (.slice a6 l6 c6)).setCell ⟨r0, 2, none⟩ (.bool m7)).setCell ⟨r0, 3, none⟩ (.slice a7 l7 c7)) := ((((KeptX.refl (fun k => k = r0) w7).setIn 0 _).setIn 1 _).setIn 2 _).setIn 3 _
  have HN7 := Lib.hid ((hz6.kept (by repeat (first | assumption | exact Kept.refl _ | apply Kept.drew | apply Kept.drewN | apply Kept.alloc | refine Kept.trans ?_ (by assumption))) : ZAt w7 _ _).keptBoxN hX hR6 (bx4_noint _ _ _ _ _ _ _ _))
  have HD7 := Lib.hid ((hz7.kept (by repeat (first | assumption | exact Kept.refl _ | apply Kept.drew | apply Kept.drewN | apply Kept.alloc | refine Kept.trans ?_ (by assumption))) : ZAt w7 _ _).keptBoxN hX hR6 (bx4_noint _ _ _ _ _ _ _ _))
  obtain ⟨g0, g1, g2, g3, _⟩ := bx4_cells hRF
  obtain ⟨s0, s1, s2, s3, _⟩ := bx4_cells hZF
  obtain ⟨s4, s5, s6, s7, _⟩ := bx4_cells hYF
  clear hR6 hZ6 hY6 hRF hZF hYF hX
  refine wpAnyH_ready (rs := [17]) (by kernel_rfl) (by simp) ?_
  refine AllReadyH.cons (o := { dst := none, op := Go.Op.store 64 (Go.Operand.tmp 4) (Go.Operand.tmp 21), type := 0, pos := "big.go:203", after := #[{ on := 16, ground := Go.Ground.data }, { on := 15, ground := Go.Ground.chain }, { on := 0, ground := Go.Ground.phase }, { on := 1, ground := Go.Ground.phase }, { on := 2, ground := Go.Ground.phase }, { on := 3, ground := Go.Ground.phase }, { on := 4, ground := Go.Ground.phase }, { on := 5, ground := Go.Ground.phase }, { on := 6, ground := Go.Ground.phase }, { on := 7, ground := Go.Ground.phase }, { on := 8, ground := Go.Ground.phase }, { on := 9, ground := Go.Ground.phase }, { on := 10, ground := Go.Ground.phase }, { on := 11, ground := Go.Ground.phase }, { on := 12, ground := Go.Ground.phase }, { on := 13, ground := Go.Ground.phase }, { on := 14, ground := Go.Ground.phase }, { on := 15, ground := Go.Ground.phase }, { on := 16, ground := Go.Ground.phase }], guard := none }) rfl (fun K2 hK2 => ?_) AllReadyH.nil
  go_simp
  refine hK2.out _ _ ?_ (fun hHeld => ?_)
  · (try dsimp only)
    exact ⟨s0, s1, s2, s3, s4, s5, s6, s7, hKF⟩
  generalize ((((w7.setCell ⟨r0, 0, none⟩ (.bool m6)).setCell ⟨r0, 1, none⟩ (.slice a6 l6 c6)).setCell ⟨r0, 2, none⟩ (.bool m7)).setCell ⟨r0, 3, none⟩ (.slice a7 l7 c7)) = WF at *
  clear hK2 K2
  (try simp only [Act.put, List.setIfInBounds_toArray, List.set_cons_zero, List.set_cons_succ])
  refine wpAnyH_done (by kernel_rfl) ?_ _
  go_wp2_with fail
  exact bodyPost_ret (v := .agg #[.bool m6, .slice a6 l6 c6, .bool m7, .slice a7 l7 c7]) (by simp [results, Try.results66, go_sem, g0, g1, g2, g3]) rfl ⟨_, rfl, ⟨m6, _, m7, _, rfl, HN7.out, HD7.out⟩, hKF⟩
set_option maxRecDepth 100000 in
set_option maxHeartbeats 16000000 in
theorem CmpQ_any (w : World) (u v : Value) (xn xd yn yd : Int) (hX : QAt w u xn xd) (hY : QAt w v yn yd) (hB1 : Big (xn * yd)) (hB2 : Big (yn * xd)) (hB3 : Big (xn * yd - yn * xd)) :
    Calls Try.prog 68 #[u, v] w fun e w' => e = .returned (.int .i64 (cmpI (xn * yd) (yn * xd))) ∧ Kept w w' := by
  have HB3 := Lib.hid hB3
  clear hB3
  obtain ⟨mx, ax, lx, cx, nx, bx0, kx, dx, rfl, hxn, hxd⟩ := hX.shape
  obtain ⟨my, ay, ly, cy, ny, by0, ky, dy, rfl, hyn, hyd⟩ := hY.shape
  have HXN := Lib.hid hxn
  have HXD := Lib.hid hxd
  have HYN := Lib.hid hyn
  have HYD := Lib.hid hyd
  have HB1 := Lib.hid hB1
  have HB2 := Lib.hid hB2
  clear hX hY hxn hxd hyn hyd hB1 hB2
  go_enter Try.func68, Try.ntmps68
  go_wp2_with fail
  have hA0 := box_row4 w (.bool mx) (.slice ax lx cx) (.bool nx) (.slice bx0 kx dx) 64 w.heap.size rfl
  have hA1 := box_row4 (w.alloc (.cells #[.bool mx, .slice ax lx cx, .bool nx, .slice bx0 kx dx] 64)) (.bool my) (.slice ay ly cy) (.bool ny) (.slice by0 ky dy) 64 (w.heap.size + 1) (by simp)
  have hB0 := ((Kept.refl _).alloc (.cells #[.bool my, .slice ay ly cy, .bool ny, .slice by0 ky dy] 64)).row hA0
  have hB1 := hA1
  have hKwW : Kept w ((w.alloc (.cells #[.bool mx, .slice ax lx cx, .bool nx, .slice bx0 kx dx] 64)).alloc (.cells #[.bool my, .slice ay ly cy, .bool ny, .slice by0 ky dy] 64)) := ((Kept.refl w).alloc _).alloc _
  generalize ((w.alloc (.cells #[.bool mx, .slice ax lx cx, .bool nx, .slice bx0 kx dx] 64)).alloc (.cells #[.bool my, .slice ay ly cy, .bool ny, .slice by0 ky dy] 64)) = W at *
  obtain ⟨z1, HZZ1⟩ : ∃ z1, Hid (z1 = w.heap.size + 1) := ⟨_, rfl⟩
  obtain ⟨z0, HZZ0⟩ : ∃ z0, Hid (z0 = w.heap.size) := ⟨_, rfl⟩
  rw [← HZZ1.out] at hB1 ⊢
  rw [← HZZ0.out] at hB0 ⊢
  have HZ0 := Lib.hid hB0
  have HZ1 := Lib.hid hB1
  obtain ⟨p0, p1, p2, p3, _⟩ := bx4_cells hB0
  obtain ⟨q0, q1, q2, q3, _⟩ := bx4_cells hB1
  clear hA0 hA1 hB0 hB1
  try go_wp2_with fail
  refine wp_region_held_drew (S := (fun w' => w'.cell? ⟨z0, 0, none⟩ = some (.bool mx) ∧ w'.cell? ⟨z0, 1, none⟩ = some (.slice ax lx cx) ∧ w'.cell? ⟨z0, 2, none⟩ = some (.bool nx) ∧ w'.cell? ⟨z0, 3, none⟩ = some (.slice bx0 kx dx) ∧ w'.cell? ⟨z1, 0, none⟩ = some (.bool my) ∧ w'.cell? ⟨z1, 1, none⟩ = some (.slice ay ly cy) ∧ w'.cell? ⟨z1, 2, none⟩ = some (.bool ny) ∧ w'.cell? ⟨z1, 3, none⟩ = some (.slice by0 ky dy) ∧ Kept w w')) (by kernel_rfl) ?_ (fun hHeld => ?_)
  · (try dsimp only)
    exact ⟨Kept.cellSome (w := W) (by repeat (first | assumption | exact Kept.refl _ | apply Kept.drew | apply Kept.drewN | apply Kept.alloc | refine Kept.trans ?_ (by assumption))) p0, Kept.cellSome (w := W) (by repeat (first | assumption | exact Kept.refl _ | apply Kept.drew | apply Kept.drewN | apply Kept.alloc | refine Kept.trans ?_ (by assumption))) p1, Kept.cellSome (w := W) (by repeat (first | assumption | exact Kept.refl _ | apply Kept.drew | apply Kept.drewN | apply Kept.alloc | refine Kept.trans ?_ (by assumption))) p2, Kept.cellSome (w := W) (by repeat (first | assumption | exact Kept.refl _ | apply Kept.drew | apply Kept.drewN | apply Kept.alloc | refine Kept.trans ?_ (by assumption))) p3, Kept.cellSome (w := W) (by repeat (first | assumption | exact Kept.refl _ | apply Kept.drew | apply Kept.drewN | apply Kept.alloc | refine Kept.trans ?_ (by assumption))) q0, Kept.cellSome (w := W) (by repeat (first | assumption | exact Kept.refl _ | apply Kept.drew | apply Kept.drewN | apply Kept.alloc | refine Kept.trans ?_ (by assumption))) q1, Kept.cellSome (w := W) (by repeat (first | assumption | exact Kept.refl _ | apply Kept.drew | apply Kept.drewN | apply Kept.alloc | refine Kept.trans ?_ (by assumption))) q2, Kept.cellSome (w := W) (by repeat (first | assumption | exact Kept.refl _ | apply Kept.drew | apply Kept.drewN | apply Kept.alloc | refine Kept.trans ?_ (by assumption))) q3, hKwW.trans (by repeat (first | assumption | exact Kept.refl _ | apply Kept.drew | apply Kept.drewN | apply Kept.alloc | refine Kept.trans ?_ (by assumption)))⟩
  refine wpAnyH_take (i := 0) (oi := { dst := some 5, op := Go.Op.fieldAddr 64 (Go.Operand.tmp 2) 0, type := 0, pos := "big.go:209", after := #[], guard := none }) (v := ?v57) rfl (by kernel_rfl) (by kernel_rfl) (by kernel_rfl) (fun _ _ _ h => h) (Or.inl ⟨by rfl, ?hy57⟩) (by assumption) ?rs57
  case hy57 =>
    intro w hSw
    (try dsimp only at hSw)
    go_simp
    try with_reducible rfl
  (try simp only [Act.put, List.setIfInBounds_toArray, List.set_cons_zero, List.set_cons_succ])
  refine wpAnyH_take (i := 1) (oi := { dst := some 6, op := Go.Op.load 60 (Go.Operand.tmp 5), type := 60, pos := "big.go:209", after := #[{ on := 0, ground := Go.Ground.data }], guard := none }) (v := ?v58) rfl (by kernel_rfl) (by kernel_rfl) (by kernel_rfl) (fun _ _ _ h => h) (Or.inl ⟨by rfl, ?hy58⟩) (by assumption) ?rs58
  case hy58 =>
    intro w hSw
    (try dsimp only at hSw)
    go_simp
    try with_reducible rfl
  (try simp only [Act.put, List.setIfInBounds_toArray, List.set_cons_zero, List.set_cons_succ])
  refine wpAnyH_take (i := 2) (oi := { dst := some 7, op := Go.Op.fieldAddr 64 (Go.Operand.tmp 3) 1, type := 0, pos := "big.go:209", after := #[], guard := none }) (v := ?v59) rfl (by kernel_rfl) (by kernel_rfl) (by kernel_rfl) (fun _ _ _ h => h) (Or.inl ⟨by rfl, ?hy59⟩) (by assumption) ?rs59
  case hy59 =>
    intro w hSw
    (try dsimp only at hSw)
    go_simp
    try with_reducible rfl
  (try simp only [Act.put, List.setIfInBounds_toArray, List.set_cons_zero, List.set_cons_succ])
  refine wpAnyH_take (i := 3) (oi := { dst := some 8, op := Go.Op.load 60 (Go.Operand.tmp 7), type := 60, pos := "big.go:209", after := #[{ on := 2, ground := Go.Ground.data }], guard := none }) (v := ?v60) rfl (by kernel_rfl) (by kernel_rfl) (by kernel_rfl) (fun _ _ _ h => h) (Or.inl ⟨by rfl, ?hy60⟩) (by assumption) ?rs60
  case hy60 =>
    intro w hSw
    (try dsimp only at hSw)
    go_simp
    try with_reducible rfl
  (try simp only [Act.put, List.setIfInBounds_toArray, List.set_cons_zero, List.set_cons_succ])
  refine wpAnyH_take (i := 5) (oi := { dst := some 10, op := Go.Op.fieldAddr 64 (Go.Operand.tmp 3) 0, type := 0, pos := "big.go:209", after := #[], guard := none }) (v := ?v61) rfl (by kernel_rfl) (by kernel_rfl) (by kernel_rfl) (fun _ _ _ h => h) (Or.inl ⟨by rfl, ?hy61⟩) (by assumption) ?rs61
  case hy61 =>
    intro w hSw
    (try dsimp only at hSw)
    go_simp
    try with_reducible rfl
  (try simp only [Act.put, List.setIfInBounds_toArray, List.set_cons_zero, List.set_cons_succ])
  refine wpAnyH_take (i := 6) (oi := { dst := some 11, op := Go.Op.load 60 (Go.Operand.tmp 10), type := 60, pos := "big.go:209", after := #[{ on := 5, ground := Go.Ground.data }], guard := none }) (v := ?v62) rfl (by kernel_rfl) (by kernel_rfl) (by kernel_rfl) (fun _ _ _ h => h) (Or.inl ⟨by rfl, ?hy62⟩) (by assumption) ?rs62
  case hy62 =>
    intro w hSw
    (try dsimp only at hSw)
    go_simp
    try with_reducible rfl
  (try simp only [Act.put, List.setIfInBounds_toArray, List.set_cons_zero, List.set_cons_succ])
  refine wpAnyH_take (i := 7) (oi := { dst := some 12, op := Go.Op.fieldAddr 64 (Go.Operand.tmp 2) 1, type := 0, pos := "big.go:209", after := #[], guard := none }) (v := ?v63) rfl (by kernel_rfl) (by kernel_rfl) (by kernel_rfl) (fun _ _ _ h => h) (Or.inl ⟨by rfl, ?hy63⟩) (by assumption) ?rs63
  case hy63 =>
    intro w hSw
    (try dsimp only at hSw)
    go_simp
    try with_reducible rfl
  (try simp only [Act.put, List.setIfInBounds_toArray, List.set_cons_zero, List.set_cons_succ])
  refine wpAnyH_take (i := 8) (oi := { dst := some 13, op := Go.Op.load 60 (Go.Operand.tmp 12), type := 60, pos := "big.go:209", after := #[{ on := 7, ground := Go.Ground.data }], guard := none }) (v := ?v64) rfl (by kernel_rfl) (by kernel_rfl) (by kernel_rfl) (fun _ _ _ h => h) (Or.inl ⟨by rfl, ?hy64⟩) (by assumption) ?rs64
  case hy64 =>
    intro w hSw
    (try dsimp only at hSw)
    go_simp
    try with_reducible rfl
  (try simp only [Act.put, List.setIfInBounds_toArray, List.set_cons_zero, List.set_cons_succ])
  refine wpAnyH_ready (rs := [4]) (by kernel_rfl) (by simp) ?_
  refine AllReadyH.cons (o := { dst := some 9, op := Go.Op.call { callee := Go.Callee.value (Go.Operand.func 89), args := #[Go.Operand.tmp 6, Go.Operand.tmp 8], argTypes := #[60, 60] }, type := 60, pos := "big.go:209", after := #[{ on := 1, ground := Go.Ground.data }, { on := 3, ground := Go.Ground.data }], guard := none }) rfl (fun K2 hK2 => ?_) AllReadyH.nil
  go_simp
  (go_at_call 89; refine (Mul_any _ _ _ xn yd (HXN.out.kept (hKwW.trans (by repeat (first | assumption | exact Kept.refl _ | apply Kept.drew | apply Kept.drewN | apply Kept.alloc | refine Kept.trans ?_ (by assumption))))) (HYD.out.kept (hKwW.trans (by repeat (first | assumption | exact Kept.refl _ | apply Kept.drew | apply Kept.drewN | apply Kept.alloc | refine Kept.trans ?_ (by assumption))))) HB1.out).mono ?_; rintro e w4 ⟨v4, rfl, hz4, hk4⟩; obtain ⟨m4, a4, l4, c4, rfl⟩ := hz4.shape)
  go_wp2_with fail
  refine hK2.out _ _ ?_ (fun hHeld => ?_)
  · (try dsimp only)
    exact ⟨Kept.cellSome (w := W) (by repeat (first | assumption | exact Kept.refl _ | apply Kept.drew | apply Kept.drewN | apply Kept.alloc | refine Kept.trans ?_ (by assumption))) p0, Kept.cellSome (w := W) (by repeat (first | assumption | exact Kept.refl _ | apply Kept.drew | apply Kept.drewN | apply Kept.alloc | refine Kept.trans ?_ (by assumption))) p1, Kept.cellSome (w := W) (by repeat (first | assumption | exact Kept.refl _ | apply Kept.drew | apply Kept.drewN | apply Kept.alloc | refine Kept.trans ?_ (by assumption))) p2, Kept.cellSome (w := W) (by repeat (first | assumption | exact Kept.refl _ | apply Kept.drew | apply Kept.drewN | apply Kept.alloc | refine Kept.trans ?_ (by assumption))) p3, Kept.cellSome (w := W) (by repeat (first | assumption | exact Kept.refl _ | apply Kept.drew | apply Kept.drewN | apply Kept.alloc | refine Kept.trans ?_ (by assumption))) q0, Kept.cellSome (w := W) (by repeat (first | assumption | exact Kept.refl _ | apply Kept.drew | apply Kept.drewN | apply Kept.alloc | refine Kept.trans ?_ (by assumption))) q1, Kept.cellSome (w := W) (by repeat (first | assumption | exact Kept.refl _ | apply Kept.drew | apply Kept.drewN | apply Kept.alloc | refine Kept.trans ?_ (by assumption))) q2, Kept.cellSome (w := W) (by repeat (first | assumption | exact Kept.refl _ | apply Kept.drew | apply Kept.drewN | apply Kept.alloc | refine Kept.trans ?_ (by assumption))) q3, hKwW.trans (by repeat (first | assumption | exact Kept.refl _ | apply Kept.drew | apply Kept.drewN | apply Kept.alloc | refine Kept.trans ?_ (by assumption)))⟩
  clear hK2 K2
  (try simp only [Act.put, List.setIfInBounds_toArray, List.set_cons_zero, List.set_cons_succ])
  refine wpAnyH_ready (rs := [9]) (by kernel_rfl) (by simp) ?_
  refine AllReadyH.cons (o := { dst := some 14, op := Go.Op.call { callee := Go.Callee.value (Go.Operand.func 89), args := #[Go.Operand.tmp 11, Go.Operand.tmp 13], argTypes := #[60, 60] }, type := 60, pos := "big.go:209", after := #[{ on := 6, ground := Go.Ground.data }, { on := 8, ground := Go.Ground.data }, { on := 4, ground := Go.Ground.chain }], guard := none }) rfl (fun K2 hK2 => ?_) AllReadyH.nil
  go_simp
  (go_at_call 89; refine (Mul_any _ _ _ yn xd (HYN.out.kept (hKwW.trans (by repeat (first | assumption | exact Kept.refl _ | apply Kept.drew | apply Kept.drewN | apply Kept.alloc | refine Kept.trans ?_ (by assumption))))) (HXD.out.kept (hKwW.trans (by repeat (first | assumption | exact Kept.refl _ | apply Kept.drew | apply Kept.drewN | apply Kept.alloc | refine Kept.trans ?_ (by assumption))))) HB2.out).mono ?_; rintro e w5 ⟨v5, rfl, hz5, hk5⟩; obtain ⟨m5, a5, l5, c5, rfl⟩ := hz5.shape)
  go_wp2_with fail
  refine hK2.out _ _ ?_ (fun hHeld => ?_)
  · (try dsimp only)
    exact ⟨Kept.cellSome (w := W) (by repeat (first | assumption | exact Kept.refl _ | apply Kept.drew | apply Kept.drewN | apply Kept.alloc | refine Kept.trans ?_ (by assumption))) p0, Kept.cellSome (w := W) (by repeat (first | assumption | exact Kept.refl _ | apply Kept.drew | apply Kept.drewN | apply Kept.alloc | refine Kept.trans ?_ (by assumption))) p1, Kept.cellSome (w := W) (by repeat (first | assumption | exact Kept.refl _ | apply Kept.drew | apply Kept.drewN | apply Kept.alloc | refine Kept.trans ?_ (by assumption))) p2, Kept.cellSome (w := W) (by repeat (first | assumption | exact Kept.refl _ | apply Kept.drew | apply Kept.drewN | apply Kept.alloc | refine Kept.trans ?_ (by assumption))) p3, Kept.cellSome (w := W) (by repeat (first | assumption | exact Kept.refl _ | apply Kept.drew | apply Kept.drewN | apply Kept.alloc | refine Kept.trans ?_ (by assumption))) q0, Kept.cellSome (w := W) (by repeat (first | assumption | exact Kept.refl _ | apply Kept.drew | apply Kept.drewN | apply Kept.alloc | refine Kept.trans ?_ (by assumption))) q1, Kept.cellSome (w := W) (by repeat (first | assumption | exact Kept.refl _ | apply Kept.drew | apply Kept.drewN | apply Kept.alloc | refine Kept.trans ?_ (by assumption))) q2, Kept.cellSome (w := W) (by repeat (first | assumption | exact Kept.refl _ | apply Kept.drew | apply Kept.drewN | apply Kept.alloc | refine Kept.trans ?_ (by assumption))) q3, hKwW.trans (by repeat (first | assumption | exact Kept.refl _ | apply Kept.drew | apply Kept.drewN | apply Kept.alloc | refine Kept.trans ?_ (by assumption)))⟩
  clear hK2 K2
  (try simp only [Act.put, List.setIfInBounds_toArray, List.set_cons_zero, List.set_cons_succ])
  refine wpAnyH_ready (rs := [10]) (by kernel_rfl) (by simp) ?_
  refine AllReadyH.cons (o := { dst := some 15, op := Go.Op.call { callee := Go.Callee.value (Go.Operand.func 90), args := #[Go.Operand.tmp 9, Go.Operand.tmp 14], argTypes := #[60, 60] }, type := 3, pos := "big.go:209", after := #[{ on := 4, ground := Go.Ground.data }, { on := 9, ground := Go.Ground.data }, { on := 9, ground := Go.Ground.chain }], guard := none }) rfl (fun K2 hK2 => ?_) AllReadyH.nil
  go_simp
  (go_at_call 90; refine (Cmp_any _ _ _ (xn * yd) (yn * xd) (hz4.kept (by repeat (first | assumption | exact Kept.refl _ | apply Kept.drew | apply Kept.drewN | apply Kept.alloc | refine Kept.trans ?_ (by assumption)))) (hz5.kept (by repeat (first | assumption | exact Kept.refl _ | apply Kept.drew | apply Kept.drewN | apply Kept.alloc | refine Kept.trans ?_ (by assumption)))) HB3.out).mono ?_; rintro e w6 ⟨rfl, hk6⟩)
  go_wp2_with fail
  refine hK2.out _ _ ?_ (fun hHeld => ?_)
  · (try dsimp only)
    exact ⟨Kept.cellSome (w := W) (by repeat (first | assumption | exact Kept.refl _ | apply Kept.drew | apply Kept.drewN | apply Kept.alloc | refine Kept.trans ?_ (by assumption))) p0, Kept.cellSome (w := W) (by repeat (first | assumption | exact Kept.refl _ | apply Kept.drew | apply Kept.drewN | apply Kept.alloc | refine Kept.trans ?_ (by assumption))) p1, Kept.cellSome (w := W) (by repeat (first | assumption | exact Kept.refl _ | apply Kept.drew | apply Kept.drewN | apply Kept.alloc | refine Kept.trans ?_ (by assumption))) p2, Kept.cellSome (w := W) (by repeat (first | assumption | exact Kept.refl _ | apply Kept.drew | apply Kept.drewN | apply Kept.alloc | refine Kept.trans ?_ (by assumption))) p3, Kept.cellSome (w := W) (by repeat (first | assumption | exact Kept.refl _ | apply Kept.drew | apply Kept.drewN | apply Kept.alloc | refine Kept.trans ?_ (by assumption))) q0, Kept.cellSome (w := W) (by repeat (first | assumption | exact Kept.refl _ | apply Kept.drew | apply Kept.drewN | apply Kept.alloc | refine Kept.trans ?_ (by assumption))) q1, Kept.cellSome (w := W) (by repeat (first | assumption | exact Kept.refl _ | apply Kept.drew | apply Kept.drewN | apply Kept.alloc | refine Kept.trans ?_ (by assumption))) q2, Kept.cellSome (w := W) (by repeat (first | assumption | exact Kept.refl _ | apply Kept.drew | apply Kept.drewN | apply Kept.alloc | refine Kept.trans ?_ (by assumption))) q3, hKwW.trans (by repeat (first | assumption | exact Kept.refl _ | apply Kept.drew | apply Kept.drewN | apply Kept.alloc | refine Kept.trans ?_ (by assumption)))⟩
  clear hK2 K2
  (try simp only [Act.put, List.setIfInBounds_toArray, List.set_cons_zero, List.set_cons_succ])
  refine wpAnyH_take (i := 11) (oi := { dst := some 4, op := Go.Op.assign (Go.Operand.tmp 15), type := 3, pos := "big.go:209", after := #[{ on := 10, ground := Go.Ground.data }, { on := 10, ground := Go.Ground.chain }, { on := 0, ground := Go.Ground.phase }, { on := 1, ground := Go.Ground.phase }, { on := 2, ground := Go.Ground.phase }, { on := 3, ground := Go.Ground.phase }, { on := 4, ground := Go.Ground.phase }, { on := 5, ground := Go.Ground.phase }, { on := 6, ground := Go.Ground.phase }, { on := 7, ground := Go.Ground.phase }, { on := 8, ground := Go.Ground.phase }, { on := 9, ground := Go.Ground.phase }, { on := 10, ground := Go.Ground.phase }], guard := none }) (v := ?v65) rfl (by kernel_rfl) (by kernel_rfl) (by kernel_rfl) (fun _ _ _ h => h) (Or.inl ⟨by rfl, ?hy65⟩) (by assumption) ?rs65
  case hy65 =>
    intro w hSw
    (try dsimp only at hSw)
    go_simp
    try with_reducible rfl
  (try simp only [Act.put, List.setIfInBounds_toArray, List.set_cons_zero, List.set_cons_succ])
  refine wpAnyH_done (by kernel_rfl) ?_ _
  have hKF : Kept w w6 := hKwW.trans (by repeat (first | assumption | exact Kept.refl _ | apply Kept.drew | apply Kept.drewN | apply Kept.alloc | refine Kept.trans ?_ (by assumption)))
  go_wp2_with fail
  go_ret
  exact ⟨rfl, hKF⟩
end Go.Proofs.Ytomnjcjipdnnfaa
