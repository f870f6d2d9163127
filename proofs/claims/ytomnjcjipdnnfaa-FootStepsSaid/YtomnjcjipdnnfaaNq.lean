/-
  The reference's fractions.
-/
import Derived.Test.YtomnjcjipdnnfaaNg
import Derived.Test.YtomnjcjipdnnfaaNf
namespace Go.Proofs.Ytomnjcjipdnnfaa
open Go.RowKit Go.Deep

/-- v is the fraction n / d, as it is written -/
def QAt (w : World) (v : Value) (n d : Int) : Prop := ∃ (m : Bool) (s : Value) (m2 : Bool) (s2 : Value), v = .agg #[.bool m, s, .bool m2, s2] ∧ ZAt w (.agg #[.bool m, s]) n ∧ ZAt w (.agg #[.bool m2, s2]) d
theorem QAt.kept {w w' : World} {v : Value} {n d : Int} (h : QAt w v n d) (k : Kept w w') : QAt w' v n d := by
  obtain ⟨m, s, m2, s2, h1, h2, h3⟩ := h
  exact ⟨m, s, m2, s2, h1, h2.kept k, h3.kept k⟩
theorem QAt.shape {w : World} {v : Value} {n d : Int} (h : QAt w v n d) : ∃ m a l c m2 a2 l2 c2, v = .agg #[.bool m, .slice a l c, .bool m2, .slice a2 l2 c2] ∧ ZAt w (.agg #[.bool m, .slice a l c]) n ∧ ZAt w (.agg #[.bool m2, .slice a2 l2 c2]) d := by
  obtain ⟨m, s, m2, s2, h1, h2, h3⟩ := h
  obtain ⟨p, a, l, c, e⟩ := h2.shape
  obtain ⟨p2, a2, l2, c2, e2⟩ := h3.shape
  injection e with e
  injection e2 with e2
  injection e with e
  injection e2 with e2
  injection e with e4 e5
  injection e5 with e5 _
  injection e2 with e6 e7
  injection e7 with e7 _
  subst e5
  subst e7
  exact ⟨m, a, l, c, m2, a2, l2, c2, h1, h2, h3⟩
def QPost (w : World) (n d : Int) (e : Ending) (w' : World) : Prop := ∃ v, e = .returned v ∧ QAt w' v n d ∧ Kept w w'
def bx4 (x y z u : Value) : Nat → Value := fun i => if i = 0 then x else if i = 1 then y else if i = 2 then z else u
theorem box_row4 (w : World) (x y z u : Value) (t : TypeId) (s : Nat) (hs : w.heap.size = s) : (w.alloc (.cells #[x, y, z, u] t)).rowIs s t 4 (bx4 x y z u) := by
  subst hs
  exact World.rowIs_alloc w #[x, y, z, u] t (bx4 x y z u) (fun j hj => by
    have : j = 0 ∨ j = 1 ∨ j = 2 ∨ j = 3 := by simp at hj; omega
    rcases this with rfl | rfl | rfl | rfl <;> rfl)
theorem bx4_set {w : World} {b : Nat} {t : TypeId} {x y z u : Value} (h : w.rowIs b t 4 (bx4 x y z u)) (x2 y2 z2 u2 : Value) : ((((w.setCell ⟨b, 0, none⟩ x2).setCell ⟨b, 1, none⟩ y2).setCell ⟨b, 2, none⟩ z2).setCell ⟨b, 3, none⟩ u2).rowIs b t 4 (bx4 x2 y2 z2 u2) :=
  ((((h.set 0 x2).set 1 y2).set 2 z2).set 3 u2).congr (fun j hj => by
    have : j = 0 ∨ j = 1 ∨ j = 2 ∨ j = 3 := by omega
    rcases this with rfl | rfl | rfl | rfl <;> simp [bx4])
theorem bx4_cells {w : World} {b : Nat} {t : TypeId} {x y z u : Value} (h : w.rowIs b t 4 (bx4 x y z u)) : w.cell? ⟨b, 0, none⟩ = some x ∧ w.cell? ⟨b, 1, none⟩ = some y ∧ w.cell? ⟨b, 2, none⟩ = some z ∧ w.cell? ⟨b, 3, none⟩ = some u ∧ w.frozen? ⟨b, 0, none⟩ = false ∧ w.frozen? ⟨b, 1, none⟩ = false ∧ w.frozen? ⟨b, 2, none⟩ = false ∧ w.frozen? ⟨b, 3, none⟩ = false :=
  ⟨h.cell (i := 0) (by omega), h.cell (i := 1) (by omega), h.cell (i := 2) (by omega), h.cell (i := 3) (by omega), h.frozen 0, h.frozen 1, h.frozen 2, h.frozen 3⟩
theorem bx4_noint (m : Bool) (a : Option Addr) (l c : Nat) (m2 : Bool) (a2 : Option Addr) (l2 c2 : Nat) : ∀ i, i < 4 → ∀ (k : IntKind) (x : Int), bx4 (.bool m) (.slice a l c) (.bool m2) (.slice a2 l2 c2) i ≠ .int k x := fun i hi k x h => by
  have : i = 0 ∨ i = 1 ∨ i = 2 ∨ i = 3 := by omega
  rcases this with rfl | rfl | rfl | rfl <;> (unfold bx4 at h; simp at h)
/-- no digit lies in a box -/
theorem ZAt.keptBoxN {w w' : World} {v : Value} {z : Int} {r N : Nat} {t : TypeId} {f : Nat → Value} (h : ZAt w v z) (k : KeptX (fun k => k = r) w w') (hr : w.rowIs r t N f) (hf : ∀ i, i < N → ∀ (k : IntKind) (x : Int), f i ≠ .int k x) : ZAt w' v z := by
  obtain ⟨m, s, n, D, h1, ⟨a, cap, e, h2, h3, h4, ⟨a2, g, o, cap2, e2, ha, hc⟩⟩, h5⟩ := h
  refine ⟨m, s, n, D, h1, ⟨a, cap, e, h2, h3, h4, ⟨a2, g, o, cap2, e2, ha, fun i hi => ?_⟩⟩, h5⟩
  have h6 := hc i hi
  refine KeptX.cellSome k h6 (fun hg => ?_)
  simp only at hg
  subst hg
  by_cases h7 : o + i < N
  · rw [hr.cell h7] at h6
    exact hf _ h7 _ _ (Option.some.inj h6)
  · obtain ⟨c, c1, c2, _⟩ := hr
    unfold World.cell? at h6
    simp only [c1] at h6
    rw [Array.getElem?_eq_none (by omega)] at h6
    cases h6
set_option maxRecDepth 100000 in
set_option maxHeartbeats 4000000 in
theorem Whole_any (w : World) (x : Int) (h1 : -9223372036854775808 ≤ x) (h2 : x ≤ 9223372036854775807) :
    Calls Try.prog 65 #[.int .i64 x] w (QPost w x 1) := by
  have hA2 := box_row4 w (.bool false) (.slice none 0 0) (.bool false) (.slice none 0 0) 64 w.heap.size rfl
  have hKwW : Kept w (w.alloc (.cells #[.bool false, .slice none 0 0, .bool false, .slice none 0 0] 64)) := (Kept.refl w).alloc _
  go_enter Try.func65, Try.ntmps65
  go_wp2_with fail
  generalize w.alloc (.cells #[.bool false, .slice none 0 0, .bool false, .slice none 0 0] 64) = W at *
  obtain ⟨r0, HR0⟩ : ∃ r0, Hid (r0 = w.heap.size) := ⟨_, rfl⟩
  rw [← HR0.out] at hA2 ⊢
  have hrw : w.heap.size ≤ r0 := by rw [HR0.out]; exact Nat.le_refl _
  have HRr := Lib.hid hA2
  clear hA2
  refine (Int_any _ x h1 h2).mono ?_
  rintro e w4 ⟨v4, rfl, hz4, hk4⟩
  obtain ⟨m4, a4, l4, c4, rfl⟩ := hz4.shape
  go_wp2_with fail
  refine (Int_any _ 1 (by decide) (by decide)).mono ?_
  rintro e w7 ⟨v7, rfl, hz7, hk7⟩
  obtain ⟨m7, a7, l7, c7, rfl⟩ := hz7.shape
  have hKW6 : Kept W w7 := hk4.trans hk7
  have hR6 := hKW6.row HRr.out
  obtain ⟨f0, f1, f2, f3, f4, f5, f6, f7⟩ := bx4_cells hR6
  have hRF := bx4_set hR6 (.bool m4) (.slice a4 l4 c4) (.bool m7) (.slice a7 l7 c7)
  have hKF : Kept w ((((w7.setCell ⟨r0, 0, none⟩ (.bool m4)).setCell ⟨r0, 1, none⟩ (.slice a4 l4 c4)).setCell ⟨r0, 2, none⟩ (.bool m7)).setCell ⟨r0, 3, none⟩ (.slice a7 l7 c7)) := ((((hKwW.trans hKW6).setCell hrw _).setCell hrw _).setCell hrw _).setCell hrw _
  have hX : KeptX (fun k => k = r0) w7 ((((w7.setCell ⟨r0, 0, none⟩ (.bool m4)).setCell ⟨r0, 1, none⟩ (.slice a4 l4 c4)).setCell ⟨r0, 2, none⟩ (.bool m7)).setCell ⟨r0, 3, none⟩ (.slice a7 l7 c7)) := ((((KeptX.refl (fun k => k = r0) w7).setIn 0 _).setIn 1 _).setIn 2 _).setIn 3 _
  have HN7 := Lib.hid ((hz4.kept hk7).keptBoxN hX hR6 (bx4_noint _ _ _ _ _ _ _ _))
  have HD7 := Lib.hid (hz7.keptBoxN hX hR6 (bx4_noint _ _ _ _ _ _ _ _))
  obtain ⟨g0, g1, g2, g3, _⟩ := bx4_cells hRF
  clear hR6 hRF hX hz4 hz7
  go_wp2_with fail
  generalize ((((w7.setCell ⟨r0, 0, none⟩ (.bool m4)).setCell ⟨r0, 1, none⟩ (.slice a4 l4 c4)).setCell ⟨r0, 2, none⟩ (.bool m7)).setCell ⟨r0, 3, none⟩ (.slice a7 l7 c7)) = WF at *
  exact bodyPost_ret (v := .agg #[.bool m4, .slice a4 l4 c4, .bool m7, .slice a7 l7 c7]) (by simp [results, Try.results65, go_sem, g0, g1, g2, g3]) rfl ⟨_, rfl, ⟨m4, _, m7, _, rfl, HN7.out, HD7.out⟩, hKF⟩
set_option maxRecDepth 100000 in
set_option maxHeartbeats 16000000 in
theorem MulQ_any (w : World) (u v : Value) (xn xd yn yd : Int) (hX : QAt w u xn xd) (hY : QAt w v yn yd) (hB1 : Big (xn * yn)) (hB2 : Big (xd * yd)) :
    Calls Try.prog 69 #[u, v] w (QPost w (xn * yn) (xd * yd)) := by
  obtain ⟨mx, ax, lx, cx, nx, bx0, kx, dx, rfl, hxn, hxd⟩ := hX.shape
  obtain ⟨my, ay, ly, cy, ny, by0, ky, dy, rfl, hyn, hyd⟩ := hY.shape
  have HXN := Lib.hid hxn
  have HXD := Lib.hid hxd
  have HYN := Lib.hid hyn
  have HYD := Lib.hid hyd
  have HB1 := Lib.hid hB1
  have HB2 := Lib.hid hB2
  clear hX hY hxn hxd hyn hyd hB1 hB2
  go_enter Try.func69, Try.ntmps69
  go_wp2_with fail
  have hA0 := box_row4 w (.bool mx) (.slice ax lx cx) (.bool nx) (.slice bx0 kx dx) 64 w.heap.size rfl
  have hA1 := box_row4 (w.alloc (.cells #[.bool mx, .slice ax lx cx, .bool nx, .slice bx0 kx dx] 64)) (.bool my) (.slice ay ly cy) (.bool ny) (.slice by0 ky dy) 64 (w.heap.size + 1) (by simp)
  have hA2 := box_row4 ((w.alloc (.cells #[.bool mx, .slice ax lx cx, .bool nx, .slice bx0 kx dx] 64)).alloc (.cells #[.bool my, .slice ay ly cy, .bool ny, .slice by0 ky dy] 64)) (.bool false) (.slice none 0 0) (.bool false) (.slice none 0 0) 64 (w.heap.size + 1 + 1) (by simp)
  have hB0 := (((Kept.refl _).alloc (.cells #[.bool my, .slice ay ly cy, .bool ny, .slice by0 ky dy] 64)).alloc (.cells #[.bool false, .slice none 0 0, .bool false, .slice none 0 0] 64)).row hA0
  have hB1 := ((Kept.refl _).alloc (.cells #[.bool false, .slice none 0 0, .bool false, .slice none 0 0] 64)).row hA1
  have hKwW : Kept w (((w.alloc (.cells #[.bool mx, .slice ax lx cx, .bool nx, .slice bx0 kx dx] 64)).alloc (.cells #[.bool my, .slice ay ly cy, .bool ny, .slice by0 ky dy] 64)).alloc (.cells #[.bool false, .slice none 0 0, .bool false, .slice none 0 0] 64)) := (((Kept.refl w).alloc _).alloc _).alloc _
  generalize (((w.alloc (.cells #[.bool mx, .slice ax lx cx, .bool nx, .slice bx0 kx dx] 64)).alloc (.cells #[.bool my, .slice ay ly cy, .bool ny, .slice by0 ky dy] 64)).alloc (.cells #[.bool false, .slice none 0 0, .bool false, .slice none 0 0] 64)) = W at *
  obtain ⟨r0, HR0⟩ : ∃ r0, Hid (r0 = w.heap.size + 1 + 1) := ⟨_, rfl⟩
  obtain ⟨z1, HZZ1⟩ : ∃ z1, Hid (z1 = w.heap.size + 1) := ⟨_, rfl⟩
  obtain ⟨z0, HZZ0⟩ : ∃ z0, Hid (z0 = w.heap.size) := ⟨_, rfl⟩
  rw [← HR0.out] at hA2 ⊢
  rw [← HZZ1.out] at hB1 ⊢
  rw [← HZZ0.out] at hB0 ⊢
  have hrw : w.heap.size ≤ r0 := by rw [HR0.out]; omega
  have hzr : z0 ≠ r0 := by rw [HR0.out, HZZ0.out]; omega
  have hyr : z1 ≠ r0 := by rw [HR0.out, HZZ1.out]; omega
  have HRr := Lib.hid hA2
  have HZ0 := Lib.hid hB0
  have HZ1 := Lib.hid hB1
  obtain ⟨p0, p1, p2, p3, _⟩ := bx4_cells hB0
  obtain ⟨q0, q1, q2, q3, _⟩ := bx4_cells hB1
  clear hA0 hA1 hA2 hB0 hB1
  try go_wp2_with fail
  refine wp_region_held_drew (S := (fun w' => w'.cell? ⟨z0, 0, none⟩ = some (.bool mx) ∧ w'.cell? ⟨z0, 1, none⟩ = some (.slice ax lx cx) ∧ w'.cell? ⟨z0, 2, none⟩ = some (.bool nx) ∧ w'.cell? ⟨z0, 3, none⟩ = some (.slice bx0 kx dx) ∧ w'.cell? ⟨z1, 0, none⟩ = some (.bool my) ∧ w'.cell? ⟨z1, 1, none⟩ = some (.slice ay ly cy) ∧ w'.cell? ⟨z1, 2, none⟩ = some (.bool ny) ∧ w'.cell? ⟨z1, 3, none⟩ = some (.slice by0 ky dy) ∧ Kept w w')) (by kernel_rfl) ?_ (fun hHeld => ?_)
  · (try dsimp only)
    exact ⟨Kept.cellSome (w := W) (by repeat (first | assumption | exact Kept.refl _ | apply Kept.drew | apply Kept.drewN | apply Kept.alloc | refine Kept.trans ?_ (by assumption))) p0, Kept.cellSome (w := W) (by repeat (first | assumption | exact Kept.refl _ | apply Kept.drew | apply Kept.drewN | apply Kept.alloc | refine Kept.trans ?_ (by assumption))) p1, Kept.cellSome (w := W) (by repeat (first | assumption | exact Kept.refl _ | apply Kept.drew | apply Kept.drewN | apply Kept.alloc | refine Kept.trans ?_ (by assumption))) p2, Kept.cellSome (w := W) (by repeat (first | assumption | exact Kept.refl _ | apply Kept.drew | apply Kept.drewN | apply Kept.alloc | refine Kept.trans ?_ (by assumption))) p3, Kept.cellSome (w := W) (by repeat (first | assumption | exact Kept.refl _ | apply Kept.drew | apply Kept.drewN | apply Kept.alloc | refine Kept.trans ?_ (by assumption))) q0, Kept.cellSome (w := W) (by repeat (first | assumption | exact Kept.refl _ | apply Kept.drew | apply Kept.drewN | apply Kept.alloc | refine Kept.trans ?_ (by assumption))) q1, Kept.cellSome (w := W) (by repeat (first | assumption | exact Kept.refl _ | apply Kept.drew | apply Kept.drewN | apply Kept.alloc | refine Kept.trans ?_ (by assumption))) q2, Kept.cellSome (w := W) (by repeat (first | assumption | exact Kept.refl _ | apply Kept.drew | apply Kept.drewN | apply Kept.alloc | refine Kept.trans ?_ (by assumption))) q3, hKwW.trans (by repeat (first | assumption | exact Kept.refl _ | apply Kept.drew | apply Kept.drewN | apply Kept.alloc | refine Kept.trans ?_ (by assumption)))⟩
  refine wpAnyH_take (i := 0) (oi := { dst := some 5, op := Go.Op.fieldAddr 64 (Go.Operand.tmp 2) 0, type := 0, pos := "big.go:205", after := #[], guard := none }) (v := ?v22) rfl (by kernel_rfl) (by kernel_rfl) (by kernel_rfl) (fun _ _ _ h => h) (Or.inl ⟨by rfl, ?hy22⟩) (by assumption) ?rs22
  case hy22 =>
    intro w hSw
    (try dsimp only at hSw)
    go_simp
    try with_reducible rfl
  (try simp only [Act.put, List.setIfInBounds_toArray, List.set_cons_zero, List.set_cons_succ])
  refine wpAnyH_take (i := 1) (oi := { dst := some 6, op := Go.Op.load 60 (Go.Operand.tmp 5), type := 60, pos := "big.go:205", after := #[{ on := 0, ground := Go.Ground.data }], guard := none }) (v := ?v23) rfl (by kernel_rfl) (by kernel_rfl) (by kernel_rfl) (fun _ _ _ h => h) (Or.inl ⟨by rfl, ?hy23⟩) (by assumption) ?rs23
  case hy23 =>
    intro w hSw
    (try dsimp only at hSw)
    go_simp
    try with_reducible rfl
  (try simp only [Act.put, List.setIfInBounds_toArray, List.set_cons_zero, List.set_cons_succ])
  refine wpAnyH_take (i := 2) (oi := { dst := some 7, op := Go.Op.fieldAddr 64 (Go.Operand.tmp 3) 0, type := 0, pos := "big.go:205", after := #[], guard := none }) (v := ?v24) rfl (by kernel_rfl) (by kernel_rfl) (by kernel_rfl) (fun _ _ _ h => h) (Or.inl ⟨by rfl, ?hy24⟩) (by assumption) ?rs24
  case hy24 =>
    intro w hSw
    (try dsimp only at hSw)
    go_simp
    try with_reducible rfl
  (try simp only [Act.put, List.setIfInBounds_toArray, List.set_cons_zero, List.set_cons_succ])
  refine wpAnyH_take (i := 3) (oi := { dst := some 8, op := Go.Op.load 60 (Go.Operand.tmp 7), type := 60, pos := "big.go:205", after := #[{ on := 2, ground := Go.Ground.data }], guard := none }) (v := ?v25) rfl (by kernel_rfl) (by kernel_rfl) (by kernel_rfl) (fun _ _ _ h => h) (Or.inl ⟨by rfl, ?hy25⟩) (by assumption) ?rs25
  case hy25 =>
    intro w hSw
    (try dsimp only at hSw)
    go_simp
    try with_reducible rfl
  (try simp only [Act.put, List.setIfInBounds_toArray, List.set_cons_zero, List.set_cons_succ])
  refine wpAnyH_take (i := 5) (oi := { dst := some 10, op := Go.Op.fieldAddr 64 (Go.Operand.tmp 2) 1, type := 0, pos := "big.go:205", after := #[], guard := none }) (v := ?v26) rfl (by kernel_rfl) (by kernel_rfl) (by kernel_rfl) (fun _ _ _ h => h) (Or.inl ⟨by rfl, ?hy26⟩) (by assumption) ?rs26
  case hy26 =>
    intro w hSw
    (try dsimp only at hSw)
    go_simp
    try with_reducible rfl
  (try simp only [Act.put, List.setIfInBounds_toArray, List.set_cons_zero, List.set_cons_succ])
  refine wpAnyH_take (i := 6) (oi := { dst := some 11, op := Go.Op.load 60 (Go.Operand.tmp 10), type := 60, pos := "big.go:205", after := #[{ on := 5, ground := Go.Ground.data }], guard := none }) (v := ?v27) rfl (by kernel_rfl) (by kernel_rfl) (by kernel_rfl) (fun _ _ _ h => h) (Or.inl ⟨by rfl, ?hy27⟩) (by assumption) ?rs27
  case hy27 =>
    intro w hSw
    (try dsimp only at hSw)
    go_simp
    try with_reducible rfl
  (try simp only [Act.put, List.setIfInBounds_toArray, List.set_cons_zero, List.set_cons_succ])
  refine wpAnyH_take (i := 7) (oi := { dst := some 12, op := Go.Op.fieldAddr 64 (Go.Operand.tmp 3) 1, type := 0, pos := "big.go:205", after := #[], guard := none }) (v := ?v28) rfl (by kernel_rfl) (by kernel_rfl) (by kernel_rfl) (fun _ _ _ h => h) (Or.inl ⟨by rfl, ?hy28⟩) (by assumption) ?rs28
  case hy28 =>
    intro w hSw
    (try dsimp only at hSw)
    go_simp
    try with_reducible rfl
  (try simp only [Act.put, List.setIfInBounds_toArray, List.set_cons_zero, List.set_cons_succ])
  refine wpAnyH_take (i := 8) (oi := { dst := some 13, op := Go.Op.load 60 (Go.Operand.tmp 12), type := 60, pos := "big.go:205", after := #[{ on := 7, ground := Go.Ground.data }], guard := none }) (v := ?v29) rfl (by kernel_rfl) (by kernel_rfl) (by kernel_rfl) (fun _ _ _ h => h) (Or.inl ⟨by rfl, ?hy29⟩) (by assumption) ?rs29
  case hy29 =>
    intro w hSw
    (try dsimp only at hSw)
    go_simp
    try with_reducible rfl
  (try simp only [Act.put, List.setIfInBounds_toArray, List.set_cons_zero, List.set_cons_succ])
  refine wpAnyH_ready (rs := [4]) (by kernel_rfl) (by simp) ?_
  refine AllReadyH.cons (o := { dst := some 9, op := Go.Op.call { callee := Go.Callee.value (Go.Operand.func 89), args := #[Go.Operand.tmp 6, Go.Operand.tmp 8], argTypes := #[60, 60] }, type := 60, pos := "big.go:205", after := #[{ on := 1, ground := Go.Ground.data }, { on := 3, ground := Go.Ground.data }], guard := none }) rfl (fun K2 hK2 => ?_) AllReadyH.nil
  go_simp
  (go_at_call 89; refine (Mul_any _ _ _ xn yn (HXN.out.kept (hKwW.trans (by repeat (first | assumption | exact Kept.refl _ | apply Kept.drew | apply Kept.drewN | apply Kept.alloc | refine Kept.trans ?_ (by assumption))))) (HYN.out.kept (hKwW.trans (by repeat (first | assumption | exact Kept.refl _ | apply Kept.drew | apply Kept.drewN | apply Kept.alloc | refine Kept.trans ?_ (by assumption))))) HB1.out).mono ?_; rintro e w4 ⟨v4, rfl, hz4, hk4⟩; obtain ⟨m4, a4, l4, c4, rfl⟩ := hz4.shape)
  go_wp2_with fail
  refine hK2.out _ _ ?_ (fun hHeld => ?_)
  · (try dsimp only)
    exact ⟨Kept.cellSome (w := W) (by repeat (first | assumption | exact Kept.refl _ | apply Kept.drew | apply Kept.drewN | apply Kept.alloc | refine Kept.trans ?_ (by assumption))) p0, Kept.cellSome (w := W) (by repeat (first | assumption | exact Kept.refl _ | apply Kept.drew | apply Kept.drewN | apply Kept.alloc | refine Kept.trans ?_ (by assumption))) p1, Kept.cellSome (w := W) (by repeat (first | assumption | exact Kept.refl _ | apply Kept.drew | apply Kept.drewN | apply Kept.alloc | refine Kept.trans ?_ (by assumption))) p2, Kept.cellSome (w := W) (by repeat (first | assumption | exact Kept.refl _ | apply Kept.drew | apply Kept.drewN | apply Kept.alloc | refine Kept.trans ?_ (by assumption))) p3, Kept.cellSome (w := W) (by repeat (first | assumption | exact Kept.refl _ | apply Kept.drew | apply Kept.drewN | apply Kept.alloc | refine Kept.trans ?_ (by assumption))) q0, Kept.cellSome (w := W) (by repeat (first | assumption | exact Kept.refl _ | apply Kept.drew | apply Kept.drewN | apply Kept.alloc | refine Kept.trans ?_ (by assumption))) q1, Kept.cellSome (w := W) (by repeat (first | assumption | exact Kept.refl _ | apply Kept.drew | apply Kept.drewN | apply Kept.alloc | refine Kept.trans ?_ (by assumption))) q2, Kept.cellSome (w := W) (by repeat (first | assumption | exact Kept.refl _ | apply Kept.drew | apply Kept.drewN | apply Kept.alloc | refine Kept.trans ?_ (by assumption))) q3, hKwW.trans (by repeat (first | assumption | exact Kept.refl _ | apply Kept.drew | apply Kept.drewN | apply Kept.alloc | refine Kept.trans ?_ (by assumption)))⟩
  clear hK2 K2
  (try simp only [Act.put, List.setIfInBounds_toArray, List.set_cons_zero, List.set_cons_succ])
  refine wpAnyH_ready (rs := [9]) (by kernel_rfl) (by simp) ?_
  refine AllReadyH.cons (o := { dst := some 14, op := Go.Op.call { callee := Go.Callee.value (Go.Operand.func 89), args := #[Go.Operand.tmp 11, Go.Operand.tmp 13], argTypes := #[60, 60] }, type := 60, pos := "big.go:205", after := #[{ on := 6, ground := Go.Ground.data }, { on := 8, ground := Go.Ground.data }, { on := 4, ground := Go.Ground.chain }], guard := none }) rfl (fun K2 hK2 => ?_) AllReadyH.nil
  go_simp
  (go_at_call 89; refine (Mul_any _ _ _ xd yd (HXD.out.kept (hKwW.trans (by repeat (first | assumption | exact Kept.refl _ | apply Kept.drew | apply Kept.drewN | apply Kept.alloc | refine Kept.trans ?_ (by assumption))))) (HYD.out.kept (hKwW.trans (by repeat (first | assumption | exact Kept.refl _ | apply Kept.drew | apply Kept.drewN | apply Kept.alloc | refine Kept.trans ?_ (by assumption))))) HB2.out).mono ?_; rintro e w7 ⟨v7, rfl, hz7, hk7⟩; obtain ⟨m7, a7, l7, c7, rfl⟩ := hz7.shape)
  go_wp2_with fail
  refine hK2.out _ _ ?_ (fun hHeld => ?_)
  · (try dsimp only)
    exact ⟨Kept.cellSome (w := W) (by repeat (first | assumption | exact Kept.refl _ | apply Kept.drew | apply Kept.drewN | apply Kept.alloc | refine Kept.trans ?_ (by assumption))) p0, Kept.cellSome (w := W) (by repeat (first | assumption | exact Kept.refl _ | apply Kept.drew | apply Kept.drewN | apply Kept.alloc | refine Kept.trans ?_ (by assumption))) p1, Kept.cellSome (w := W) (by repeat (first | assumption | exact Kept.refl _ | apply Kept.drew | apply Kept.drewN | apply Kept.alloc | refine Kept.trans ?_ (by assumption))) p2, Kept.cellSome (w := W) (by repeat (first | assumption | exact Kept.refl _ | apply Kept.drew | apply Kept.drewN | apply Kept.alloc | refine Kept.trans ?_ (by assumption))) p3, Kept.cellSome (w := W) (by repeat (first | assumption | exact Kept.refl _ | apply Kept.drew | apply Kept.drewN | apply Kept.alloc | refine Kept.trans ?_ (by assumption))) q0, Kept.cellSome (w := W) (by repeat (first | assumption | exact Kept.refl _ | apply Kept.drew | apply Kept.drewN | apply Kept.alloc | refine Kept.trans ?_ (by assumption))) q1, Kept.cellSome (w := W) (by repeat (first | assumption | exact Kept.refl _ | apply Kept.drew | apply Kept.drewN | apply Kept.alloc | refine Kept.trans ?_ (by assumption))) q2, Kept.cellSome (w := W) (by repeat (first | assumption | exact Kept.refl _ | apply Kept.drew | apply Kept.drewN | apply Kept.alloc | refine Kept.trans ?_ (by assumption))) q3, hKwW.trans (by repeat (first | assumption | exact Kept.refl _ | apply Kept.drew | apply Kept.drewN | apply Kept.alloc | refine Kept.trans ?_ (by assumption)))⟩
  clear hK2 K2
  (try simp only [Act.put, List.setIfInBounds_toArray, List.set_cons_zero, List.set_cons_succ])
  refine wpAnyH_take (i := 10) (oi := { dst := some 15, op := Go.Op.build 64 #[(0, Go.Operand.tmp 9), (1, Go.Operand.tmp 14)], type := 64, pos := "big.go:205", after := #[{ on := 4, ground := Go.Ground.data }, { on := 9, ground := Go.Ground.data }], guard := none }) (v := ?v30) rfl (by kernel_rfl) (by kernel_rfl) (by kernel_rfl) (fun _ _ _ h => h) (Or.inl ⟨by rfl, ?hy30⟩) (by assumption) ?rs30
  case hy30 =>
    intro w hSw
    (try dsimp only at hSw)
    go_simp
    try with_reducible rfl
  (try simp only [Act.put, List.setIfInBounds_toArray, List.set_cons_zero, List.set_cons_succ])
  have hKW6 : Kept W w7 := (by repeat (first | assumption | exact Kept.refl _ | apply Kept.drew | apply Kept.drewN | apply Kept.alloc | refine Kept.trans ?_ (by assumption)))
  have hR6 := hKW6.row HRr.out
  have hZ6 := hKW6.row HZ0.out
  have hY6 := hKW6.row HZ1.out
  obtain ⟨f0, f1, f2, f3, f4, f5, f6, f7⟩ := bx4_cells hR6
  have hRF := bx4_set hR6 (.bool m4) (.slice a4 l4 c4) (.bool m7) (.slice a7 l7 c7)
  have hZF := ((((hZ6.setOther (a := ⟨r0, 0, none⟩) hzr (.bool m4)).setOther (a := ⟨r0, 1, none⟩) hzr (.slice a4 l4 c4)).setOther (a := ⟨r0, 2, none⟩) hzr (.bool m7)).setOther (a := ⟨r0, 3, none⟩) hzr (.slice a7 l7 c7))
  have hYF := ((((hY6.setOther (a := ⟨r0, 0, none⟩) hyr (.bool m4)).setOther (a := ⟨r0, 1, none⟩) hyr (.slice a4 l4 c4)).setOther (a := ⟨r0, 2, none⟩) hyr (.bool m7)).setOther (a := ⟨r0, 3, none⟩) hyr (.slice a7 l7 c7))
  have hKF : Kept w ((((w7.setCell ⟨r0, 0, none⟩ (.bool m4)).setCell ⟨r0, 1, none⟩ (.slice a4 l4 c4)).setCell ⟨r0, 2, none⟩ (.bool m7)).setCell ⟨r0, 3, none⟩ (.slice a7 l7 c7)) := ((((hKwW.trans hKW6).setCell hrw _).setCell hrw _).setCell hrw _).setCell hrw _
  have hX : KeptX (fun k => k = r0) w7 ((((w7.setCell ⟨r0, 0, none⟩ (.bool m4)).setCell ⟨r0, 1, none⟩ (.slice a4 l4 c4)).setCell ⟨r0, 2, none⟩ (.bool m7)).setCell ⟨r0, 3, none⟩ (.slice a7 l7 c7)) := ((((KeptX.refl (fun k => k = r0) w7).setIn 0 _).setIn 1 _).setIn 2 _).setIn 3 _
  have HN7 := Lib.hid ((hz4.kept (by repeat (first | assumption | exact Kept.refl _ | apply Kept.drew | apply Kept.drewN | apply Kept.alloc | refine Kept.trans ?_ (by assumption))) : ZAt w7 _ _).keptBoxN hX hR6 (bx4_noint _ _ _ _ _ _ _ _))
  have HD7 := Lib.hid ((hz7.kept (by repeat (first | assumption | exact Kept.refl _ | apply Kept.drew | apply Kept.drewN | apply Kept.alloc | refine Kept.trans ?_ (by assumption))) : ZAt w7 _ _).keptBoxN hX hR6 (bx4_noint _ _ _ _ _ _ _ _))
  obtain ⟨g0, g1, g2, g3, _⟩ := bx4_cells hRF
  obtain ⟨s0, s1, s2, s3, _⟩ := bx4_cells hZF
  obtain ⟨s4, s5, s6, s7, _⟩ := bx4_cells hYF
  clear hR6 hZ6 hY6 hRF hZF hYF hX
  refine wpAnyH_ready (rs := [11]) (by kernel_rfl) (by simp) ?_
  refine AllReadyH.cons (o := { dst := none, op := Go.Op.store 64 (Go.Operand.tmp 4) (Go.Operand.tmp 15), type := 0, pos := "big.go:205", after := #[{ on := 10, ground := Go.Ground.data }, { on := 9, ground := Go.Ground.chain }, { on := 0, ground := Go.Ground.phase }, { on := 1, ground := Go.Ground.phase }, { on := 2, ground := Go.Ground.phase }, { on := 3, ground := Go.Ground.phase }, { on := 4, ground := Go.Ground.phase }, { on := 5, ground := Go.Ground.phase }, { on := 6, ground := Go.Ground.phase }, { on := 7, ground := Go.Ground.phase }, { on := 8, ground := Go.Ground.phase }, { on := 9, ground := Go.Ground.phase }, { on := 10, ground := Go.Ground.phase }], guard := none }) rfl (fun K2 hK2 => ?_) AllReadyH.nil
  go_simp
  refine hK2.out _ _ ?_ (fun hHeld => ?_)
  · (try dsimp only)
    exact ⟨s0, s1, s2, s3, s4, s5, s6, s7, hKF⟩
  generalize ((((w7.setCell ⟨r0, 0, none⟩ (.bool m4)).setCell ⟨r0, 1, none⟩ (.slice a4 l4 c4)).setCell ⟨r0, 2, none⟩ (.bool m7)).setCell ⟨r0, 3, none⟩ (.slice a7 l7 c7)) = WF at *
  clear hK2 K2
  (try simp only [Act.put, List.setIfInBounds_toArray, List.set_cons_zero, List.set_cons_succ])
  refine wpAnyH_done (by kernel_rfl) ?_ _
  go_wp2_with fail
  exact bodyPost_ret (v := .agg #[.bool m4, .slice a4 l4 c4, .bool m7, .slice a7 l7 c7]) (by simp [results, Try.results69, go_sem, g0, g1, g2, g3]) rfl ⟨_, rfl, ⟨m4, _, m7, _, rfl, HN7.out, HD7.out⟩, hKF⟩
end Go.Proofs.Ytomnjcjipdnnfaa
