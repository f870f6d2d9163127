/-
  The law's few.
-/
import Derived.Test.YtlgpclnmonpkjaaWb
namespace Go.Proofs.Ytlgpclnmonpkjaa
open Go.RowKit Go.Deep

theorem cell_notbox2 {w : World} {b np j : Nat} {t : TypeId} {q : Int} (hr : w.rowIs np t 2 (bx2 (.slice none 0 0) (.slice none 0 0))) (hc : w.cell? ⟨b, j, none⟩ = some (.int .i64 q)) : b ≠ np := by
  intro e
  subst e
  obtain ⟨c, h1, h2, h3⟩ := hr
  rw [cell_of_row w b j c t (0, 0) h1] at hc
  by_cases hj : j < 2
  · rw [h3 j hj] at hc
    have : j = 0 ∨ j = 1 := by omega
    rcases this with rfl | rfl <;> cases hc
  · rw [Array.getElem?_eq_none (by omega)] at hc
    cases hc
theorem ints_notbox2 {w : World} {np n : Nat} {t : TypeId} {v : Value} {f : Nat → Int} (h : IntsAt w v n f) (hr : w.rowIs np t 2 (bx2 (.slice none 0 0) (.slice none 0 0))) (a b : Value) : IntsAt ((w.setCell ⟨np, 0, none⟩ a).setCell ⟨np, 1, none⟩ b) v n f := by
  obtain ⟨a0, g, o, cap, e, ha, hc⟩ := h
  refine ⟨a0, g, o, cap, e, ha, fun i hi => ?_⟩
  have hne := cell_notbox2 hr (hc i hi)
  have hx : ∀ j, (⟨np, j, none⟩ : Addr) ≠ ⟨g, o + i, none⟩ := fun j h => hne (congrArg Addr.block h).symm
  rw [World.cell?_setCell_other _ _ _ _ (hx 1), World.cell?_setCell_other _ _ _ _ (hx 0)]
  exact hc i hi
def FewPost (w : World) (nO nL : Nat) (fO fL : Nat → Int) (e : Ending) (w' : World) : Prop := ∃ v, e = .returned v ∧ RoadIn w' v (min nO 11) (min nL 11) fO fL ∧ Kept w w'
set_option maxRecDepth 100000 in
set_option maxHeartbeats 4000000 in
theorem few_any (w : World) (aO aL : Option Addr) (nO cO nL cL : Nat) (fO fL : Nat → Int) (hO : IntsAt w (.slice aO nO cO) nO fO) (hO1 : nO ≤ cO) (hO2 : aO = none → cO = 0) (hO3 : cO ≤ maxLen) (hL : IntsAt w (.slice aL nL cL) nL fL) (hL1 : nL ≤ cL) (hL2 : aL = none → cL = 0) (hL3 : cL ≤ maxLen) :
    Calls Try.prog 15 #[.agg #[.slice aO nO cO, .slice aL nL cL]] w (FewPost w nO nL fO fL) := by
  have CO := Lib.hid (fun W (h : IntsAt W (.slice aO nO cO) nO fO) => cut_any W aO nO cO 11 fO h hO1 hO2 hO3 (by omega))
  have CL := Lib.hid (fun W (h : IntsAt W (.slice aL nL cL) nL fL) => cut_any W aL nL cL 11 fL h hL1 hL2 hL3 (by omega))
  obtain ⟨n0, HN0⟩ : ∃ n0, w.heap.size = n0 := ⟨_, rfl⟩
  obtain ⟨W1, hW1, hsz, q0, q1, hK⟩ := newbox2 w n0 HN0 (.slice aO nO cO) (.slice aL nL cL) 24
  have hrow := box2row W1 (n0 + 1) hsz (.slice none 0 0) (.slice none 0 0) 24
  obtain ⟨W2, hW2, hsz2, _, _, hK1⟩ := newbox2 W1 (n0 + 1) hsz (.slice none 0 0) (.slice none 0 0) 24
  rw [hW2] at hrow
  obtain ⟨q0', q1', _⟩ := keep2 q0 q1 hK1
  have hKw := hK.trans hK1
  have hge : w.heap.size ≤ n0 + 1 := by omega
  have hO2 := hO.kept hKw
  have hL2 := hL.kept hKw
  have hgs : W1.heap.size ≤ n0 + 1 := by omega
  unfold CutPost at CO CL
  clear hO hL hK
  go_enter Try.func15, Try.ntmps15
  go_upto_region 1 with fail
  clear hW1 hW2 hsz HN0
  refine wp_region_held_drew (S := (fun w' => w'.cell? ⟨n0, 0, none⟩ = some (.slice aO nO cO) ∧ w'.cell? ⟨n0, 1, none⟩ = some (.slice aL nL cL) ∧ Kept W1 w')) (by kernel_rfl) ?_ (fun hHeld => ?_)
  · (try dsimp only)
    exact keep2 q0 q1 (by repeat (first | assumption | exact Kept.refl _ | apply Kept.drew | apply Kept.drewN | apply Kept.alloc | refine Kept.trans ?_ (by assumption)))
  refine wpAnyH_take (i := 0) (oi := { dst := some 3, op := Go.Op.fieldAddr 24 (Go.Operand.tmp 1) 0, type := 0, pos := "law.go:30", after := #[], guard := none }) (v := ?v1) rfl (by kernel_rfl) (by kernel_rfl) (by kernel_rfl) (fun _ _ _ h => h) (Or.inl ⟨by rfl, ?hy1⟩) (by assumption) ?rs1
  case hy1 =>
    intro w hSw
    (try dsimp only at hSw)
    go_simp
    try with_reducible rfl
  (try simp only [Act.put, List.setIfInBounds_toArray, List.set_cons_zero, List.set_cons_succ])
  refine wpAnyH_take (i := 1) (oi := { dst := some 4, op := Go.Op.load 22 (Go.Operand.tmp 3), type := 22, pos := "law.go:30", after := #[{ on := 0, ground := Go.Ground.data }], guard := none }) (v := ?v2) rfl (by kernel_rfl) (by kernel_rfl) (by kernel_rfl) (fun _ _ _ h => h) (Or.inl ⟨by rfl, ?hy2⟩) (by assumption) ?rs2
  case hy2 =>
    intro w hSw
    (try dsimp only at hSw)
    go_simp
    try with_reducible rfl
  (try simp only [Act.put, List.setIfInBounds_toArray, List.set_cons_zero, List.set_cons_succ])
  refine wpAnyH_take (i := 3) (oi := { dst := some 6, op := Go.Op.fieldAddr 24 (Go.Operand.tmp 1) 1, type := 0, pos := "law.go:30", after := #[], guard := none }) (v := ?v3) rfl (by kernel_rfl) (by kernel_rfl) (by kernel_rfl) (fun _ _ _ h => h) (Or.inl ⟨by rfl, ?hy3⟩) (by assumption) ?rs3
  case hy3 =>
    intro w hSw
    (try dsimp only at hSw)
    go_simp
    try with_reducible rfl
  (try simp only [Act.put, List.setIfInBounds_toArray, List.set_cons_zero, List.set_cons_succ])
  refine wpAnyH_take (i := 4) (oi := { dst := some 7, op := Go.Op.load 22 (Go.Operand.tmp 6), type := 22, pos := "law.go:30", after := #[{ on := 3, ground := Go.Ground.data }], guard := none }) (v := ?v4) rfl (by kernel_rfl) (by kernel_rfl) (by kernel_rfl) (fun _ _ _ h => h) (Or.inl ⟨by rfl, ?hy4⟩) (by assumption) ?rs4
  case hy4 =>
    intro w hSw
    (try dsimp only at hSw)
    go_simp
    try with_reducible rfl
  (try simp only [Act.put, List.setIfInBounds_toArray, List.set_cons_zero, List.set_cons_succ])
  refine wpAnyH_ready (rs := [2]) (by kernel_rfl) (by simp) ?_
  refine AllReadyH.cons (o := { dst := some 5, op := Go.Op.call { callee := Go.Callee.value (Go.Operand.func 40), args := #[Go.Operand.tmp 4, Go.Operand.const (Go.Value.int Go.IntKind.i64 11)], argTypes := #[22, 3] }, type := 22, pos := "law.go:30", after := #[{ on := 1, ground := Go.Ground.data }], guard := none }) rfl (fun K2 hK2 => ?_) AllReadyH.nil
  go_simp
  (go_at_call 40; refine (CO.out _ (CellsAt.kept hO2 (by repeat (first | assumption | exact Kept.refl _ | apply Kept.drew | apply Kept.drewN | apply Kept.alloc | refine Kept.trans ?_ (by assumption))))).mono ?_; rintro e w3 ⟨v3, rfl, hv3, hk3⟩; obtain ⟨va, vc, rfl⟩ := own_shape hv3)
  (try go_wp2_with fail)
  refine hK2.out _ _ ?_ (fun hHeld => ?_)
  · (try dsimp only)
    exact keep2 q0 q1 (by repeat (first | assumption | exact Kept.refl _ | apply Kept.drew | apply Kept.drewN | apply Kept.alloc | refine Kept.trans ?_ (by assumption)))
  (try simp only [Act.put, List.setIfInBounds_toArray, List.set_cons_zero, List.set_cons_succ])
  refine wpAnyH_ready (rs := [5]) (by kernel_rfl) (by simp) ?_
  refine AllReadyH.cons (o := { dst := some 8, op := Go.Op.call { callee := Go.Callee.value (Go.Operand.func 40), args := #[Go.Operand.tmp 7, Go.Operand.const (Go.Value.int Go.IntKind.i64 11)], argTypes := #[22, 3] }, type := 22, pos := "law.go:30", after := #[{ on := 4, ground := Go.Ground.data }, { on := 2, ground := Go.Ground.chain }], guard := none }) rfl (fun K5 hK5 => ?_) AllReadyH.nil
  go_simp
  (go_at_call 40; refine (CL.out _ (CellsAt.kept hL2 (by repeat (first | assumption | exact Kept.refl _ | apply Kept.drew | apply Kept.drewN | apply Kept.alloc | refine Kept.trans ?_ (by assumption))))).mono ?_; rintro e w4 ⟨v4, rfl, hv4, hk4⟩; obtain ⟨vb, vd, rfl⟩ := own_shape hv4)
  (try go_wp2_with fail)
  obtain ⟨f0, f1, t0, t1, r0, r1, hKF⟩ := fin2a hrow (show Kept W2 w4 from (by repeat (first | assumption | exact Kept.refl _ | apply Kept.drew | apply Kept.drewN | apply Kept.alloc | refine Kept.trans ?_ (by assumption)))) (hKw.trans (show Kept W2 w4 from (by repeat (first | assumption | exact Kept.refl _ | apply Kept.drew | apply Kept.drewN | apply Kept.alloc | refine Kept.trans ?_ (by assumption))))) hge (.slice va (min nO 11) vc) (.slice vb (min nL 11) vd)
  have hI3 : IntsAt w4 (.slice va (min nO 11) vc) (min nO 11) fO := CellsAt.kept (IntsAt.of_intsL hv3) (show Kept w3 w4 from (by repeat (first | assumption | exact Kept.refl _ | apply Kept.drew | apply Kept.drewN | apply Kept.alloc | refine Kept.trans ?_ (by assumption))))
  have hI4 : IntsAt w4 (.slice vb (min nL 11) vd) (min nL 11) fL := IntsAt.of_intsL hv4
  have hrw4 := (show Kept W2 w4 from (by repeat (first | assumption | exact Kept.refl _ | apply Kept.drew | apply Kept.drewN | apply Kept.alloc | refine Kept.trans ?_ (by assumption)))).row hrow
  have hX3 := ints_notbox2 hI3 hrw4 (.slice va (min nO 11) vc) (.slice vb (min nL 11) vd)
  have hX4 := ints_notbox2 hI4 hrw4 (.slice va (min nO 11) vc) (.slice vb (min nL 11) vd)
  refine hK5.out _ _ ?_ (fun hHeld => ?_)
  · (try dsimp only)
    exact keep2 q0 q1 (by repeat (first | assumption | exact Kept.refl _ | apply Kept.drew | apply Kept.drewN | apply Kept.alloc | refine Kept.trans ?_ (by assumption)))
  (try simp only [Act.put, List.setIfInBounds_toArray, List.set_cons_zero, List.set_cons_succ])
  refine wpAnyH_take (i := 6) (oi := { dst := some 9, op := Go.Op.build 24 #[(0, Go.Operand.tmp 5), (1, Go.Operand.tmp 8)], type := 24, pos := "law.go:30", after := #[{ on := 2, ground := Go.Ground.data }, { on := 5, ground := Go.Ground.data }], guard := none }) (v := ?v5) rfl (by kernel_rfl) (by kernel_rfl) (by kernel_rfl) (fun _ _ _ h => h) (Or.inl ⟨by rfl, ?hy5⟩) (by assumption) ?rs5
  case hy5 =>
    intro w hSw
    (try dsimp only at hSw)
    go_simp
    try with_reducible rfl
  (try simp only [Act.put, List.setIfInBounds_toArray, List.set_cons_zero, List.set_cons_succ])
  refine wpAnyH_ready (rs := [7]) (by kernel_rfl) (by simp) ?_
  refine AllReadyH.cons (o := { dst := none, op := Go.Op.store 24 (Go.Operand.tmp 2) (Go.Operand.tmp 9), type := 0, pos := "law.go:30", after := #[{ on := 6, ground := Go.Ground.data }, { on := 5, ground := Go.Ground.chain }, { on := 0, ground := Go.Ground.phase }, { on := 1, ground := Go.Ground.phase }, { on := 2, ground := Go.Ground.phase }, { on := 3, ground := Go.Ground.phase }, { on := 4, ground := Go.Ground.phase }, { on := 5, ground := Go.Ground.phase }, { on := 6, ground := Go.Ground.phase }], guard := none }) rfl (fun K7 hK7 => ?_) AllReadyH.nil
  go_simp
  skip
  (try go_wp2_with fail)
  refine hK7.out _ _ ?_ (fun hHeld => ?_)
  · (try dsimp only)
    exact keep2 q0 q1 (((show Kept W1 w4 from (by repeat (first | assumption | exact Kept.refl _ | apply Kept.drew | apply Kept.drewN | apply Kept.alloc | refine Kept.trans ?_ (by assumption)))).setCell (p := ⟨n0 + 1, 0, none⟩) hgs _).setCell (p := ⟨n0 + 1, 1, none⟩) hgs _)
  (try simp only [Act.put, List.setIfInBounds_toArray, List.set_cons_zero, List.set_cons_succ])
  refine wpAnyH_done (by kernel_rfl) ?_ _
  go_wp2_with fail
  exact bodyPost_ret (v := .agg #[.slice va (min nO 11) vc, .slice vb (min nL 11) vd]) (by simp [results, Try.results15, go_sem, r0, r1]) rfl ⟨_, rfl, ⟨_, _, rfl, hX3, hX4⟩, hKF⟩
end Go.Proofs.Ytlgpclnmonpkjaa
