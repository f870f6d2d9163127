/-
  Package herd: unite.
-/
import Derived.Test.YtfbiinjpljmapaaDoorHt
import Derived.Test.YtfbiinjpljmapaaDoorTa
import Derived.Deep.RegionWith
import Derived.RegionTactic
namespace Go.Proofs.YtfbiinjpljmapaaDoor
open Go.RowKit Go.Deep

set_option maxRecDepth 100000 in
set_option maxHeartbeats 4000000 in
theorem unite_any (w : World) (g N n cap : Nat) (fa : Option Addr) (fl fc : Nat) (hv : Value) (i j : Nat) (Z : Nat → Int) (H : Nat → Nat) (M : Int) (hP : PartsAt w g N n Z) (hS : SetsAt w hv n H) (hi : i < n) (hj : j < n) (hH : ∀ t, t < n → H t < 65536) (hbit : ∀ t, t < n → ∀ b, (H t).testBit b = true → b < n) (hn : n ≤ 9)
    (hG : GoodZ Z n M) (hM : 10 * M < bigU) (hM0 : 0 ≤ M) :
    Calls Tryd.prog 76 #[.agg #[.slice (some ⟨g, 0, none⟩) n cap, .slice fa fl fc], hv, .int .i64 i, .int .i64 j] w fun e w' => e = .returned (.tuple #[]) ∧ KeptX (fun k => k = g) w w' ∧ IntKept w w' ∧ PartsAt w' g N n (uniteZ Z H i j) := by
  have hpb : ∀ t, t < n → ∀ k, k ≤ (horsesL (H t) 9).length → pullZ Z (horsesL (H t) 9) k < bigU := fun t ht k hk => by
    have h1 := (pullZ_bd hG (l := horsesL (H t) 9) (fun x hx => hbit t ht x (horsesL_bit hx)) k hk).2
    have h2 : (horsesL (H t) 9).length ≤ 9 := by
      unfold horsesL
      exact Nat.le_trans (List.length_filter_le _ _) (by simp)
    have h3 : (k : Int) * M ≤ 9 * M := Int.mul_le_mul_of_nonneg_right (by omega) hM0
    omega
  have hS2 : ∀ p q, p < n → q < n → Z p + Z q < bigU := fun p q h1 h2 => by
    have := hG.le h1
    have := hG.le h2
    omega
  have PUi := Lib.hid (fun W (hk : Kept w W) => pull_any W (.slice (some ⟨g, 0, none⟩) n cap) (.slice fa fl fc) hv n i Z H (hP.list.kept hk) (CellsAt.kept hS hk) hi (hH i hi) (hbit i hi) (hpb i hi) (by omega))
  have PUj := Lib.hid (fun W (hk : Kept w W) => pull_any W (.slice (some ⟨g, 0, none⟩) n cap) (.slice fa fl fc) hv n j Z H (hP.list.kept hk) (CellsAt.kept hS hk) hj (hH j hj) (hbit j hj) (hpb j hj) (by omega))
  obtain ⟨x, HX⟩ : ∃ x, Hid (x = pullH Z H i) := ⟨_, rfl⟩
  obtain ⟨y, HY⟩ : ∃ y, Hid (y = pullH Z H j) := ⟨_, rfl⟩
  have e1 : pullZ Z (horsesL (H i) 9) (horsesL (H i) 9).length = x := HX.out.symm
  have e2 : pullZ Z (horsesL (H j) 9) (horsesL (H j) 9).length = y := HY.out.symm
  rw [e1] at PUi
  rw [e2] at PUj
  have CM := Lib.hid (fun W va vb h1 h2 => compare_any W va vb x y h1 h2)
  have d0 : (w.alloc (.cells #[.slice (some ⟨g, 0, none⟩) n cap, .slice fa fl fc] 92)).cell? ⟨w.heap.size, 0, none⟩ = some (.slice (some ⟨g, 0, none⟩) n cap) := by unfold World.cell?; dsimp only; rw [blk_alloc_new]; rfl
  have d1 : (w.alloc (.cells #[.slice (some ⟨g, 0, none⟩) n cap, .slice fa fl fc] 92)).cell? ⟨w.heap.size, 1, none⟩ = some (.slice fa fl fc) := by unfold World.cell?; dsimp only; rw [blk_alloc_new]; rfl
  have hk0 : Kept w (w.alloc (.cells #[.slice (some ⟨g, 0, none⟩) n cap, .slice fa fl fc] 92)) := (Kept.refl w).alloc _
  clear hpb e1 e2 hbit hH hS
  go_enter Tryd.func76, Tryd.ntmps76
  go_wp2_with fail
  generalize w.alloc (.cells #[.slice (some ⟨g, 0, none⟩) n cap, .slice fa fl fc] 92) = W at *
  obtain ⟨z0, HZ0⟩ : ∃ z, Hid (z = w.heap.size) := ⟨_, rfl⟩
  rw [← HZ0.out] at d0 d1 ⊢
  have hgl : g < w.heap.size := by
    obtain ⟨P, h1, _⟩ := hP
    exact h1.lt
  have hzg : ¬ z0 = g := by rw [HZ0.out]; omega
  clear HZ0 hgl
  try go_wp2_with fail
  refine wp_region_held_drew (S := (fun w' => w'.cell? ⟨z0, 0, none⟩ = some (.slice (some ⟨g, 0, none⟩) n cap) ∧ w'.cell? ⟨z0, 1, none⟩ = some (.slice fa fl fc) ∧ Kept W w')) (by kernel_rfl) ?_ (fun hHeld => ?_)
  · (try dsimp only)
    exact ⟨Kept.cellSome (w := W) (by repeat (first | assumption | exact Kept.refl _ | apply Kept.drew | apply Kept.drewN | apply Kept.alloc | refine Kept.trans ?_ (by assumption))) d0, Kept.cellSome (w := W) (by repeat (first | assumption | exact Kept.refl _ | apply Kept.drew | apply Kept.drewN | apply Kept.alloc | refine Kept.trans ?_ (by assumption))) d1, (by repeat (first | assumption | exact Kept.refl _ | apply Kept.drew | apply Kept.drewN | apply Kept.alloc | refine Kept.trans ?_ (by assumption)))⟩
  refine wpAnyH_take (i := 0) (oi := { dst := some 8, op := Go.Op.load 92 (Go.Operand.tmp 4), type := 92, pos := "load.go:108", after := #[], guard := none }) (v := ?v1) rfl (by kernel_rfl) (by kernel_rfl) (by kernel_rfl) (fun _ _ _ h => h) (Or.inl ⟨by rfl, ?hy1⟩) (by assumption) ?rs1
  case hy1 =>
    intro w hSw
    (try dsimp only at hSw)
    go_simp
    try with_reducible rfl
  (try simp only [Act.put, List.setIfInBounds_toArray, List.set_cons_zero, List.set_cons_succ])
  refine wpAnyH_take (i := 1) (oi := { dst := some 9, op := Go.Op.move (Go.Operand.tmp 1), type := 64, pos := "load.go:108", after := #[], guard := none }) (v := ?v2) rfl (by kernel_rfl) (by kernel_rfl) (by kernel_rfl) (fun _ _ _ h => h) (Or.inl ⟨by rfl, ?hy2⟩) (by assumption) ?rs2
  case hy2 =>
    intro w hSw
    (try dsimp only at hSw)
    go_simp
    try with_reducible rfl
  (try simp only [Act.put, List.setIfInBounds_toArray, List.set_cons_zero, List.set_cons_succ])
  refine wpAnyH_take (i := 2) (oi := { dst := some 10, op := Go.Op.move (Go.Operand.tmp 2), type := 3, pos := "load.go:108", after := #[], guard := none }) (v := ?v3) rfl (by kernel_rfl) (by kernel_rfl) (by kernel_rfl) (fun _ _ _ h => h) (Or.inl ⟨by rfl, ?hy3⟩) (by assumption) ?rs3
  case hy3 =>
    intro w hSw
    (try dsimp only at hSw)
    go_simp
    try with_reducible rfl
  (try simp only [Act.put, List.setIfInBounds_toArray, List.set_cons_zero, List.set_cons_succ])
  refine wpAnyH_take (i := 4) (oi := { dst := some 12, op := Go.Op.load 92 (Go.Operand.tmp 4), type := 92, pos := "load.go:108", after := #[], guard := none }) (v := ?v4) rfl (by kernel_rfl) (by kernel_rfl) (by kernel_rfl) (fun _ _ _ h => h) (Or.inl ⟨by rfl, ?hy4⟩) (by assumption) ?rs4
  case hy4 =>
    intro w hSw
    (try dsimp only at hSw)
    go_simp
    try with_reducible rfl
  (try simp only [Act.put, List.setIfInBounds_toArray, List.set_cons_zero, List.set_cons_succ])
  refine wpAnyH_take (i := 5) (oi := { dst := some 13, op := Go.Op.move (Go.Operand.tmp 1), type := 64, pos := "load.go:108", after := #[], guard := none }) (v := ?v5) rfl (by kernel_rfl) (by kernel_rfl) (by kernel_rfl) (fun _ _ _ h => h) (Or.inl ⟨by rfl, ?hy5⟩) (by assumption) ?rs5
  case hy5 =>
    intro w hSw
    (try dsimp only at hSw)
    go_simp
    try with_reducible rfl
  (try simp only [Act.put, List.setIfInBounds_toArray, List.set_cons_zero, List.set_cons_succ])
  refine wpAnyH_take (i := 6) (oi := { dst := some 14, op := Go.Op.move (Go.Operand.tmp 3), type := 3, pos := "load.go:108", after := #[], guard := none }) (v := ?v6) rfl (by kernel_rfl) (by kernel_rfl) (by kernel_rfl) (fun _ _ _ h => h) (Or.inl ⟨by rfl, ?hy6⟩) (by assumption) ?rs6
  case hy6 =>
    intro w hSw
    (try dsimp only at hSw)
    go_simp
    try with_reducible rfl
  (try simp only [Act.put, List.setIfInBounds_toArray, List.set_cons_zero, List.set_cons_succ])
  refine wpAnyH_ready (rs := [3]) (by kernel_rfl) (by simp) ?_
  refine AllReadyH.cons (o := { dst := some 11, op := Go.Op.call { callee := Go.Callee.value (Go.Operand.func 87), args := #[Go.Operand.tmp 8, Go.Operand.tmp 9, Go.Operand.tmp 10], argTypes := #[92, 64, 3] }, type := 106, pos := "load.go:108", after := #[{ on := 0, ground := Go.Ground.data }, { on := 1, ground := Go.Ground.data }, { on := 2, ground := Go.Ground.data }], guard := none }) rfl (fun K2 hK2 => ?_) AllReadyH.nil
  go_simp
  (go_at_call 87; refine (PUi.out _ (hk0.trans (by repeat (first | assumption | exact Kept.refl _ | apply Kept.drew | apply Kept.drewN | apply Kept.alloc | refine Kept.trans ?_ (by assumption))))).mono ?_; rintro e u1 ⟨v1, rfl, hN1, hu1⟩; obtain ⟨pa, pk, pc, rfl⟩ := natAt_slice hN1)
  (try go_wp2_with fail)
  refine hK2.out _ _ ?_ (fun hHeld => ?_)
  · (try dsimp only)
    exact ⟨Kept.cellSome (w := W) (by repeat (first | assumption | exact Kept.refl _ | apply Kept.drew | apply Kept.drewN | apply Kept.alloc | refine Kept.trans ?_ (by assumption))) d0, Kept.cellSome (w := W) (by repeat (first | assumption | exact Kept.refl _ | apply Kept.drew | apply Kept.drewN | apply Kept.alloc | refine Kept.trans ?_ (by assumption))) d1, (by repeat (first | assumption | exact Kept.refl _ | apply Kept.drew | apply Kept.drewN | apply Kept.alloc | refine Kept.trans ?_ (by assumption)))⟩
  clear hK2 K2
  (try simp only [Act.put, List.setIfInBounds_toArray, List.set_cons_zero, List.set_cons_succ])
  refine wpAnyH_ready (rs := [7]) (by kernel_rfl) (by simp) ?_
  refine AllReadyH.cons (o := { dst := some 15, op := Go.Op.call { callee := Go.Callee.value (Go.Operand.func 87), args := #[Go.Operand.tmp 12, Go.Operand.tmp 13, Go.Operand.tmp 14], argTypes := #[92, 64, 3] }, type := 106, pos := "load.go:108", after := #[{ on := 4, ground := Go.Ground.data }, { on := 5, ground := Go.Ground.data }, { on := 6, ground := Go.Ground.data }, { on := 3, ground := Go.Ground.chain }], guard := none }) rfl (fun K2 hK2 => ?_) AllReadyH.nil
  go_simp
  (go_at_call 87; refine (PUj.out _ (hk0.trans (by repeat (first | assumption | exact Kept.refl _ | apply Kept.drew | apply Kept.drewN | apply Kept.alloc | refine Kept.trans ?_ (by assumption))))).mono ?_; rintro e u2 ⟨v2, rfl, hN2, hu2⟩; obtain ⟨qa, qk, qc, rfl⟩ := natAt_slice hN2)
  (try go_wp2_with fail)
  refine hK2.out _ _ ?_ (fun hHeld => ?_)
  · (try dsimp only)
    exact ⟨Kept.cellSome (w := W) (by repeat (first | assumption | exact Kept.refl _ | apply Kept.drew | apply Kept.drewN | apply Kept.alloc | refine Kept.trans ?_ (by assumption))) d0, Kept.cellSome (w := W) (by repeat (first | assumption | exact Kept.refl _ | apply Kept.drew | apply Kept.drewN | apply Kept.alloc | refine Kept.trans ?_ (by assumption))) d1, (by repeat (first | assumption | exact Kept.refl _ | apply Kept.drew | apply Kept.drewN | apply Kept.alloc | refine Kept.trans ?_ (by assumption)))⟩
  clear hK2 K2
  (try simp only [Act.put, List.setIfInBounds_toArray, List.set_cons_zero, List.set_cons_succ])
  refine wpAnyH_ready (rs := [8]) (by kernel_rfl) (by simp) ?_
  refine AllReadyH.cons (o := { dst := some 16, op := Go.Op.call { callee := Go.Callee.value (Go.Operand.func 74), args := #[Go.Operand.tmp 11, Go.Operand.tmp 15], argTypes := #[106, 106] }, type := 3, pos := "load.go:108", after := #[{ on := 3, ground := Go.Ground.data }, { on := 7, ground := Go.Ground.data }, { on := 7, ground := Go.Ground.chain }], guard := none }) rfl (fun K2 hK2 => ?_) AllReadyH.nil
  go_simp
  (go_at_call 74; refine (CM.out _ _ _ (hN1.kept (by repeat (first | assumption | exact Kept.refl _ | apply Kept.drew | apply Kept.drewN | apply Kept.alloc | refine Kept.trans ?_ (by assumption)))) hN2).mono ?_; rintro e u3 ⟨r, rfl, hu3, hr1, hr2, hr3, hr4⟩)
  (try go_wp2_with fail)
  refine hK2.out _ _ ?_ (fun hHeld => ?_)
  · (try dsimp only)
    exact ⟨Kept.cellSome (w := W) (by repeat (first | assumption | exact Kept.refl _ | apply Kept.drew | apply Kept.drewN | apply Kept.alloc | refine Kept.trans ?_ (by assumption))) d0, Kept.cellSome (w := W) (by repeat (first | assumption | exact Kept.refl _ | apply Kept.drew | apply Kept.drewN | apply Kept.alloc | refine Kept.trans ?_ (by assumption))) d1, (by repeat (first | assumption | exact Kept.refl _ | apply Kept.drew | apply Kept.drewN | apply Kept.alloc | refine Kept.trans ?_ (by assumption)))⟩
  clear hK2 K2
  (try simp only [Act.put, List.setIfInBounds_toArray, List.set_cons_zero, List.set_cons_succ])
  refine wpAnyH_take (i := 9) (oi := { dst := some 17, op := Go.Op.binOp Go.BinOp.lss 3 (Go.Operand.tmp 16) (Go.Operand.const (Go.Value.int Go.IntKind.i64 0)) 3, type := 4, pos := "load.go:108", after := #[{ on := 8, ground := Go.Ground.data }], guard := none }) (v := ?v7) rfl (by kernel_rfl) (by kernel_rfl) (by kernel_rfl) (fun _ _ _ h => h) (Or.inl ⟨by rfl, ?hy7⟩) (by assumption) ?rs7
  case hy7 =>
    intro w hSw
    (try dsimp only at hSw)
    go_simp
    try with_reducible rfl
  (try simp only [Act.put, List.setIfInBounds_toArray, List.set_cons_zero, List.set_cons_succ])
  refine wpAnyH_done (by kernel_rfl) ?_ _
  have hKE : Kept W u3 := (by repeat (first | assumption | exact Kept.refl _ | apply Kept.drew | apply Kept.drewN | apply Kept.alloc | refine Kept.trans ?_ (by assumption)))
  have hKw := hk0.trans hKE
  have d04 := hKE.cellSome d0
  obtain ⟨P, hR, hnN, hZ⟩ := hP.kept hKw
  have hR4 := hR
  have hZ4 := hZ
  clear PUi PUj CM hN1 hN2 hu1 hu2 hu3 d0 d1 hHeld hP hR hZ
  by_cases hneg : r < 0
  · have hlt : pullH Z H i < pullH Z H j := by rw [← HX.out, ← HY.out]; omega
    have HU : Hid (uniteZ Z H i j = unZ Z j i) := by show _ = _; unfold uniteZ; rw [if_pos hlt]
    clear HX HY hlt
    have t0 := hR4.cell (show j < N by omega)
    have t1 := hR4.cell (show i < N by omega)
    have z0' := hZ4 j (by omega)
    have z1' := hZ4 i (by omega)
    have b0 : (j : Int) < (n : Int) := by omega
    have b1 : (i : Int) < (n : Int) := by omega
    have b2 : (0 : Int) ≤ (j : Int) := by omega
    have b3 : (0 : Int) ≤ (i : Int) := by omega
    have hBB := Lib.hid (hS2 j i (by omega) (by omega))
    obtain ⟨a1, k1, c1, e1⟩ := natAt_slice z0'
    obtain ⟨a2, k2, c2, e2⟩ := natAt_slice z1'
    rw [e1] at t0 z0'
    rw [e2] at t1 z1'
    have HR4 := Lib.hid hR4
    have HP4 := Lib.hid (show PartsAt u3 g N n Z from ⟨P, hR4, hnN, hZ4⟩)
    have ZZ0 := Lib.hid z0'
    have ZZ1 := Lib.hid z1'
    clear e1 e2 z0' z1' hZ4 hR4
    go_wp2_with fail
    refine wp_region_held_drew (S := (fun w' => w'.cell? ⟨z0, 0, none⟩ = some (.slice (some ⟨g, 0, none⟩) n cap) ∧ KeptX (fun k => k = g) u3 w')) (by kernel_rfl) ?_ (fun hHeld => ?_)
    · (try dsimp only)
      first | exact ⟨d04, (KeptX.refl _ _)⟩ | exact ⟨d04, (KeptX.refl _ _).drew⟩ | exact ⟨d04, ((KeptX.refl _ _).drewN _)⟩ | exact ⟨d04, ((KeptX.refl _ _).drew).drew⟩
    refine wpAnyH_take (i := 0) (oi := { dst := some 20, op := Go.Op.fieldAddr 92 (Go.Operand.tmp 4) 0, type := 0, pos := "load.go:111", after := #[], guard := none }) (v := ?v8) rfl (by kernel_rfl) (by kernel_rfl) (by kernel_rfl) (fun _ _ _ h => h) (Or.inl ⟨by rfl, ?hy8⟩) (by assumption) ?rs8
    case hy8 =>
      intro w hSw
      (try dsimp only at hSw)
      go_simp
      try with_reducible rfl
    (try simp only [Act.put, List.setIfInBounds_toArray, List.set_cons_zero, List.set_cons_succ])
    refine wpAnyH_take (i := 1) (oi := { dst := some 21, op := Go.Op.load 89 (Go.Operand.tmp 20), type := 89, pos := "load.go:111", after := #[{ on := 0, ground := Go.Ground.data }], guard := none }) (v := ?v9) rfl (by kernel_rfl) (by kernel_rfl) (by kernel_rfl) (fun _ _ _ h => h) (Or.inl ⟨by rfl, ?hy9⟩) (by assumption) ?rs9
    case hy9 =>
      intro w hSw
      (try dsimp only at hSw)
      go_simp
      try with_reducible rfl
    (try simp only [Act.put, List.setIfInBounds_toArray, List.set_cons_zero, List.set_cons_succ])
    refine wpAnyH_take (i := 2) (oi := { dst := some 22, op := Go.Op.move (Go.Operand.tmp 2), type := 3, pos := "load.go:111", after := #[], guard := none }) (v := ?v10) rfl (by kernel_rfl) (by kernel_rfl) (by kernel_rfl) (fun _ _ _ h => h) (Or.inl ⟨by rfl, ?hy10⟩) (by assumption) ?rs10
    case hy10 =>
      intro w hSw
      (try dsimp only at hSw)
      go_simp
      try with_reducible rfl
    (try simp only [Act.put, List.setIfInBounds_toArray, List.set_cons_zero, List.set_cons_succ])
    refine wpAnyH_take (i := 3) (oi := { dst := some 23, op := Go.Op.fieldAddr 92 (Go.Operand.tmp 4) 0, type := 0, pos := "load.go:111", after := #[], guard := none }) (v := ?v11) rfl (by kernel_rfl) (by kernel_rfl) (by kernel_rfl) (fun _ _ _ h => h) (Or.inl ⟨by rfl, ?hy11⟩) (by assumption) ?rs11
    case hy11 =>
      intro w hSw
      (try dsimp only at hSw)
      go_simp
      try with_reducible rfl
    (try simp only [Act.put, List.setIfInBounds_toArray, List.set_cons_zero, List.set_cons_succ])
    refine wpAnyH_take (i := 4) (oi := { dst := some 24, op := Go.Op.load 89 (Go.Operand.tmp 23), type := 89, pos := "load.go:111", after := #[{ on := 3, ground := Go.Ground.data }], guard := none }) (v := ?v12) rfl (by kernel_rfl) (by kernel_rfl) (by kernel_rfl) (fun _ _ _ h => h) (Or.inl ⟨by rfl, ?hy12⟩) (by assumption) ?rs12
    case hy12 =>
      intro w hSw
      (try dsimp only at hSw)
      go_simp
      try with_reducible rfl
    (try simp only [Act.put, List.setIfInBounds_toArray, List.set_cons_zero, List.set_cons_succ])
    refine wpAnyH_take (i := 5) (oi := { dst := some 25, op := Go.Op.move (Go.Operand.tmp 2), type := 3, pos := "load.go:111", after := #[], guard := none }) (v := ?v13) rfl (by kernel_rfl) (by kernel_rfl) (by kernel_rfl) (fun _ _ _ h => h) (Or.inl ⟨by rfl, ?hy13⟩) (by assumption) ?rs13
    case hy13 =>
      intro w hSw
      (try dsimp only at hSw)
      go_simp
      try with_reducible rfl
    (try simp only [Act.put, List.setIfInBounds_toArray, List.set_cons_zero, List.set_cons_succ])
    refine wpAnyH_take (i := 6) (oi := { dst := some 26, op := Go.Op.indexAddr 89 (Go.Operand.tmp 24) (Go.Operand.tmp 25), type := 0, pos := "load.go:111", after := #[{ on := 4, ground := Go.Ground.data }, { on := 5, ground := Go.Ground.data }], guard := none }) (v := ?v14) rfl (by kernel_rfl) (by kernel_rfl) (by kernel_rfl) (fun _ _ _ h => h) (Or.inl ⟨by rfl, ?hy14⟩) (by assumption) ?rs14
    case hy14 =>
      intro w hSw
      (try dsimp only at hSw)
      go_simp
      try with_reducible rfl
    (try simp only [Act.put, List.setIfInBounds_toArray, List.set_cons_zero, List.set_cons_succ])
    refine wpAnyH_take (i := 8) (oi := { dst := some 28, op := Go.Op.fieldAddr 92 (Go.Operand.tmp 4) 0, type := 0, pos := "load.go:111", after := #[], guard := none }) (v := ?v15) rfl (by kernel_rfl) (by kernel_rfl) (by kernel_rfl) (fun _ _ _ h => h) (Or.inl ⟨by rfl, ?hy15⟩) (by assumption) ?rs15
    case hy15 =>
      intro w hSw
      (try dsimp only at hSw)
      go_simp
      try with_reducible rfl
    (try simp only [Act.put, List.setIfInBounds_toArray, List.set_cons_zero, List.set_cons_succ])
    refine wpAnyH_take (i := 9) (oi := { dst := some 29, op := Go.Op.load 89 (Go.Operand.tmp 28), type := 89, pos := "load.go:111", after := #[{ on := 8, ground := Go.Ground.data }], guard := none }) (v := ?v16) rfl (by kernel_rfl) (by kernel_rfl) (by kernel_rfl) (fun _ _ _ h => h) (Or.inl ⟨by rfl, ?hy16⟩) (by assumption) ?rs16
    case hy16 =>
      intro w hSw
      (try dsimp only at hSw)
      go_simp
      try with_reducible rfl
    (try simp only [Act.put, List.setIfInBounds_toArray, List.set_cons_zero, List.set_cons_succ])
    refine wpAnyH_take (i := 10) (oi := { dst := some 30, op := Go.Op.move (Go.Operand.tmp 3), type := 3, pos := "load.go:111", after := #[], guard := none }) (v := ?v17) rfl (by kernel_rfl) (by kernel_rfl) (by kernel_rfl) (fun _ _ _ h => h) (Or.inl ⟨by rfl, ?hy17⟩) (by assumption) ?rs17
    case hy17 =>
      intro w hSw
      (try dsimp only at hSw)
      go_simp
      try with_reducible rfl
    (try simp only [Act.put, List.setIfInBounds_toArray, List.set_cons_zero, List.set_cons_succ])
    refine wpAnyH_take (i := 11) (oi := { dst := some 31, op := Go.Op.indexAddr 89 (Go.Operand.tmp 29) (Go.Operand.tmp 30), type := 0, pos := "load.go:111", after := #[{ on := 9, ground := Go.Ground.data }, { on := 10, ground := Go.Ground.data }], guard := none }) (v := ?v18) rfl (by kernel_rfl) (by kernel_rfl) (by kernel_rfl) (fun _ _ _ h => h) (Or.inl ⟨by rfl, ?hy18⟩) (by assumption) ?rs18
    case hy18 =>
      intro w hSw
      (try dsimp only at hSw)
      go_simp
      try with_reducible rfl
    (try simp only [Act.put, List.setIfInBounds_toArray, List.set_cons_zero, List.set_cons_succ])
    refine wpAnyH_ready (rs := [7, 12]) (by kernel_rfl) (by simp) ?_
    refine AllReadyH.cons (o := { dst := some 27, op := Go.Op.load 106 (Go.Operand.tmp 26), type := 106, pos := "load.go:111", after := #[{ on := 6, ground := Go.Ground.data }], guard := none }) rfl (fun K2 hK2 => ?_) (AllReadyH.cons (o := { dst := some 32, op := Go.Op.load 106 (Go.Operand.tmp 31), type := 106, pos := "load.go:111", after := #[{ on := 11, ground := Go.Ground.data }], guard := none }) rfl (fun K3 hK3 => ?_) AllReadyH.nil)
    · skip
      go_simp
      refine hK2.out _ _ ?_ (fun hHeld => ?_)
      · (try dsimp only)
        first | exact ⟨d04, (KeptX.refl _ _)⟩ | exact ⟨d04, (KeptX.refl _ _).drew⟩ | exact ⟨d04, ((KeptX.refl _ _).drewN _)⟩ | exact ⟨d04, ((KeptX.refl _ _).drew).drew⟩
      (try simp only [Act.put, List.setIfInBounds_toArray, List.set_cons_zero, List.set_cons_succ])
      refine wpAnyH_ready (rs := [12]) (by kernel_rfl) (by simp) ?_
      refine AllReadyH.cons (o := { dst := some 32, op := Go.Op.load 106 (Go.Operand.tmp 31), type := 106, pos := "load.go:111", after := #[{ on := 11, ground := Go.Ground.data }], guard := none }) rfl (fun Kb hK3b => ?_) AllReadyH.nil
      go_simp
      refine hK3b.out _ _ ?_ (fun hHeld => ?_)
      · (try dsimp only)
        first | exact ⟨d04, (KeptX.refl _ _)⟩ | exact ⟨d04, (KeptX.refl _ _).drew⟩ | exact ⟨d04, ((KeptX.refl _ _).drewN _)⟩ | exact ⟨d04, ((KeptX.refl _ _).drew).drew⟩
      (try simp only [Act.put, List.setIfInBounds_toArray, List.set_cons_zero, List.set_cons_succ])
      refine wpAnyH_ready (rs := [13]) (by kernel_rfl) (by simp) ?_
      refine AllReadyH.cons (o := { dst := some 33, op := Go.Op.call { callee := Go.Callee.value (Go.Operand.func 78), args := #[Go.Operand.tmp 27, Go.Operand.tmp 32], argTypes := #[106, 106] }, type := 106, pos := "load.go:111", after := #[{ on := 7, ground := Go.Ground.data }, { on := 12, ground := Go.Ground.data }], guard := none }) rfl (fun K4 hK4 => ?_) AllReadyH.nil
      go_simp
      (go_at_call 78; refine (plus_any _ _ _ _ _ (ZZ0.out.kept (by repeat (first | assumption | exact Kept.refl _ | apply Kept.drew | apply Kept.drewN | apply Kept.alloc | refine Kept.trans ?_ (by assumption)))) (ZZ1.out.kept (by repeat (first | assumption | exact Kept.refl _ | apply Kept.drew | apply Kept.drewN | apply Kept.alloc | refine Kept.trans ?_ (by assumption)))) hBB.out).mono ?_; rintro e w5 ⟨v5, rfl, hN5, hK5⟩; obtain ⟨a5, k5, c5, rfl⟩ := natAt_slice hN5)
      (try go_wp2_with fail)
      have hK5' : Kept u3 w5 := by first | exact hK5 | exact Kept.trans ((Kept.refl _).drew) hK5 | exact Kept.trans ((Kept.refl _).drewN _) hK5
      have d05 := hK5'.cellSome d04
      have t05 := hK5'.cellSome t0
      have hR5 := hK5'.row HR4.out
      have f05 := hR5.frozen j
      have f15 := hR5.frozen i
      have HP5 := Lib.hid (HP4.out.kept hK5')
      have hX5 : KeptX (fun k => k = g) u3 w5 := hK5'.weaken (fun _ h => h.elim)
      have hX6 := hX5.setIn j (.slice a5 k5 c5)
      have d06 := KeptX.cellSome ((KeptX.refl (fun k => k = g) w5).setIn j (.slice a5 k5 c5)) d05 (show ¬ z0 = g from hzg)
      refine hK4.out _ _ ?_ (fun hHeld => ?_)
      · (try dsimp only)
        exact ⟨d05, hX5⟩
      (try simp only [Act.put, List.setIfInBounds_toArray, List.set_cons_zero, List.set_cons_succ])
      refine wpAnyH_take (i := 14) (oi := { dst := some 34, op := Go.Op.indexAddr 89 (Go.Operand.tmp 21) (Go.Operand.tmp 22), type := 0, pos := "load.go:111", after := #[{ on := 1, ground := Go.Ground.data }, { on := 2, ground := Go.Ground.data }, { on := 0, ground := Go.Ground.phase }, { on := 1, ground := Go.Ground.phase }, { on := 2, ground := Go.Ground.phase }, { on := 3, ground := Go.Ground.phase }, { on := 4, ground := Go.Ground.phase }, { on := 5, ground := Go.Ground.phase }, { on := 6, ground := Go.Ground.phase }, { on := 7, ground := Go.Ground.phase }, { on := 8, ground := Go.Ground.phase }, { on := 9, ground := Go.Ground.phase }, { on := 10, ground := Go.Ground.phase }, { on := 11, ground := Go.Ground.phase }, { on := 12, ground := Go.Ground.phase }, { on := 13, ground := Go.Ground.phase }], guard := none }) (v := ?v19) rfl (by kernel_rfl) (by kernel_rfl) (by kernel_rfl) (fun _ _ _ h => h) (Or.inl ⟨by rfl, ?hy19⟩) (by assumption) ?rs19
      case hy19 =>
        intro w hSw
        (try dsimp only at hSw)
        go_simp
        try with_reducible rfl
      (try simp only [Act.put, List.setIfInBounds_toArray, List.set_cons_zero, List.set_cons_succ])
      refine wpAnyH_ready (rs := [15]) (by kernel_rfl) (by simp) ?_
      refine AllReadyH.cons (o := { dst := none, op := Go.Op.store 106 (Go.Operand.tmp 34) (Go.Operand.tmp 33), type := 0, pos := "load.go:111", after := #[{ on := 14, ground := Go.Ground.data }, { on := 13, ground := Go.Ground.data }, { on := 13, ground := Go.Ground.chain }, { on := 0, ground := Go.Ground.phase }, { on := 1, ground := Go.Ground.phase }, { on := 2, ground := Go.Ground.phase }, { on := 3, ground := Go.Ground.phase }, { on := 4, ground := Go.Ground.phase }, { on := 5, ground := Go.Ground.phase }, { on := 6, ground := Go.Ground.phase }, { on := 7, ground := Go.Ground.phase }, { on := 8, ground := Go.Ground.phase }, { on := 9, ground := Go.Ground.phase }, { on := 10, ground := Go.Ground.phase }, { on := 11, ground := Go.Ground.phase }, { on := 12, ground := Go.Ground.phase }, { on := 13, ground := Go.Ground.phase }], guard := none }) rfl (fun K5 hK5z => ?_) AllReadyH.nil
      go_simp
      refine hK5z.out _ _ ?_ (fun hHeld => ?_)
      · (try dsimp only)
        exact ⟨d06, hX6⟩
      (try simp only [Act.put, List.setIfInBounds_toArray, List.set_cons_zero, List.set_cons_succ])
      refine wpAnyH_done (by kernel_rfl) ?_ _
      have HP6 := HP5.out.set j (by omega) hN5
      have hI6 := HP5.out.ints j (by omega) (.slice a5 k5 c5)
      have HP6h := Lib.hid HP6
      obtain ⟨P6, hR6, hnN6, hZ6⟩ := HP6
      have t16 := hR6.cell (show i < N by omega)
      have f16 := hR6.frozen i
      have HP7 := Lib.hid (HP6h.out.set i (by omega) (NatAt.nil _))
      have hI7 := HP6h.out.ints i (by omega) (.slice none 0 0)
      have HIA := Lib.hid (((Kept.ints (hKw.trans hK5')).trans hI6).trans hI7)
      have hX7 := hX6.setIn i (.slice none 0 0)
      clear hI6 hI7 hR6 hZ6 HP6h HP5 hR5 t05 f05 f15 hK5 hK5' hX5
      go_wp2_with fail
      go_end0
      refine ⟨rfl, KeptX.weaken (KeptX.trans (hKw.weaken (fun _ h => h.elim)) hX7) (fun _ h => h), HIA.out, ?_⟩
      rw [HU.out]
      exact HP7.out
    · skip
      go_simp
      refine hK3.out _ _ ?_ (fun hHeld => ?_)
      · (try dsimp only)
        first | exact ⟨d04, (KeptX.refl _ _)⟩ | exact ⟨d04, (KeptX.refl _ _).drew⟩ | exact ⟨d04, ((KeptX.refl _ _).drewN _)⟩ | exact ⟨d04, ((KeptX.refl _ _).drew).drew⟩
      (try simp only [Act.put, List.setIfInBounds_toArray, List.set_cons_zero, List.set_cons_succ])
      refine wpAnyH_ready (rs := [7]) (by kernel_rfl) (by simp) ?_
      refine AllReadyH.cons (o := { dst := some 27, op := Go.Op.load 106 (Go.Operand.tmp 26), type := 106, pos := "load.go:111", after := #[{ on := 6, ground := Go.Ground.data }], guard := none }) rfl (fun Kb hK2b => ?_) AllReadyH.nil
      go_simp
      refine hK2b.out _ _ ?_ (fun hHeld => ?_)
      · (try dsimp only)
        first | exact ⟨d04, (KeptX.refl _ _)⟩ | exact ⟨d04, (KeptX.refl _ _).drew⟩ | exact ⟨d04, ((KeptX.refl _ _).drewN _)⟩ | exact ⟨d04, ((KeptX.refl _ _).drew).drew⟩
      (try simp only [Act.put, List.setIfInBounds_toArray, List.set_cons_zero, List.set_cons_succ])
      refine wpAnyH_ready (rs := [13]) (by kernel_rfl) (by simp) ?_
      refine AllReadyH.cons (o := { dst := some 33, op := Go.Op.call { callee := Go.Callee.value (Go.Operand.func 78), args := #[Go.Operand.tmp 27, Go.Operand.tmp 32], argTypes := #[106, 106] }, type := 106, pos := "load.go:111", after := #[{ on := 7, ground := Go.Ground.data }, { on := 12, ground := Go.Ground.data }], guard := none }) rfl (fun K4 hK4 => ?_) AllReadyH.nil
      go_simp
      (go_at_call 78; refine (plus_any _ _ _ _ _ (ZZ0.out.kept (by repeat (first | assumption | exact Kept.refl _ | apply Kept.drew | apply Kept.drewN | apply Kept.alloc | refine Kept.trans ?_ (by assumption)))) (ZZ1.out.kept (by repeat (first | assumption | exact Kept.refl _ | apply Kept.drew | apply Kept.drewN | apply Kept.alloc | refine Kept.trans ?_ (by assumption)))) hBB.out).mono ?_; rintro e w5 ⟨v5, rfl, hN5, hK5⟩; obtain ⟨a5, k5, c5, rfl⟩ := natAt_slice hN5)
      (try go_wp2_with fail)
      have hK5' : Kept u3 w5 := by first | exact hK5 | exact Kept.trans ((Kept.refl _).drew) hK5 | exact Kept.trans ((Kept.refl _).drewN _) hK5
      have d05 := hK5'.cellSome d04
      have t05 := hK5'.cellSome t0
      have hR5 := hK5'.row HR4.out
      have f05 := hR5.frozen j
      have f15 := hR5.frozen i
      have HP5 := Lib.hid (HP4.out.kept hK5')
      have hX5 : KeptX (fun k => k = g) u3 w5 := hK5'.weaken (fun _ h => h.elim)
      have hX6 := hX5.setIn j (.slice a5 k5 c5)
      have d06 := KeptX.cellSome ((KeptX.refl (fun k => k = g) w5).setIn j (.slice a5 k5 c5)) d05 (show ¬ z0 = g from hzg)
      refine hK4.out _ _ ?_ (fun hHeld => ?_)
      · (try dsimp only)
        exact ⟨d05, hX5⟩
      (try simp only [Act.put, List.setIfInBounds_toArray, List.set_cons_zero, List.set_cons_succ])
      refine wpAnyH_take (i := 14) (oi := { dst := some 34, op := Go.Op.indexAddr 89 (Go.Operand.tmp 21) (Go.Operand.tmp 22), type := 0, pos := "load.go:111", after := #[{ on := 1, ground := Go.Ground.data }, { on := 2, ground := Go.Ground.data }, { on := 0, ground := Go.Ground.phase }, { on := 1, ground := Go.Ground.phase }, { on := 2, ground := Go.Ground.phase }, { on := 3, ground := Go.Ground.phase }, { on := 4, ground := Go.Ground.phase }, { on := 5, ground := Go.Ground.phase }, { on := 6, ground := Go.Ground.phase }, { on := 7, ground := Go.Ground.phase }, { on := 8, ground := Go.Ground.phase }, { on := 9, ground := Go.Ground.phase }, { on := 10, ground := Go.Ground.phase }, { on := 11, ground := Go.Ground.phase }, { on := 12, ground := Go.Ground.phase }, { on := 13, ground := Go.Ground.phase }], guard := none }) (v := ?v20) rfl (by kernel_rfl) (by kernel_rfl) (by kernel_rfl) (fun _ _ _ h => h) (Or.inl ⟨by rfl, ?hy20⟩) (by assumption) ?rs20
      case hy20 =>
        intro w hSw
        (try dsimp only at hSw)
        go_simp
        try with_reducible rfl
      (try simp only [Act.put, List.setIfInBounds_toArray, List.set_cons_zero, List.set_cons_succ])
      refine wpAnyH_ready (rs := [15]) (by kernel_rfl) (by simp) ?_
      refine AllReadyH.cons (o := { dst := none, op := Go.Op.store 106 (Go.Operand.tmp 34) (Go.Operand.tmp 33), type := 0, pos := "load.go:111", after := #[{ on := 14, ground := Go.Ground.data }, { on := 13, ground := Go.Ground.data }, { on := 13, ground := Go.Ground.chain }, { on := 0, ground := Go.Ground.phase }, { on := 1, ground := Go.Ground.phase }, { on := 2, ground := Go.Ground.phase }, { on := 3, ground := Go.Ground.phase }, { on := 4, ground := Go.Ground.phase }, { on := 5, ground := Go.Ground.phase }, { on := 6, ground := Go.Ground.phase }, { on := 7, ground := Go.Ground.phase }, { on := 8, ground := Go.Ground.phase }, { on := 9, ground := Go.Ground.phase }, { on := 10, ground := Go.Ground.phase }, { on := 11, ground := Go.Ground.phase }, { on := 12, ground := Go.Ground.phase }, { on := 13, ground := Go.Ground.phase }], guard := none }) rfl (fun K5 hK5z => ?_) AllReadyH.nil
      go_simp
      refine hK5z.out _ _ ?_ (fun hHeld => ?_)
      · (try dsimp only)
        exact ⟨d06, hX6⟩
      (try simp only [Act.put, List.setIfInBounds_toArray, List.set_cons_zero, List.set_cons_succ])
      refine wpAnyH_done (by kernel_rfl) ?_ _
      have HP6 := HP5.out.set j (by omega) hN5
      have hI6 := HP5.out.ints j (by omega) (.slice a5 k5 c5)
      have HP6h := Lib.hid HP6
      obtain ⟨P6, hR6, hnN6, hZ6⟩ := HP6
      have t16 := hR6.cell (show i < N by omega)
      have f16 := hR6.frozen i
      have HP7 := Lib.hid (HP6h.out.set i (by omega) (NatAt.nil _))
      have hI7 := HP6h.out.ints i (by omega) (.slice none 0 0)
      have HIA := Lib.hid (((Kept.ints (hKw.trans hK5')).trans hI6).trans hI7)
      have hX7 := hX6.setIn i (.slice none 0 0)
      clear hI6 hI7 hR6 hZ6 HP6h HP5 hR5 t05 f05 f15 hK5 hK5' hX5
      go_wp2_with fail
      go_end0
      refine ⟨rfl, KeptX.weaken (KeptX.trans (hKw.weaken (fun _ h => h.elim)) hX7) (fun _ h => h), HIA.out, ?_⟩
      rw [HU.out]
      exact HP7.out
  · have hlt : ¬ pullH Z H i < pullH Z H j := by rw [← HX.out, ← HY.out]; omega
    have HU : Hid (uniteZ Z H i j = unZ Z i j) := by show _ = _; unfold uniteZ; rw [if_neg hlt]
    clear HX HY hlt
    have t0 := hR4.cell (show i < N by omega)
    have t1 := hR4.cell (show j < N by omega)
    have z0' := hZ4 i (by omega)
    have z1' := hZ4 j (by omega)
    have b0 : (i : Int) < (n : Int) := by omega
    have b1 : (j : Int) < (n : Int) := by omega
    have b2 : (0 : Int) ≤ (i : Int) := by omega
    have b3 : (0 : Int) ≤ (j : Int) := by omega
    have hBB := Lib.hid (hS2 i j (by omega) (by omega))
    obtain ⟨a1, k1, c1, e1⟩ := natAt_slice z0'
    obtain ⟨a2, k2, c2, e2⟩ := natAt_slice z1'
    rw [e1] at t0 z0'
    rw [e2] at t1 z1'
    have HR4 := Lib.hid hR4
    have HP4 := Lib.hid (show PartsAt u3 g N n Z from ⟨P, hR4, hnN, hZ4⟩)
    have ZZ0 := Lib.hid z0'
    have ZZ1 := Lib.hid z1'
    clear e1 e2 z0' z1' hZ4 hR4
    go_wp2_with fail
    refine wp_region_held_drew (S := (fun w' => w'.cell? ⟨z0, 0, none⟩ = some (.slice (some ⟨g, 0, none⟩) n cap) ∧ KeptX (fun k => k = g) u3 w')) (by kernel_rfl) ?_ (fun hHeld => ?_)
    · (try dsimp only)
      first | exact ⟨d04, (KeptX.refl _ _)⟩ | exact ⟨d04, (KeptX.refl _ _).drew⟩ | exact ⟨d04, ((KeptX.refl _ _).drewN _)⟩ | exact ⟨d04, ((KeptX.refl _ _).drew).drew⟩
    refine wpAnyH_take (i := 0) (oi := { dst := some 20, op := Go.Op.fieldAddr 92 (Go.Operand.tmp 4) 0, type := 0, pos := "load.go:111", after := #[], guard := none }) (v := ?v21) rfl (by kernel_rfl) (by kernel_rfl) (by kernel_rfl) (fun _ _ _ h => h) (Or.inl ⟨by rfl, ?hy21⟩) (by assumption) ?rs21
    case hy21 =>
      intro w hSw
      (try dsimp only at hSw)
      go_simp
      try with_reducible rfl
    (try simp only [Act.put, List.setIfInBounds_toArray, List.set_cons_zero, List.set_cons_succ])
    refine wpAnyH_take (i := 1) (oi := { dst := some 21, op := Go.Op.load 89 (Go.Operand.tmp 20), type := 89, pos := "load.go:111", after := #[{ on := 0, ground := Go.Ground.data }], guard := none }) (v := ?v22) rfl (by kernel_rfl) (by kernel_rfl) (by kernel_rfl) (fun _ _ _ h => h) (Or.inl ⟨by rfl, ?hy22⟩) (by assumption) ?rs22
    case hy22 =>
      intro w hSw
      (try dsimp only at hSw)
      go_simp
      try with_reducible rfl
    (try simp only [Act.put, List.setIfInBounds_toArray, List.set_cons_zero, List.set_cons_succ])
    refine wpAnyH_take (i := 2) (oi := { dst := some 22, op := Go.Op.move (Go.Operand.tmp 2), type := 3, pos := "load.go:111", after := #[], guard := none }) (v := ?v23) rfl (by kernel_rfl) (by kernel_rfl) (by kernel_rfl) (fun _ _ _ h => h) (Or.inl ⟨by rfl, ?hy23⟩) (by assumption) ?rs23
    case hy23 =>
      intro w hSw
      (try dsimp only at hSw)
      go_simp
      try with_reducible rfl
    (try simp only [Act.put, List.setIfInBounds_toArray, List.set_cons_zero, List.set_cons_succ])
    refine wpAnyH_take (i := 3) (oi := { dst := some 23, op := Go.Op.fieldAddr 92 (Go.Operand.tmp 4) 0, type := 0, pos := "load.go:111", after := #[], guard := none }) (v := ?v24) rfl (by kernel_rfl) (by kernel_rfl) (by kernel_rfl) (fun _ _ _ h => h) (Or.inl ⟨by rfl, ?hy24⟩) (by assumption) ?rs24
    case hy24 =>
      intro w hSw
      (try dsimp only at hSw)
      go_simp
      try with_reducible rfl
    (try simp only [Act.put, List.setIfInBounds_toArray, List.set_cons_zero, List.set_cons_succ])
    refine wpAnyH_take (i := 4) (oi := { dst := some 24, op := Go.Op.load 89 (Go.Operand.tmp 23), type := 89, pos := "load.go:111", after := #[{ on := 3, ground := Go.Ground.data }], guard := none }) (v := ?v25) rfl (by kernel_rfl) (by kernel_rfl) (by kernel_rfl) (fun _ _ _ h => h) (Or.inl ⟨by rfl, ?hy25⟩) (by assumption) ?rs25
    case hy25 =>
      intro w hSw
      (try dsimp only at hSw)
      go_simp
      try with_reducible rfl
    (try simp only [Act.put, List.setIfInBounds_toArray, List.set_cons_zero, List.set_cons_succ])
    refine wpAnyH_take (i := 5) (oi := { dst := some 25, op := Go.Op.move (Go.Operand.tmp 2), type := 3, pos := "load.go:111", after := #[], guard := none }) (v := ?v26) rfl (by kernel_rfl) (by kernel_rfl) (by kernel_rfl) (fun _ _ _ h => h) (Or.inl ⟨by rfl, ?hy26⟩) (by assumption) ?rs26
    case hy26 =>
      intro w hSw
      (try dsimp only at hSw)
      go_simp
      try with_reducible rfl
    (try simp only [Act.put, List.setIfInBounds_toArray, List.set_cons_zero, List.set_cons_succ])
    refine wpAnyH_take (i := 6) (oi := { dst := some 26, op := Go.Op.indexAddr 89 (Go.Operand.tmp 24) (Go.Operand.tmp 25), type := 0, pos := "load.go:111", after := #[{ on := 4, ground := Go.Ground.data }, { on := 5, ground := Go.Ground.data }], guard := none }) (v := ?v27) rfl (by kernel_rfl) (by kernel_rfl) (by kernel_rfl) (fun _ _ _ h => h) (Or.inl ⟨by rfl, ?hy27⟩) (by assumption) ?rs27
    case hy27 =>
      intro w hSw
      (try dsimp only at hSw)
      go_simp
      try with_reducible rfl
    (try simp only [Act.put, List.setIfInBounds_toArray, List.set_cons_zero, List.set_cons_succ])
    refine wpAnyH_take (i := 8) (oi := { dst := some 28, op := Go.Op.fieldAddr 92 (Go.Operand.tmp 4) 0, type := 0, pos := "load.go:111", after := #[], guard := none }) (v := ?v28) rfl (by kernel_rfl) (by kernel_rfl) (by kernel_rfl) (fun _ _ _ h => h) (Or.inl ⟨by rfl, ?hy28⟩) (by assumption) ?rs28
    case hy28 =>
      intro w hSw
      (try dsimp only at hSw)
      go_simp
      try with_reducible rfl
    (try simp only [Act.put, List.setIfInBounds_toArray, List.set_cons_zero, List.set_cons_succ])
    refine wpAnyH_take (i := 9) (oi := { dst := some 29, op := Go.Op.load 89 (Go.Operand.tmp 28), type := 89, pos := "load.go:111", after := #[{ on := 8, ground := Go.Ground.data }], guard := none }) (v := ?v29) rfl (by kernel_rfl) (by kernel_rfl) (by kernel_rfl) (fun _ _ _ h => h) (Or.inl ⟨by rfl, ?hy29⟩) (by assumption) ?rs29
    case hy29 =>
      intro w hSw
      (try dsimp only at hSw)
      go_simp
      try with_reducible rfl
    (try simp only [Act.put, List.setIfInBounds_toArray, List.set_cons_zero, List.set_cons_succ])
    refine wpAnyH_take (i := 10) (oi := { dst := some 30, op := Go.Op.move (Go.Operand.tmp 3), type := 3, pos := "load.go:111", after := #[], guard := none }) (v := ?v30) rfl (by kernel_rfl) (by kernel_rfl) (by kernel_rfl) (fun _ _ _ h => h) (Or.inl ⟨by rfl, ?hy30⟩) (by assumption) ?rs30
    case hy30 =>
      intro w hSw
      (try dsimp only at hSw)
      go_simp
      try with_reducible rfl
    (try simp only [Act.put, List.setIfInBounds_toArray, List.set_cons_zero, List.set_cons_succ])
    refine wpAnyH_take (i := 11) (oi := { dst := some 31, op := Go.Op.indexAddr 89 (Go.Operand.tmp 29) (Go.Operand.tmp 30), type := 0, pos := "load.go:111", after := #[{ on := 9, ground := Go.Ground.data }, { on := 10, ground := Go.Ground.data }], guard := none }) (v := ?v31) rfl (by kernel_rfl) (by kernel_rfl) (by kernel_rfl) (fun _ _ _ h => h) (Or.inl ⟨by rfl, ?hy31⟩) (by assumption) ?rs31
    case hy31 =>
      intro w hSw
      (try dsimp only at hSw)
      go_simp
      try with_reducible rfl
    (try simp only [Act.put, List.setIfInBounds_toArray, List.set_cons_zero, List.set_cons_succ])
    refine wpAnyH_ready (rs := [7, 12]) (by kernel_rfl) (by simp) ?_
    refine AllReadyH.cons (o := { dst := some 27, op := Go.Op.load 106 (Go.Operand.tmp 26), type := 106, pos := "load.go:111", after := #[{ on := 6, ground := Go.Ground.data }], guard := none }) rfl (fun K2 hK2 => ?_) (AllReadyH.cons (o := { dst := some 32, op := Go.Op.load 106 (Go.Operand.tmp 31), type := 106, pos := "load.go:111", after := #[{ on := 11, ground := Go.Ground.data }], guard := none }) rfl (fun K3 hK3 => ?_) AllReadyH.nil)
    · skip
      go_simp
      refine hK2.out _ _ ?_ (fun hHeld => ?_)
      · (try dsimp only)
        first | exact ⟨d04, (KeptX.refl _ _)⟩ | exact ⟨d04, (KeptX.refl _ _).drew⟩ | exact ⟨d04, ((KeptX.refl _ _).drewN _)⟩ | exact ⟨d04, ((KeptX.refl _ _).drew).drew⟩
      (try simp only [Act.put, List.setIfInBounds_toArray, List.set_cons_zero, List.set_cons_succ])
      refine wpAnyH_ready (rs := [12]) (by kernel_rfl) (by simp) ?_
      refine AllReadyH.cons (o := { dst := some 32, op := Go.Op.load 106 (Go.Operand.tmp 31), type := 106, pos := "load.go:111", after := #[{ on := 11, ground := Go.Ground.data }], guard := none }) rfl (fun Kb hK3b => ?_) AllReadyH.nil
      go_simp
      refine hK3b.out _ _ ?_ (fun hHeld => ?_)
      · (try dsimp only)
        first | exact ⟨d04, (KeptX.refl _ _)⟩ | exact ⟨d04, (KeptX.refl _ _).drew⟩ | exact ⟨d04, ((KeptX.refl _ _).drewN _)⟩ | exact ⟨d04, ((KeptX.refl _ _).drew).drew⟩
      (try simp only [Act.put, List.setIfInBounds_toArray, List.set_cons_zero, List.set_cons_succ])
      refine wpAnyH_ready (rs := [13]) (by kernel_rfl) (by simp) ?_
      refine AllReadyH.cons (o := { dst := some 33, op := Go.Op.call { callee := Go.Callee.value (Go.Operand.func 78), args := #[Go.Operand.tmp 27, Go.Operand.tmp 32], argTypes := #[106, 106] }, type := 106, pos := "load.go:111", after := #[{ on := 7, ground := Go.Ground.data }, { on := 12, ground := Go.Ground.data }], guard := none }) rfl (fun K4 hK4 => ?_) AllReadyH.nil
      go_simp
      (go_at_call 78; refine (plus_any _ _ _ _ _ (ZZ0.out.kept (by repeat (first | assumption | exact Kept.refl _ | apply Kept.drew | apply Kept.drewN | apply Kept.alloc | refine Kept.trans ?_ (by assumption)))) (ZZ1.out.kept (by repeat (first | assumption | exact Kept.refl _ | apply Kept.drew | apply Kept.drewN | apply Kept.alloc | refine Kept.trans ?_ (by assumption)))) hBB.out).mono ?_; rintro e w5 ⟨v5, rfl, hN5, hK5⟩; obtain ⟨a5, k5, c5, rfl⟩ := natAt_slice hN5)
      (try go_wp2_with fail)
      have hK5' : Kept u3 w5 := by first | exact hK5 | exact Kept.trans ((Kept.refl _).drew) hK5 | exact Kept.trans ((Kept.refl _).drewN _) hK5
      have d05 := hK5'.cellSome d04
      have t05 := hK5'.cellSome t0
      have hR5 := hK5'.row HR4.out
      have f05 := hR5.frozen i
      have f15 := hR5.frozen j
      have HP5 := Lib.hid (HP4.out.kept hK5')
      have hX5 : KeptX (fun k => k = g) u3 w5 := hK5'.weaken (fun _ h => h.elim)
      have hX6 := hX5.setIn i (.slice a5 k5 c5)
      have d06 := KeptX.cellSome ((KeptX.refl (fun k => k = g) w5).setIn i (.slice a5 k5 c5)) d05 (show ¬ z0 = g from hzg)
      refine hK4.out _ _ ?_ (fun hHeld => ?_)
      · (try dsimp only)
        exact ⟨d05, hX5⟩
      (try simp only [Act.put, List.setIfInBounds_toArray, List.set_cons_zero, List.set_cons_succ])
      refine wpAnyH_take (i := 14) (oi := { dst := some 34, op := Go.Op.indexAddr 89 (Go.Operand.tmp 21) (Go.Operand.tmp 22), type := 0, pos := "load.go:111", after := #[{ on := 1, ground := Go.Ground.data }, { on := 2, ground := Go.Ground.data }, { on := 0, ground := Go.Ground.phase }, { on := 1, ground := Go.Ground.phase }, { on := 2, ground := Go.Ground.phase }, { on := 3, ground := Go.Ground.phase }, { on := 4, ground := Go.Ground.phase }, { on := 5, ground := Go.Ground.phase }, { on := 6, ground := Go.Ground.phase }, { on := 7, ground := Go.Ground.phase }, { on := 8, ground := Go.Ground.phase }, { on := 9, ground := Go.Ground.phase }, { on := 10, ground := Go.Ground.phase }, { on := 11, ground := Go.Ground.phase }, { on := 12, ground := Go.Ground.phase }, { on := 13, ground := Go.Ground.phase }], guard := none }) (v := ?v32) rfl (by kernel_rfl) (by kernel_rfl) (by kernel_rfl) (fun _ _ _ h => h) (Or.inl ⟨by rfl, ?hy32⟩) (by assumption) ?rs32
      case hy32 =>
        intro w hSw
        (try dsimp only at hSw)
        go_simp
        try with_reducible rfl
      (try simp only [Act.put, List.setIfInBounds_toArray, List.set_cons_zero, List.set_cons_succ])
      refine wpAnyH_ready (rs := [15]) (by kernel_rfl) (by simp) ?_
      refine AllReadyH.cons (o := { dst := none, op := Go.Op.store 106 (Go.Operand.tmp 34) (Go.Operand.tmp 33), type := 0, pos := "load.go:111", after := #[{ on := 14, ground := Go.Ground.data }, { on := 13, ground := Go.Ground.data }, { on := 13, ground := Go.Ground.chain }, { on := 0, ground := Go.Ground.phase }, { on := 1, ground := Go.Ground.phase }, { on := 2, ground := Go.Ground.phase }, { on := 3, ground := Go.Ground.phase }, { on := 4, ground := Go.Ground.phase }, { on := 5, ground := Go.Ground.phase }, { on := 6, ground := Go.Ground.phase }, { on := 7, ground := Go.Ground.phase }, { on := 8, ground := Go.Ground.phase }, { on := 9, ground := Go.Ground.phase }, { on := 10, ground := Go.Ground.phase }, { on := 11, ground := Go.Ground.phase }, { on := 12, ground := Go.Ground.phase }, { on := 13, ground := Go.Ground.phase }], guard := none }) rfl (fun K5 hK5z => ?_) AllReadyH.nil
      go_simp
      refine hK5z.out _ _ ?_ (fun hHeld => ?_)
      · (try dsimp only)
        exact ⟨d06, hX6⟩
      (try simp only [Act.put, List.setIfInBounds_toArray, List.set_cons_zero, List.set_cons_succ])
      refine wpAnyH_done (by kernel_rfl) ?_ _
      have HP6 := HP5.out.set i (by omega) hN5
      have hI6 := HP5.out.ints i (by omega) (.slice a5 k5 c5)
      have HP6h := Lib.hid HP6
      obtain ⟨P6, hR6, hnN6, hZ6⟩ := HP6
      have t16 := hR6.cell (show j < N by omega)
      have f16 := hR6.frozen j
      have HP7 := Lib.hid (HP6h.out.set j (by omega) (NatAt.nil _))
      have hI7 := HP6h.out.ints j (by omega) (.slice none 0 0)
      have HIA := Lib.hid (((Kept.ints (hKw.trans hK5')).trans hI6).trans hI7)
      have hX7 := hX6.setIn j (.slice none 0 0)
      clear hI6 hI7 hR6 hZ6 HP6h HP5 hR5 t05 f05 f15 hK5 hK5' hX5
      go_wp2_with fail
      go_end0
      refine ⟨rfl, KeptX.weaken (KeptX.trans (hKw.weaken (fun _ h => h.elim)) hX7) (fun _ h => h), HIA.out, ?_⟩
      rw [HU.out]
      exact HP7.out
    · skip
      go_simp
      refine hK3.out _ _ ?_ (fun hHeld => ?_)
      · (try dsimp only)
        first | exact ⟨d04, (KeptX.refl _ _)⟩ | exact ⟨d04, (KeptX.refl _ _).drew⟩ | exact ⟨d04, ((KeptX.refl _ _).drewN _)⟩ | exact ⟨d04, ((KeptX.refl _ _).drew).drew⟩
      (try simp only [Act.put, List.setIfInBounds_toArray, List.set_cons_zero, List.set_cons_succ])
      refine wpAnyH_ready (rs := [7]) (by kernel_rfl) (by simp) ?_
      refine AllReadyH.cons (o := { dst := some 27, op := Go.Op.load 106 (Go.Operand.tmp 26), type := 106, pos := "load.go:111", after := #[{ on := 6, ground := Go.Ground.data }], guard := none }) rfl (fun Kb hK2b => ?_) AllReadyH.nil
      go_simp
      refine hK2b.out _ _ ?_ (fun hHeld => ?_)
      · (try dsimp only)
        first | exact ⟨d04, (KeptX.refl _ _)⟩ | exact ⟨d04, (KeptX.refl _ _).drew⟩ | exact ⟨d04, ((KeptX.refl _ _).drewN _)⟩ | exact ⟨d04, ((KeptX.refl _ _).drew).drew⟩
      (try simp only [Act.put, List.setIfInBounds_toArray, List.set_cons_zero, List.set_cons_succ])
      refine wpAnyH_ready (rs := [13]) (by kernel_rfl) (by simp) ?_
      refine AllReadyH.cons (o := { dst := some 33, op := Go.Op.call { callee := Go.Callee.value (Go.Operand.func 78), args := #[Go.Operand.tmp 27, Go.Operand.tmp 32], argTypes := #[106, 106] }, type := 106, pos := "load.go:111", after := #[{ on := 7, ground := Go.Ground.data }, { on := 12, ground := Go.Ground.data }], guard := none }) rfl (fun K4 hK4 => ?_) AllReadyH.nil
      go_simp
      (go_at_call 78; refine (plus_any _ _ _ _ _ (ZZ0.out.kept (by repeat (first | assumption | exact Kept.refl _ | apply Kept.drew | apply Kept.drewN | apply Kept.alloc | refine Kept.trans ?_ (by assumption)))) (ZZ1.out.kept (by repeat (first | assumption | exact Kept.refl _ | apply Kept.drew | apply Kept.drewN | apply Kept.alloc | refine Kept.trans ?_ (by assumption)))) hBB.out).mono ?_; rintro e w5 ⟨v5, rfl, hN5, hK5⟩; obtain ⟨a5, k5, c5, rfl⟩ := natAt_slice hN5)
      (try go_wp2_with fail)
      have hK5' : Kept u3 w5 := by first | exact hK5 | exact Kept.trans ((Kept.refl _).drew) hK5 | exact Kept.trans ((Kept.refl _).drewN _) hK5
      have d05 := hK5'.cellSome d04
      have t05 := hK5'.cellSome t0
      have hR5 := hK5'.row HR4.out
      have f05 := hR5.frozen i
      have f15 := hR5.frozen j
      have HP5 := Lib.hid (HP4.out.kept hK5')
      have hX5 : KeptX (fun k => k = g) u3 w5 := hK5'.weaken (fun _ h => h.elim)
      have hX6 := hX5.setIn i (.slice a5 k5 c5)
      have d06 := KeptX.cellSome ((KeptX.refl (fun k => k = g) w5).setIn i (.slice a5 k5 c5)) d05 (show ¬ z0 = g from hzg)
      refine hK4.out _ _ ?_ (fun hHeld => ?_)
      · (try dsimp only)
        exact ⟨d05, hX5⟩
      (try simp only [Act.put, List.setIfInBounds_toArray, List.set_cons_zero, List.set_cons_succ])
      refine wpAnyH_take (i := 14) (oi := { dst := some 34, op := Go.Op.indexAddr 89 (Go.Operand.tmp 21) (Go.Operand.tmp 22), type := 0, pos := "load.go:111", after := #[{ on := 1, ground := Go.Ground.data }, { on := 2, ground := Go.Ground.data }, { on := 0, ground := Go.Ground.phase }, { on := 1, ground := Go.Ground.phase }, { on := 2, ground := Go.Ground.phase }, { on := 3, ground := Go.Ground.phase }, { on := 4, ground := Go.Ground.phase }, { on := 5, ground := Go.Ground.phase }, { on := 6, ground := Go.Ground.phase }, { on := 7, ground := Go.Ground.phase }, { on := 8, ground := Go.Ground.phase }, { on := 9, ground := Go.Ground.phase }, { on := 10, ground := Go.Ground.phase }, { on := 11, ground := Go.Ground.phase }, { on := 12, ground := Go.Ground.phase }, { on := 13, ground := Go.Ground.phase }], guard := none }) (v := ?v33) rfl (by kernel_rfl) (by kernel_rfl) (by kernel_rfl) (fun _ _ _ h => h) (Or.inl ⟨by rfl, ?hy33⟩) (by assumption) ?rs33
      case hy33 =>
        intro w hSw
        (try dsimp only at hSw)
        go_simp
        try with_reducible rfl
      (try simp only [Act.put, List.setIfInBounds_toArray, List.set_cons_zero, List.set_cons_succ])
      refine wpAnyH_ready (rs := [15]) (by kernel_rfl) (by simp) ?_
      refine AllReadyH.cons (o := { dst := none, op := Go.Op.store 106 (Go.Operand.tmp 34) (Go.Operand.tmp 33), type := 0, pos := "load.go:111", after := #[{ on := 14, ground := Go.Ground.data }, { on := 13, ground := Go.Ground.data }, { on := 13, ground := Go.Ground.chain }, { on := 0, ground := Go.Ground.phase }, { on := 1, ground := Go.Ground.phase }, { on := 2, ground := Go.Ground.phase }, { on := 3, ground := Go.Ground.phase }, { on := 4, ground := Go.Ground.phase }, { on := 5, ground := Go.Ground.phase }, { on := 6, ground := Go.Ground.phase }, { on := 7, ground := Go.Ground.phase }, { on := 8, ground := Go.Ground.phase }, { on := 9, ground := Go.Ground.phase }, { on := 10, ground := Go.Ground.phase }, { on := 11, ground := Go.Ground.phase }, { on := 12, ground := Go.Ground.phase }, { on := 13, ground := Go.Ground.phase }], guard := none }) rfl (fun K5 hK5z => ?_) AllReadyH.nil
      go_simp
      refine hK5z.out _ _ ?_ (fun hHeld => ?_)
      · (try dsimp only)
        exact ⟨d06, hX6⟩
      (try simp only [Act.put, List.setIfInBounds_toArray, List.set_cons_zero, List.set_cons_succ])
      refine wpAnyH_done (by kernel_rfl) ?_ _
      have HP6 := HP5.out.set i (by omega) hN5
      have hI6 := HP5.out.ints i (by omega) (.slice a5 k5 c5)
      have HP6h := Lib.hid HP6
      obtain ⟨P6, hR6, hnN6, hZ6⟩ := HP6
      have t16 := hR6.cell (show j < N by omega)
      have f16 := hR6.frozen j
      have HP7 := Lib.hid (HP6h.out.set j (by omega) (NatAt.nil _))
      have hI7 := HP6h.out.ints j (by omega) (.slice none 0 0)
      have HIA := Lib.hid (((Kept.ints (hKw.trans hK5')).trans hI6).trans hI7)
      have hX7 := hX6.setIn j (.slice none 0 0)
      clear hI6 hI7 hR6 hZ6 HP6h HP5 hR5 t05 f05 f15 hK5 hK5' hX5
      go_wp2_with fail
      go_end0
      refine ⟨rfl, KeptX.weaken (KeptX.trans (hKw.weaken (fun _ h => h.elim)) hX7) (fun _ h => h), HIA.out, ?_⟩
      rw [HU.out]
      exact HP7.out
end Go.Proofs.YtfbiinjpljmapaaDoor
