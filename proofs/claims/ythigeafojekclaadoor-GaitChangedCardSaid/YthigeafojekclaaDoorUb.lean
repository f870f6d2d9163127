/-
  The reference's numbers: sums, differences, ints.
-/
import Derived.Test.YthigeafojekclaaDoorUa
namespace Go.Proofs.YthigeafojekclaaDoor.Num
open Go.RowKit Go.Deep

set_option maxRecDepth 100000 in
set_option maxHeartbeats 8000000 in
theorem Add_any (w : World) (u v : Value) (x y : Int) (hX : ZAt w u x) (hY : ZAt w v y) (hB : Big (x + y)) :
    Calls Tryd.prog 82 #[u, v] w (ZPost w (x + y)) := by
  obtain ⟨m, sv, l, D, rfl, hS, hL, hm, rfl, hl⟩ := hX
  obtain ⟨m2, sv2, l2, D2, rfl, hS2, hL2, hm2, rfl, hl2⟩ := hY
  have HS := Lib.hid hS
  have HL := Lib.hid hL
  have HS2 := Lib.hid hS2
  have HL2 := Lib.hid hL2
  obtain ⟨a, cap, rfl, _⟩ := hS
  obtain ⟨a2, cap2, rfl, _⟩ := hS2
  have hb1 := valZ_bd hL.1
  have hb2 := valZ_bd hL2.1
  clear hL hL2
  by_cases hmm : m = m2
  · obtain ⟨Z, HZZ⟩ : ∃ Z, Hid (Z = sgnZ m (valZ D l) + sgnZ m2 (valZ D2 l2)) := ⟨_, rfl⟩
    have hsum : Hid (sgnZ m (valZ D l + valZ D2 l2) = Z) := by show _ = _; rw [HZZ.out, hmm]; cases m2 <;> simp [sgnZ] <;> omega
    have hbig : Hid (valZ D l + valZ D2 l2 < bigN) := by
      rw [← HZZ.out] at hB
      have := hsum.out
      unfold Big at hB
      show _ < _
      cases m <;> simp [sgnZ] at this <;> omega
    rw [← HZZ.out]
    have PL := Lib.hid (fun (W : World) (hk : Kept w W) => plus_any W _ _ l l2 D D2 ((HS.out.kept hk).ints) ((HS2.out.kept hk).ints) HL.out.1 HL2.out.1 (by omega) (by omega))
    have e1 : (m == m2) = true := by simp [hmm]
    have HMM := Lib.hid hmm
    clear hb1 hb2 hB hm hm2 hmm
    go_enter Tryd.func82, Tryd.ntmps82
    go_wp2_with fail
    have hA0 := box_row w (.bool m) (.slice a l cap) 37 w.heap.size rfl
    have hA1 := box_row (w.alloc (.cells #[.bool m, .slice a l cap] 37)) (.bool m2) (.slice a2 l2 cap2) 37 (w.heap.size + 1) (by simp)
    have hA2 := box_row ((w.alloc (.cells #[.bool m, .slice a l cap] 37)).alloc (.cells #[.bool m2, .slice a2 l2 cap2] 37)) (.bool false) (.slice none 0 0) 37 (w.heap.size + 1 + 1) (by simp)
    have hB0 := (((Kept.refl _).alloc (.cells #[.bool m2, .slice a2 l2 cap2] 37)).alloc (.cells #[.bool false, .slice none 0 0] 37)).row hA0
    have hB1 := ((Kept.refl _).alloc (.cells #[.bool false, .slice none 0 0] 37)).row hA1
    have hKwW : Kept w (((w.alloc (.cells #[.bool m, .slice a l cap] 37)).alloc (.cells #[.bool m2, .slice a2 l2 cap2] 37)).alloc (.cells #[.bool false, .slice none 0 0] 37)) := (((Kept.refl w).alloc _).alloc _).alloc _
    generalize (((w.alloc (.cells #[.bool m, .slice a l cap] 37)).alloc (.cells #[.bool m2, .slice a2 l2 cap2] 37)).alloc (.cells #[.bool false, .slice none 0 0] 37)) = W at *
    obtain ⟨r0, HR0⟩ : ∃ r0, Hid (r0 = w.heap.size + 1 + 1) := ⟨_, rfl⟩
    obtain ⟨z1, HZZ1⟩ : ∃ z1, Hid (z1 = w.heap.size + 1) := ⟨_, rfl⟩
    obtain ⟨z0, HZZ0⟩ : ∃ z0, Hid (z0 = w.heap.size) := ⟨_, rfl⟩
    rw [← HR0.out] at hA2 ⊢
    rw [← HZZ1.out] at hB1 ⊢
    rw [← HZZ0.out] at hB0 ⊢
    have hrw : w.heap.size ≤ r0 := by rw [HR0.out]; omega
    have hzr : z0 ≠ r0 := by rw [HR0.out, HZZ0.out]; omega
    have hyr : z1 ≠ r0 := by rw [HR0.out, HZZ1.out]; omega
    have HRr := Lib.hid hA2
    have HZ0 := Lib.hid hB0
    have HZ1 := Lib.hid hB1
    obtain ⟨k0, k1, _, _⟩ := bx_cells hB0
    obtain ⟨l0, l1, _, _⟩ := bx_cells hB1
    clear hA0 hA1 hA2 hB0 hB1
    go_wp2_with fail
    refine wp_region_held_drew (S := (fun w' => w'.cell? ⟨z0, 0, none⟩ = some (.bool m) ∧ w'.cell? ⟨z0, 1, none⟩ = some (.slice a l cap) ∧ w'.cell? ⟨z1, 0, none⟩ = some (.bool m2) ∧ w'.cell? ⟨z1, 1, none⟩ = some (.slice a2 l2 cap2) ∧ Kept w w')) (by kernel_rfl) ?_ (fun hHeld => ?_)
    · (try dsimp only)
      exact ⟨Kept.cellSome (w := W) (by repeat (first | assumption | exact Kept.refl _ | apply Kept.drew | apply Kept.drewN | apply Kept.alloc | refine Kept.trans ?_ (by assumption))) k0, Kept.cellSome (w := W) (by repeat (first | assumption | exact Kept.refl _ | apply Kept.drew | apply Kept.drewN | apply Kept.alloc | refine Kept.trans ?_ (by assumption))) k1, Kept.cellSome (w := W) (by repeat (first | assumption | exact Kept.refl _ | apply Kept.drew | apply Kept.drewN | apply Kept.alloc | refine Kept.trans ?_ (by assumption))) l0, Kept.cellSome (w := W) (by repeat (first | assumption | exact Kept.refl _ | apply Kept.drew | apply Kept.drewN | apply Kept.alloc | refine Kept.trans ?_ (by assumption))) l1, hKwW.trans (by repeat (first | assumption | exact Kept.refl _ | apply Kept.drew | apply Kept.drewN | apply Kept.alloc | refine Kept.trans ?_ (by assumption)))⟩
    refine wpAnyH_take (i := 0) (oi := { dst := some 10, op := Go.Op.fieldAddr 37 (Go.Operand.tmp 2) 0, type := 0, pos := "big.go:99", after := #[], guard := none }) (v := ?v1) rfl (by kernel_rfl) (by kernel_rfl) (by kernel_rfl) (fun _ _ _ h => h) (Or.inl ⟨by rfl, ?hy1⟩) (by assumption) ?rs1
    case hy1 =>
      intro w hSw
      (try dsimp only at hSw)
      go_simp
      try with_reducible rfl
    (try simp only [Act.put, List.setIfInBounds_toArray, List.set_cons_zero, List.set_cons_succ])
    refine wpAnyH_take (i := 1) (oi := { dst := some 11, op := Go.Op.load 4 (Go.Operand.tmp 10), type := 4, pos := "big.go:99", after := #[{ on := 0, ground := Go.Ground.data }], guard := none }) (v := ?v2) rfl (by kernel_rfl) (by kernel_rfl) (by kernel_rfl) (fun _ _ _ h => h) (Or.inl ⟨by rfl, ?hy2⟩) (by assumption) ?rs2
    case hy2 =>
      intro w hSw
      (try dsimp only at hSw)
      go_simp
      try with_reducible rfl
    (try simp only [Act.put, List.setIfInBounds_toArray, List.set_cons_zero, List.set_cons_succ])
    refine wpAnyH_take (i := 2) (oi := { dst := some 12, op := Go.Op.fieldAddr 37 (Go.Operand.tmp 2) 1, type := 0, pos := "big.go:99", after := #[], guard := none }) (v := ?v3) rfl (by kernel_rfl) (by kernel_rfl) (by kernel_rfl) (fun _ _ _ h => h) (Or.inl ⟨by rfl, ?hy3⟩) (by assumption) ?rs3
    case hy3 =>
      intro w hSw
      (try dsimp only at hSw)
      go_simp
      try with_reducible rfl
    (try simp only [Act.put, List.setIfInBounds_toArray, List.set_cons_zero, List.set_cons_succ])
    refine wpAnyH_take (i := 3) (oi := { dst := some 13, op := Go.Op.load 23 (Go.Operand.tmp 12), type := 23, pos := "big.go:99", after := #[{ on := 2, ground := Go.Ground.data }], guard := none }) (v := ?v4) rfl (by kernel_rfl) (by kernel_rfl) (by kernel_rfl) (fun _ _ _ h => h) (Or.inl ⟨by rfl, ?hy4⟩) (by assumption) ?rs4
    case hy4 =>
      intro w hSw
      (try dsimp only at hSw)
      go_simp
      try with_reducible rfl
    (try simp only [Act.put, List.setIfInBounds_toArray, List.set_cons_zero, List.set_cons_succ])
    refine wpAnyH_take (i := 4) (oi := { dst := some 14, op := Go.Op.fieldAddr 37 (Go.Operand.tmp 3) 1, type := 0, pos := "big.go:99", after := #[], guard := none }) (v := ?v5) rfl (by kernel_rfl) (by kernel_rfl) (by kernel_rfl) (fun _ _ _ h => h) (Or.inl ⟨by rfl, ?hy5⟩) (by assumption) ?rs5
    case hy5 =>
      intro w hSw
      (try dsimp only at hSw)
      go_simp
      try with_reducible rfl
    (try simp only [Act.put, List.setIfInBounds_toArray, List.set_cons_zero, List.set_cons_succ])
    refine wpAnyH_take (i := 5) (oi := { dst := some 15, op := Go.Op.load 23 (Go.Operand.tmp 14), type := 23, pos := "big.go:99", after := #[{ on := 4, ground := Go.Ground.data }], guard := none }) (v := ?v6) rfl (by kernel_rfl) (by kernel_rfl) (by kernel_rfl) (fun _ _ _ h => h) (Or.inl ⟨by rfl, ?hy6⟩) (by assumption) ?rs6
    case hy6 =>
      intro w hSw
      (try dsimp only at hSw)
      go_simp
      try with_reducible rfl
    (try simp only [Act.put, List.setIfInBounds_toArray, List.set_cons_zero, List.set_cons_succ])
    refine wpAnyH_ready (rs := [6]) (by kernel_rfl) (by simp) ?_
    refine AllReadyH.cons (o := { dst := some 16, op := Go.Op.call { callee := Go.Callee.value (Go.Operand.func 91), args := #[Go.Operand.tmp 13, Go.Operand.tmp 15], argTypes := #[23, 23] }, type := 23, pos := "big.go:99", after := #[{ on := 3, ground := Go.Ground.data }, { on := 5, ground := Go.Ground.data }], guard := none }) rfl (fun K2 hK2 => ?_) AllReadyH.nil
    go_simp
    (go_at_call 91; refine (PL.out _ (hKwW.trans (by repeat (first | assumption | exact Kept.refl _ | apply Kept.drew | apply Kept.drewN | apply Kept.alloc | refine Kept.trans ?_ (by assumption))))).mono ?_; rintro e w5 ⟨v5, n5, O5, rfl, hO5, hD5, hV5, hn5, hk5⟩; have hS5 := SlAt.of_own hO5; obtain ⟨va5, vc5, rfl, _⟩ := own_form hO5)
    go_wp2_with fail
    refine hK2.out _ _ ?_ (fun hHeld => ?_)
    · (try dsimp only)
      exact ⟨Kept.cellSome (w := W) (by repeat (first | assumption | exact Kept.refl _ | apply Kept.drew | apply Kept.drewN | apply Kept.alloc | refine Kept.trans ?_ (by assumption))) k0, Kept.cellSome (w := W) (by repeat (first | assumption | exact Kept.refl _ | apply Kept.drew | apply Kept.drewN | apply Kept.alloc | refine Kept.trans ?_ (by assumption))) k1, Kept.cellSome (w := W) (by repeat (first | assumption | exact Kept.refl _ | apply Kept.drew | apply Kept.drewN | apply Kept.alloc | refine Kept.trans ?_ (by assumption))) l0, Kept.cellSome (w := W) (by repeat (first | assumption | exact Kept.refl _ | apply Kept.drew | apply Kept.drewN | apply Kept.alloc | refine Kept.trans ?_ (by assumption))) l1, hKwW.trans (by repeat (first | assumption | exact Kept.refl _ | apply Kept.drew | apply Kept.drewN | apply Kept.alloc | refine Kept.trans ?_ (by assumption)))⟩
    clear hK2 K2
    (try simp only [Act.put, List.setIfInBounds_toArray, List.set_cons_zero, List.set_cons_succ])
    refine wpAnyH_take (i := 7) (oi := { dst := some 17, op := Go.Op.build 37 #[(0, Go.Operand.tmp 11), (1, Go.Operand.tmp 16)], type := 37, pos := "big.go:99", after := #[{ on := 1, ground := Go.Ground.data }, { on := 6, ground := Go.Ground.data }], guard := none }) (v := ?v7) rfl (by kernel_rfl) (by kernel_rfl) (by kernel_rfl) (fun _ _ _ h => h) (Or.inl ⟨by rfl, ?hy7⟩) (by assumption) ?rs7
    case hy7 =>
      intro w hSw
      (try dsimp only at hSw)
      go_simp
      try with_reducible rfl
    (try simp only [Act.put, List.setIfInBounds_toArray, List.set_cons_zero, List.set_cons_succ])
    refine wpAnyH_ready (rs := [8]) (by kernel_rfl) (by simp) ?_
    refine AllReadyH.cons (o := { dst := some 18, op := Go.Op.call { callee := Go.Callee.value (Go.Operand.func 68), args := #[Go.Operand.tmp 17], argTypes := #[37] }, type := 37, pos := "big.go:99", after := #[{ on := 7, ground := Go.Ground.data }, { on := 6, ground := Go.Ground.chain }], guard := none }) rfl (fun K2 hK2 => ?_) AllReadyH.nil
    go_simp
    (go_at_call 68; refine (lean_any _ m _ n5 O5 (hS5.kept (by repeat (first | assumption | exact Kept.refl _ | apply Kept.drew | apply Kept.drewN | apply Kept.alloc | refine Kept.trans ?_ (by assumption)))) hD5 (by omega) (by rw [hV5]; exact hbig.out)).mono ?_; rintro e w6 ⟨v6, rfl, hz6, hk6⟩; obtain ⟨mr, ar, nr, cr, rfl⟩ := hz6.shape)
    go_wp2_with fail
    refine hK2.out _ _ ?_ (fun hHeld => ?_)
    · (try dsimp only)
      exact ⟨Kept.cellSome (w := W) (by repeat (first | assumption | exact Kept.refl _ | apply Kept.drew | apply Kept.drewN | apply Kept.alloc | refine Kept.trans ?_ (by assumption))) k0, Kept.cellSome (w := W) (by repeat (first | assumption | exact Kept.refl _ | apply Kept.drew | apply Kept.drewN | apply Kept.alloc | refine Kept.trans ?_ (by assumption))) k1, Kept.cellSome (w := W) (by repeat (first | assumption | exact Kept.refl _ | apply Kept.drew | apply Kept.drewN | apply Kept.alloc | refine Kept.trans ?_ (by assumption))) l0, Kept.cellSome (w := W) (by repeat (first | assumption | exact Kept.refl _ | apply Kept.drew | apply Kept.drewN | apply Kept.alloc | refine Kept.trans ?_ (by assumption))) l1, hKwW.trans (by repeat (first | assumption | exact Kept.refl _ | apply Kept.drew | apply Kept.drewN | apply Kept.alloc | refine Kept.trans ?_ (by assumption)))⟩
    clear hK2 K2
    (try simp only [Act.put, List.setIfInBounds_toArray, List.set_cons_zero, List.set_cons_succ])
    have hKW6 : Kept W w6 := (by repeat (first | assumption | exact Kept.refl _ | apply Kept.drew | apply Kept.drewN | apply Kept.alloc | refine Kept.trans ?_ (by assumption)))
    have hR6 := hKW6.row HRr.out
    have hZ6 := hKW6.row HZ0.out
    have hY6 := hKW6.row HZ1.out
    obtain ⟨f0, f1, f2, f3⟩ := bx_cells hR6
    have hRF := bx_set1 (bx_set0 hR6 (.bool mr)) (.slice ar nr cr)
    have hZF := (hZ6.setOther (a := ⟨r0, 0, none⟩) hzr (.bool mr)).setOther (a := ⟨r0, 1, none⟩) hzr (.slice ar nr cr)
    have hYF := (hY6.setOther (a := ⟨r0, 0, none⟩) hyr (.bool mr)).setOther (a := ⟨r0, 1, none⟩) hyr (.slice ar nr cr)
    have hKF : Kept w ((w6.setCell ⟨r0, 0, none⟩ (.bool mr)).setCell ⟨r0, 1, none⟩ (.slice ar nr cr)) := ((hKwW.trans hKW6).setCell hrw _).setCell hrw _
    have hX : KeptX (fun k => k = r0) w6 ((w6.setCell ⟨r0, 0, none⟩ (.bool mr)).setCell ⟨r0, 1, none⟩ (.slice ar nr cr)) := ((KeptX.refl (fun k => k = r0) w6).setIn 0 _).setIn 1 _
    rw [hV5] at hz6
    have hz7 := hz6.keptBox hX hR6
    rw [hsum.out] at hz7
    have HZ7 := Lib.hid hz7
    obtain ⟨g0, g1, _, _⟩ := bx_cells hRF
    obtain ⟨q0, q1, _, _⟩ := bx_cells hZF
    obtain ⟨q2, q3, _, _⟩ := bx_cells hYF
    clear hR6 hZ6 hY6 hRF hZF hYF hX hz6 hz7 hO5 hD5 hV5 hS5
    refine wpAnyH_ready (rs := [9]) (by kernel_rfl) (by simp) ?_
    refine AllReadyH.cons (o := { dst := none, op := Go.Op.store 37 (Go.Operand.tmp 4) (Go.Operand.tmp 18), type := 0, pos := "big.go:99", after := #[{ on := 8, ground := Go.Ground.data }, { on := 8, ground := Go.Ground.chain }, { on := 0, ground := Go.Ground.phase }, { on := 1, ground := Go.Ground.phase }, { on := 2, ground := Go.Ground.phase }, { on := 3, ground := Go.Ground.phase }, { on := 4, ground := Go.Ground.phase }, { on := 5, ground := Go.Ground.phase }, { on := 6, ground := Go.Ground.phase }, { on := 7, ground := Go.Ground.phase }, { on := 8, ground := Go.Ground.phase }], guard := none }) rfl (fun K2 hK2 => ?_) AllReadyH.nil
    go_simp
    refine hK2.out _ _ ?_ (fun hHeld => ?_)
    · (try dsimp only)
      exact ⟨q0, q1, q2, q3, hKF⟩
    generalize ((w6.setCell ⟨r0, 0, none⟩ (.bool mr)).setCell ⟨r0, 1, none⟩ (.slice ar nr cr)) = WF at *
    clear hK2 K2
    (try simp only [Act.put, List.setIfInBounds_toArray, List.set_cons_zero, List.set_cons_succ])
    refine wpAnyH_done (by kernel_rfl) ?_ _
    go_wp2_with fail
    exact bodyPost_ret (v := .agg #[.bool mr, .slice ar nr cr]) (by simp [results, Tryd.results82, go_sem, g0, g1]) rfl ⟨_, rfl, HZ7.out, hKF⟩
  · have e1 : (m == m2) = false := by simpa using hmm
    have hm2v : m2 = !m := by cases m <;> cases m2 <;> simp at hmm ⊢
    obtain ⟨Z, HZZ⟩ : ∃ Z, Hid (Z = sgnZ m (valZ D l) + sgnZ m2 (valZ D2 l2)) := ⟨_, rfl⟩
    have SZ := Lib.hid (fun (W : World) (hk : Kept w W) => sizes_any W _ _ l l2 D D2 ((HS.out.kept hk).ints) ((HS2.out.kept hk).ints) HL.out HL2.out (by omega) (by omega))
    have hp1 : (10000 : Int) ^ l ≤ bigN := pw_le hl
    have hp2 : (10000 : Int) ^ l2 ≤ bigN := pw_le hl2
    rw [← HZZ.out]
    obtain ⟨C, HCC⟩ : ∃ C, Hid (C = cmpI (valZ D l) (valZ D2 l2)) := ⟨_, rfl⟩
    rw [← HCC.out] at SZ
    have HMM := Lib.hid hmm
    by_cases hle : valZ D2 l2 ≤ valZ D l
    · have hC : 0 ≤ C := by
        rw [HCC.out]; unfold cmpI; rw [if_neg (by omega)]; split <;> omega
      have hll : l2 ≤ l := by
        rcases Nat.lt_or_ge l l2 with h | h
        · have := lean_len HL.out.1 HL2.out h; omega
        · exact h
      have hsum : Hid (sgnZ m (valZ D l - valZ D2 l2) = Z) := by show _ = _; rw [HZZ.out, hm2v]; cases m <;> simp [sgnZ] <;> omega
      have hbig : Hid (valZ D l - valZ D2 l2 < bigN) := by show _ < _; omega
      have PL := Lib.hid (fun (W : World) (hk : Kept w W) => less_any W _ _ l l2 D D2 ((HS.out.kept hk).ints) ((HS2.out.kept hk).ints) HL.out.1 HL2.out.1 (by omega) hll hle)
      clear hb1 hb2 hB hm hm2 hmm hm2v hp1 hp2 hle hll
      go_enter Tryd.func82, Tryd.ntmps82
      go_wp2_with fail
      have hA0 := box_row w (.bool m) (.slice a l cap) 37 w.heap.size rfl
      have hA1 := box_row (w.alloc (.cells #[.bool m, .slice a l cap] 37)) (.bool m2) (.slice a2 l2 cap2) 37 (w.heap.size + 1) (by simp)
      have hA2 := box_row ((w.alloc (.cells #[.bool m, .slice a l cap] 37)).alloc (.cells #[.bool m2, .slice a2 l2 cap2] 37)) (.bool false) (.slice none 0 0) 37 (w.heap.size + 1 + 1) (by simp)
      have hB0 := (((Kept.refl _).alloc (.cells #[.bool m2, .slice a2 l2 cap2] 37)).alloc (.cells #[.bool false, .slice none 0 0] 37)).row hA0
      have hB1 := ((Kept.refl _).alloc (.cells #[.bool false, .slice none 0 0] 37)).row hA1
      have hKwW : Kept w (((w.alloc (.cells #[.bool m, .slice a l cap] 37)).alloc (.cells #[.bool m2, .slice a2 l2 cap2] 37)).alloc (.cells #[.bool false, .slice none 0 0] 37)) := (((Kept.refl w).alloc _).alloc _).alloc _
      generalize (((w.alloc (.cells #[.bool m, .slice a l cap] 37)).alloc (.cells #[.bool m2, .slice a2 l2 cap2] 37)).alloc (.cells #[.bool false, .slice none 0 0] 37)) = W at *
      obtain ⟨r0, HR0⟩ : ∃ r0, Hid (r0 = w.heap.size + 1 + 1) := ⟨_, rfl⟩
      obtain ⟨z1, HZZ1⟩ : ∃ z1, Hid (z1 = w.heap.size + 1) := ⟨_, rfl⟩
      obtain ⟨z0, HZZ0⟩ : ∃ z0, Hid (z0 = w.heap.size) := ⟨_, rfl⟩
      rw [← HR0.out] at hA2 ⊢
      rw [← HZZ1.out] at hB1 ⊢
      rw [← HZZ0.out] at hB0 ⊢
      have hrw : w.heap.size ≤ r0 := by rw [HR0.out]; omega
      have hzr : z0 ≠ r0 := by rw [HR0.out, HZZ0.out]; omega
      have hyr : z1 ≠ r0 := by rw [HR0.out, HZZ1.out]; omega
      have HRr := Lib.hid hA2
      have HZ0 := Lib.hid hB0
      have HZ1 := Lib.hid hB1
      obtain ⟨k0, k1, _, _⟩ := bx_cells hB0
      obtain ⟨l0, l1, _, _⟩ := bx_cells hB1
      clear hA0 hA1 hA2 hB0 hB1
      go_wp2_with fail
      refine (SZ.out _ (hKwW.trans (by repeat (first | assumption | exact Kept.refl _ | apply Kept.drew | apply Kept.drewN | apply Kept.alloc | refine Kept.trans ?_ (by assumption))))).mono ?_
      rintro e w3 ⟨rfl, hq3⟩
      have hk3 := hq3.kept
      go_wp2_with fail
      refine wp_region_held_drew (S := (fun w' => w'.cell? ⟨z0, 0, none⟩ = some (.bool m) ∧ w'.cell? ⟨z0, 1, none⟩ = some (.slice a l cap) ∧ w'.cell? ⟨z1, 0, none⟩ = some (.bool m2) ∧ w'.cell? ⟨z1, 1, none⟩ = some (.slice a2 l2 cap2) ∧ Kept w w')) (by kernel_rfl) ?_ (fun hHeld => ?_)
      · (try dsimp only)
        exact ⟨Kept.cellSome (w := W) (by repeat (first | assumption | exact Kept.refl _ | apply Kept.drew | apply Kept.drewN | apply Kept.alloc | refine Kept.trans ?_ (by assumption))) k0, Kept.cellSome (w := W) (by repeat (first | assumption | exact Kept.refl _ | apply Kept.drew | apply Kept.drewN | apply Kept.alloc | refine Kept.trans ?_ (by assumption))) k1, Kept.cellSome (w := W) (by repeat (first | assumption | exact Kept.refl _ | apply Kept.drew | apply Kept.drewN | apply Kept.alloc | refine Kept.trans ?_ (by assumption))) l0, Kept.cellSome (w := W) (by repeat (first | assumption | exact Kept.refl _ | apply Kept.drew | apply Kept.drewN | apply Kept.alloc | refine Kept.trans ?_ (by assumption))) l1, hKwW.trans (by repeat (first | assumption | exact Kept.refl _ | apply Kept.drew | apply Kept.drewN | apply Kept.alloc | refine Kept.trans ?_ (by assumption)))⟩
      refine wpAnyH_take (i := 0) (oi := { dst := some 25, op := Go.Op.fieldAddr 37 (Go.Operand.tmp 2) 0, type := 0, pos := "big.go:102", after := #[], guard := none }) (v := ?v8) rfl (by kernel_rfl) (by kernel_rfl) (by kernel_rfl) (fun _ _ _ h => h) (Or.inl ⟨by rfl, ?hy8⟩) (by assumption) ?rs8
      case hy8 =>
        intro w hSw
        (try dsimp only at hSw)
        go_simp
        try with_reducible rfl
      (try simp only [Act.put, List.setIfInBounds_toArray, List.set_cons_zero, List.set_cons_succ])
      refine wpAnyH_take (i := 1) (oi := { dst := some 26, op := Go.Op.load 4 (Go.Operand.tmp 25), type := 4, pos := "big.go:102", after := #[{ on := 0, ground := Go.Ground.data }], guard := none }) (v := ?v9) rfl (by kernel_rfl) (by kernel_rfl) (by kernel_rfl) (fun _ _ _ h => h) (Or.inl ⟨by rfl, ?hy9⟩) (by assumption) ?rs9
      case hy9 =>
        intro w hSw
        (try dsimp only at hSw)
        go_simp
        try with_reducible rfl
      (try simp only [Act.put, List.setIfInBounds_toArray, List.set_cons_zero, List.set_cons_succ])
      refine wpAnyH_take (i := 2) (oi := { dst := some 27, op := Go.Op.fieldAddr 37 (Go.Operand.tmp 2) 1, type := 0, pos := "big.go:102", after := #[], guard := none }) (v := ?v10) rfl (by kernel_rfl) (by kernel_rfl) (by kernel_rfl) (fun _ _ _ h => h) (Or.inl ⟨by rfl, ?hy10⟩) (by assumption) ?rs10
      case hy10 =>
        intro w hSw
        (try dsimp only at hSw)
        go_simp
        try with_reducible rfl
      (try simp only [Act.put, List.setIfInBounds_toArray, List.set_cons_zero, List.set_cons_succ])
      refine wpAnyH_take (i := 3) (oi := { dst := some 28, op := Go.Op.load 23 (Go.Operand.tmp 27), type := 23, pos := "big.go:102", after := #[{ on := 2, ground := Go.Ground.data }], guard := none }) (v := ?v11) rfl (by kernel_rfl) (by kernel_rfl) (by kernel_rfl) (fun _ _ _ h => h) (Or.inl ⟨by rfl, ?hy11⟩) (by assumption) ?rs11
      case hy11 =>
        intro w hSw
        (try dsimp only at hSw)
        go_simp
        try with_reducible rfl
      (try simp only [Act.put, List.setIfInBounds_toArray, List.set_cons_zero, List.set_cons_succ])
      refine wpAnyH_take (i := 4) (oi := { dst := some 29, op := Go.Op.fieldAddr 37 (Go.Operand.tmp 3) 1, type := 0, pos := "big.go:102", after := #[], guard := none }) (v := ?v12) rfl (by kernel_rfl) (by kernel_rfl) (by kernel_rfl) (fun _ _ _ h => h) (Or.inl ⟨by rfl, ?hy12⟩) (by assumption) ?rs12
      case hy12 =>
        intro w hSw
        (try dsimp only at hSw)
        go_simp
        try with_reducible rfl
      (try simp only [Act.put, List.setIfInBounds_toArray, List.set_cons_zero, List.set_cons_succ])
      refine wpAnyH_take (i := 5) (oi := { dst := some 30, op := Go.Op.load 23 (Go.Operand.tmp 29), type := 23, pos := "big.go:102", after := #[{ on := 4, ground := Go.Ground.data }], guard := none }) (v := ?v13) rfl (by kernel_rfl) (by kernel_rfl) (by kernel_rfl) (fun _ _ _ h => h) (Or.inl ⟨by rfl, ?hy13⟩) (by assumption) ?rs13
      case hy13 =>
        intro w hSw
        (try dsimp only at hSw)
        go_simp
        try with_reducible rfl
      (try simp only [Act.put, List.setIfInBounds_toArray, List.set_cons_zero, List.set_cons_succ])
      refine wpAnyH_ready (rs := [6]) (by kernel_rfl) (by simp) ?_
      refine AllReadyH.cons (o := { dst := some 31, op := Go.Op.call { callee := Go.Callee.value (Go.Operand.func 71), args := #[Go.Operand.tmp 28, Go.Operand.tmp 30], argTypes := #[23, 23] }, type := 23, pos := "big.go:102", after := #[{ on := 3, ground := Go.Ground.data }, { on := 5, ground := Go.Ground.data }], guard := none }) rfl (fun K2 hK2 => ?_) AllReadyH.nil
      go_simp
      (go_at_call 71; refine (PL.out _ (hKwW.trans (by repeat (first | assumption | exact Kept.refl _ | apply Kept.drew | apply Kept.drewN | apply Kept.alloc | refine Kept.trans ?_ (by assumption))))).mono ?_; rintro e w5 ⟨v5, n5, O5, rfl, hO5, hD5, hV5, hn5, hk5⟩; have hS5 := SlAt.of_own hO5; obtain ⟨va5, vc5, rfl, _⟩ := own_form hO5)
      go_wp2_with fail
      refine hK2.out _ _ ?_ (fun hHeld => ?_)
      · (try dsimp only)
        exact ⟨Kept.cellSome (w := W) (by repeat (first | assumption | exact Kept.refl _ | apply Kept.drew | apply Kept.drewN | apply Kept.alloc | refine Kept.trans ?_ (by assumption))) k0, Kept.cellSome (w := W) (by repeat (first | assumption | exact Kept.refl _ | apply Kept.drew | apply Kept.drewN | apply Kept.alloc | refine Kept.trans ?_ (by assumption))) k1, Kept.cellSome (w := W) (by repeat (first | assumption | exact Kept.refl _ | apply Kept.drew | apply Kept.drewN | apply Kept.alloc | refine Kept.trans ?_ (by assumption))) l0, Kept.cellSome (w := W) (by repeat (first | assumption | exact Kept.refl _ | apply Kept.drew | apply Kept.drewN | apply Kept.alloc | refine Kept.trans ?_ (by assumption))) l1, hKwW.trans (by repeat (first | assumption | exact Kept.refl _ | apply Kept.drew | apply Kept.drewN | apply Kept.alloc | refine Kept.trans ?_ (by assumption)))⟩
      clear hK2 K2
      (try simp only [Act.put, List.setIfInBounds_toArray, List.set_cons_zero, List.set_cons_succ])
      refine wpAnyH_take (i := 7) (oi := { dst := some 32, op := Go.Op.build 37 #[(0, Go.Operand.tmp 26), (1, Go.Operand.tmp 31)], type := 37, pos := "big.go:102", after := #[{ on := 1, ground := Go.Ground.data }, { on := 6, ground := Go.Ground.data }], guard := none }) (v := ?v14) rfl (by kernel_rfl) (by kernel_rfl) (by kernel_rfl) (fun _ _ _ h => h) (Or.inl ⟨by rfl, ?hy14⟩) (by assumption) ?rs14
      case hy14 =>
        intro w hSw
        (try dsimp only at hSw)
        go_simp
        try with_reducible rfl
      (try simp only [Act.put, List.setIfInBounds_toArray, List.set_cons_zero, List.set_cons_succ])
      refine wpAnyH_ready (rs := [8]) (by kernel_rfl) (by simp) ?_
      refine AllReadyH.cons (o := { dst := some 33, op := Go.Op.call { callee := Go.Callee.value (Go.Operand.func 68), args := #[Go.Operand.tmp 32], argTypes := #[37] }, type := 37, pos := "big.go:102", after := #[{ on := 7, ground := Go.Ground.data }, { on := 6, ground := Go.Ground.chain }], guard := none }) rfl (fun K2 hK2 => ?_) AllReadyH.nil
      go_simp
      (go_at_call 68; refine (lean_any _ m _ n5 O5 (hS5.kept (by repeat (first | assumption | exact Kept.refl _ | apply Kept.drew | apply Kept.drewN | apply Kept.alloc | refine Kept.trans ?_ (by assumption)))) hD5 (by omega) (by rw [hV5]; exact hbig.out)).mono ?_; rintro e w6 ⟨v6, rfl, hz6, hk6⟩; obtain ⟨mr, ar, nr, cr, rfl⟩ := hz6.shape)
      go_wp2_with fail
      refine hK2.out _ _ ?_ (fun hHeld => ?_)
      · (try dsimp only)
        exact ⟨Kept.cellSome (w := W) (by repeat (first | assumption | exact Kept.refl _ | apply Kept.drew | apply Kept.drewN | apply Kept.alloc | refine Kept.trans ?_ (by assumption))) k0, Kept.cellSome (w := W) (by repeat (first | assumption | exact Kept.refl _ | apply Kept.drew | apply Kept.drewN | apply Kept.alloc | refine Kept.trans ?_ (by assumption))) k1, Kept.cellSome (w := W) (by repeat (first | assumption | exact Kept.refl _ | apply Kept.drew | apply Kept.drewN | apply Kept.alloc | refine Kept.trans ?_ (by assumption))) l0, Kept.cellSome (w := W) (by repeat (first | assumption | exact Kept.refl _ | apply Kept.drew | apply Kept.drewN | apply Kept.alloc | refine Kept.trans ?_ (by assumption))) l1, hKwW.trans (by repeat (first | assumption | exact Kept.refl _ | apply Kept.drew | apply Kept.drewN | apply Kept.alloc | refine Kept.trans ?_ (by assumption)))⟩
      clear hK2 K2
      (try simp only [Act.put, List.setIfInBounds_toArray, List.set_cons_zero, List.set_cons_succ])
      have hKW6 : Kept W w6 := (by repeat (first | assumption | exact Kept.refl _ | apply Kept.drew | apply Kept.drewN | apply Kept.alloc | refine Kept.trans ?_ (by assumption)))
      have hR6 := hKW6.row HRr.out
      have hZ6 := hKW6.row HZ0.out
      have hY6 := hKW6.row HZ1.out
      obtain ⟨f0, f1, f2, f3⟩ := bx_cells hR6
      have hRF := bx_set1 (bx_set0 hR6 (.bool mr)) (.slice ar nr cr)
      have hZF := (hZ6.setOther (a := ⟨r0, 0, none⟩) hzr (.bool mr)).setOther (a := ⟨r0, 1, none⟩) hzr (.slice ar nr cr)
      have hYF := (hY6.setOther (a := ⟨r0, 0, none⟩) hyr (.bool mr)).setOther (a := ⟨r0, 1, none⟩) hyr (.slice ar nr cr)
      have hKF : Kept w ((w6.setCell ⟨r0, 0, none⟩ (.bool mr)).setCell ⟨r0, 1, none⟩ (.slice ar nr cr)) := ((hKwW.trans hKW6).setCell hrw _).setCell hrw _
      have hX : KeptX (fun k => k = r0) w6 ((w6.setCell ⟨r0, 0, none⟩ (.bool mr)).setCell ⟨r0, 1, none⟩ (.slice ar nr cr)) := ((KeptX.refl (fun k => k = r0) w6).setIn 0 _).setIn 1 _
      rw [hV5] at hz6
      have hz7 := hz6.keptBox hX hR6
      rw [hsum.out] at hz7
      have HZ7 := Lib.hid hz7
      obtain ⟨g0, g1, _, _⟩ := bx_cells hRF
      obtain ⟨q0, q1, _, _⟩ := bx_cells hZF
      obtain ⟨q2, q3, _, _⟩ := bx_cells hYF
      clear hR6 hZ6 hY6 hRF hZF hYF hX hz6 hz7 hO5 hD5 hV5 hS5
      refine wpAnyH_ready (rs := [9]) (by kernel_rfl) (by simp) ?_
      refine AllReadyH.cons (o := { dst := none, op := Go.Op.store 37 (Go.Operand.tmp 4) (Go.Operand.tmp 33), type := 0, pos := "big.go:102", after := #[{ on := 8, ground := Go.Ground.data }, { on := 8, ground := Go.Ground.chain }, { on := 0, ground := Go.Ground.phase }, { on := 1, ground := Go.Ground.phase }, { on := 2, ground := Go.Ground.phase }, { on := 3, ground := Go.Ground.phase }, { on := 4, ground := Go.Ground.phase }, { on := 5, ground := Go.Ground.phase }, { on := 6, ground := Go.Ground.phase }, { on := 7, ground := Go.Ground.phase }, { on := 8, ground := Go.Ground.phase }], guard := none }) rfl (fun K2 hK2 => ?_) AllReadyH.nil
      go_simp
      refine hK2.out _ _ ?_ (fun hHeld => ?_)
      · (try dsimp only)
        exact ⟨q0, q1, q2, q3, hKF⟩
      generalize ((w6.setCell ⟨r0, 0, none⟩ (.bool mr)).setCell ⟨r0, 1, none⟩ (.slice ar nr cr)) = WF at *
      clear hK2 K2
      (try simp only [Act.put, List.setIfInBounds_toArray, List.set_cons_zero, List.set_cons_succ])
      refine wpAnyH_done (by kernel_rfl) ?_ _
      go_wp2_with fail
      exact bodyPost_ret (v := .agg #[.bool mr, .slice ar nr cr]) (by simp [results, Tryd.results82, go_sem, g0, g1]) rfl ⟨_, rfl, HZ7.out, hKF⟩
    · have hC : ¬ 0 ≤ C := by
        rw [HCC.out]; unfold cmpI; rw [if_pos (by omega)]; omega
      have hll : l ≤ l2 := by
        rcases Nat.lt_or_ge l2 l with h | h
        · have := lean_len HL2.out.1 HL.out h; omega
        · exact h
      have hsum : Hid (sgnZ m2 (valZ D2 l2 - valZ D l) = Z) := by show _ = _; rw [HZZ.out, hm2v]; cases m <;> simp [sgnZ] <;> omega
      have hbig : Hid (valZ D2 l2 - valZ D l < bigN) := by show _ < _; omega
      have PL := Lib.hid (fun (W : World) (hk : Kept w W) => less_any W _ _ l2 l D2 D ((HS2.out.kept hk).ints) ((HS.out.kept hk).ints) HL2.out.1 HL.out.1 (by omega) hll (by omega))
      clear hb1 hb2 hB hm hm2 hmm hm2v hp1 hp2 hle hll
      go_enter Tryd.func82, Tryd.ntmps82
      go_wp2_with fail
      have hA0 := box_row w (.bool m) (.slice a l cap) 37 w.heap.size rfl
      have hA1 := box_row (w.alloc (.cells #[.bool m, .slice a l cap] 37)) (.bool m2) (.slice a2 l2 cap2) 37 (w.heap.size + 1) (by simp)
      have hA2 := box_row ((w.alloc (.cells #[.bool m, .slice a l cap] 37)).alloc (.cells #[.bool m2, .slice a2 l2 cap2] 37)) (.bool false) (.slice none 0 0) 37 (w.heap.size + 1 + 1) (by simp)
      have hB0 := (((Kept.refl _).alloc (.cells #[.bool m2, .slice a2 l2 cap2] 37)).alloc (.cells #[.bool false, .slice none 0 0] 37)).row hA0
      have hB1 := ((Kept.refl _).alloc (.cells #[.bool false, .slice none 0 0] 37)).row hA1
      have hKwW : Kept w (((w.alloc (.cells #[.bool m, .slice a l cap] 37)).alloc (.cells #[.bool m2, .slice a2 l2 cap2] 37)).alloc (.cells #[.bool false, .slice none 0 0] 37)) := (((Kept.refl w).alloc _).alloc _).alloc _
      generalize (((w.alloc (.cells #[.bool m, .slice a l cap] 37)).alloc (.cells #[.bool m2, .slice a2 l2 cap2] 37)).alloc (.cells #[.bool false, .slice none 0 0] 37)) = W at *
      obtain ⟨r0, HR0⟩ : ∃ r0, Hid (r0 = w.heap.size + 1 + 1) := ⟨_, rfl⟩
      obtain ⟨z1, HZZ1⟩ : ∃ z1, Hid (z1 = w.heap.size + 1) := ⟨_, rfl⟩
      obtain ⟨z0, HZZ0⟩ : ∃ z0, Hid (z0 = w.heap.size) := ⟨_, rfl⟩
      rw [← HR0.out] at hA2 ⊢
      rw [← HZZ1.out] at hB1 ⊢
      rw [← HZZ0.out] at hB0 ⊢
      have hrw : w.heap.size ≤ r0 := by rw [HR0.out]; omega
      have hzr : z0 ≠ r0 := by rw [HR0.out, HZZ0.out]; omega
      have hyr : z1 ≠ r0 := by rw [HR0.out, HZZ1.out]; omega
      have HRr := Lib.hid hA2
      have HZ0 := Lib.hid hB0
      have HZ1 := Lib.hid hB1
      obtain ⟨k0, k1, _, _⟩ := bx_cells hB0
      obtain ⟨l0, l1, _, _⟩ := bx_cells hB1
      clear hA0 hA1 hA2 hB0 hB1
      go_wp2_with fail
      refine (SZ.out _ (hKwW.trans (by repeat (first | assumption | exact Kept.refl _ | apply Kept.drew | apply Kept.drewN | apply Kept.alloc | refine Kept.trans ?_ (by assumption))))).mono ?_
      rintro e w3 ⟨rfl, hq3⟩
      have hk3 := hq3.kept
      go_wp2_with fail
      refine wp_region_held_drew (S := (fun w' => w'.cell? ⟨z0, 0, none⟩ = some (.bool m) ∧ w'.cell? ⟨z0, 1, none⟩ = some (.slice a l cap) ∧ w'.cell? ⟨z1, 0, none⟩ = some (.bool m2) ∧ w'.cell? ⟨z1, 1, none⟩ = some (.slice a2 l2 cap2) ∧ Kept w w')) (by kernel_rfl) ?_ (fun hHeld => ?_)
      · (try dsimp only)
        exact ⟨Kept.cellSome (w := W) (by repeat (first | assumption | exact Kept.refl _ | apply Kept.drew | apply Kept.drewN | apply Kept.alloc | refine Kept.trans ?_ (by assumption))) k0, Kept.cellSome (w := W) (by repeat (first | assumption | exact Kept.refl _ | apply Kept.drew | apply Kept.drewN | apply Kept.alloc | refine Kept.trans ?_ (by assumption))) k1, Kept.cellSome (w := W) (by repeat (first | assumption | exact Kept.refl _ | apply Kept.drew | apply Kept.drewN | apply Kept.alloc | refine Kept.trans ?_ (by assumption))) l0, Kept.cellSome (w := W) (by repeat (first | assumption | exact Kept.refl _ | apply Kept.drew | apply Kept.drewN | apply Kept.alloc | refine Kept.trans ?_ (by assumption))) l1, hKwW.trans (by repeat (first | assumption | exact Kept.refl _ | apply Kept.drew | apply Kept.drewN | apply Kept.alloc | refine Kept.trans ?_ (by assumption)))⟩
      refine wpAnyH_take (i := 0) (oi := { dst := some 34, op := Go.Op.fieldAddr 37 (Go.Operand.tmp 3) 0, type := 0, pos := "big.go:104", after := #[], guard := none }) (v := ?v15) rfl (by kernel_rfl) (by kernel_rfl) (by kernel_rfl) (fun _ _ _ h => h) (Or.inl ⟨by rfl, ?hy15⟩) (by assumption) ?rs15
      case hy15 =>
        intro w hSw
        (try dsimp only at hSw)
        go_simp
        try with_reducible rfl
      (try simp only [Act.put, List.setIfInBounds_toArray, List.set_cons_zero, List.set_cons_succ])
      refine wpAnyH_take (i := 1) (oi := { dst := some 35, op := Go.Op.load 4 (Go.Operand.tmp 34), type := 4, pos := "big.go:104", after := #[{ on := 0, ground := Go.Ground.data }], guard := none }) (v := ?v16) rfl (by kernel_rfl) (by kernel_rfl) (by kernel_rfl) (fun _ _ _ h => h) (Or.inl ⟨by rfl, ?hy16⟩) (by assumption) ?rs16
      case hy16 =>
        intro w hSw
        (try dsimp only at hSw)
        go_simp
        try with_reducible rfl
      (try simp only [Act.put, List.setIfInBounds_toArray, List.set_cons_zero, List.set_cons_succ])
      refine wpAnyH_take (i := 2) (oi := { dst := some 36, op := Go.Op.fieldAddr 37 (Go.Operand.tmp 3) 1, type := 0, pos := "big.go:104", after := #[], guard := none }) (v := ?v17) rfl (by kernel_rfl) (by kernel_rfl) (by kernel_rfl) (fun _ _ _ h => h) (Or.inl ⟨by rfl, ?hy17⟩) (by assumption) ?rs17
      case hy17 =>
        intro w hSw
        (try dsimp only at hSw)
        go_simp
        try with_reducible rfl
      (try simp only [Act.put, List.setIfInBounds_toArray, List.set_cons_zero, List.set_cons_succ])
      refine wpAnyH_take (i := 3) (oi := { dst := some 37, op := Go.Op.load 23 (Go.Operand.tmp 36), type := 23, pos := "big.go:104", after := #[{ on := 2, ground := Go.Ground.data }], guard := none }) (v := ?v18) rfl (by kernel_rfl) (by kernel_rfl) (by kernel_rfl) (fun _ _ _ h => h) (Or.inl ⟨by rfl, ?hy18⟩) (by assumption) ?rs18
      case hy18 =>
        intro w hSw
        (try dsimp only at hSw)
        go_simp
        try with_reducible rfl
      (try simp only [Act.put, List.setIfInBounds_toArray, List.set_cons_zero, List.set_cons_succ])
      refine wpAnyH_take (i := 4) (oi := { dst := some 38, op := Go.Op.fieldAddr 37 (Go.Operand.tmp 2) 1, type := 0, pos := "big.go:104", after := #[], guard := none }) (v := ?v19) rfl (by kernel_rfl) (by kernel_rfl) (by kernel_rfl) (fun _ _ _ h => h) (Or.inl ⟨by rfl, ?hy19⟩) (by assumption) ?rs19
      case hy19 =>
        intro w hSw
        (try dsimp only at hSw)
        go_simp
        try with_reducible rfl
      (try simp only [Act.put, List.setIfInBounds_toArray, List.set_cons_zero, List.set_cons_succ])
      refine wpAnyH_take (i := 5) (oi := { dst := some 39, op := Go.Op.load 23 (Go.Operand.tmp 38), type := 23, pos := "big.go:104", after := #[{ on := 4, ground := Go.Ground.data }], guard := none }) (v := ?v20) rfl (by kernel_rfl) (by kernel_rfl) (by kernel_rfl) (fun _ _ _ h => h) (Or.inl ⟨by rfl, ?hy20⟩) (by assumption) ?rs20
      case hy20 =>
        intro w hSw
        (try dsimp only at hSw)
        go_simp
        try with_reducible rfl
      (try simp only [Act.put, List.setIfInBounds_toArray, List.set_cons_zero, List.set_cons_succ])
      refine wpAnyH_ready (rs := [6]) (by kernel_rfl) (by simp) ?_
      refine AllReadyH.cons (o := { dst := some 40, op := Go.Op.call { callee := Go.Callee.value (Go.Operand.func 71), args := #[Go.Operand.tmp 37, Go.Operand.tmp 39], argTypes := #[23, 23] }, type := 23, pos := "big.go:104", after := #[{ on := 3, ground := Go.Ground.data }, { on := 5, ground := Go.Ground.data }], guard := none }) rfl (fun K2 hK2 => ?_) AllReadyH.nil
      go_simp
      (go_at_call 71; refine (PL.out _ (hKwW.trans (by repeat (first | assumption | exact Kept.refl _ | apply Kept.drew | apply Kept.drewN | apply Kept.alloc | refine Kept.trans ?_ (by assumption))))).mono ?_; rintro e w5 ⟨v5, n5, O5, rfl, hO5, hD5, hV5, hn5, hk5⟩; have hS5 := SlAt.of_own hO5; obtain ⟨va5, vc5, rfl, _⟩ := own_form hO5)
      go_wp2_with fail
      refine hK2.out _ _ ?_ (fun hHeld => ?_)
      · (try dsimp only)
        exact ⟨Kept.cellSome (w := W) (by repeat (first | assumption | exact Kept.refl _ | apply Kept.drew | apply Kept.drewN | apply Kept.alloc | refine Kept.trans ?_ (by assumption))) k0, Kept.cellSome (w := W) (by repeat (first | assumption | exact Kept.refl _ | apply Kept.drew | apply Kept.drewN | apply Kept.alloc | refine Kept.trans ?_ (by assumption))) k1, Kept.cellSome (w := W) (by repeat (first | assumption | exact Kept.refl _ | apply Kept.drew | apply Kept.drewN | apply Kept.alloc | refine Kept.trans ?_ (by assumption))) l0, Kept.cellSome (w := W) (by repeat (first | assumption | exact Kept.refl _ | apply Kept.drew | apply Kept.drewN | apply Kept.alloc | refine Kept.trans ?_ (by assumption))) l1, hKwW.trans (by repeat (first | assumption | exact Kept.refl _ | apply Kept.drew | apply Kept.drewN | apply Kept.alloc | refine Kept.trans ?_ (by assumption)))⟩
      clear hK2 K2
      (try simp only [Act.put, List.setIfInBounds_toArray, List.set_cons_zero, List.set_cons_succ])
      refine wpAnyH_take (i := 7) (oi := { dst := some 41, op := Go.Op.build 37 #[(0, Go.Operand.tmp 35), (1, Go.Operand.tmp 40)], type := 37, pos := "big.go:104", after := #[{ on := 1, ground := Go.Ground.data }, { on := 6, ground := Go.Ground.data }], guard := none }) (v := ?v21) rfl (by kernel_rfl) (by kernel_rfl) (by kernel_rfl) (fun _ _ _ h => h) (Or.inl ⟨by rfl, ?hy21⟩) (by assumption) ?rs21
      case hy21 =>
        intro w hSw
        (try dsimp only at hSw)
        go_simp
        try with_reducible rfl
      (try simp only [Act.put, List.setIfInBounds_toArray, List.set_cons_zero, List.set_cons_succ])
      refine wpAnyH_ready (rs := [8]) (by kernel_rfl) (by simp) ?_
      refine AllReadyH.cons (o := { dst := some 42, op := Go.Op.call { callee := Go.Callee.value (Go.Operand.func 68), args := #[Go.Operand.tmp 41], argTypes := #[37] }, type := 37, pos := "big.go:104", after := #[{ on := 7, ground := Go.Ground.data }, { on := 6, ground := Go.Ground.chain }], guard := none }) rfl (fun K2 hK2 => ?_) AllReadyH.nil
      go_simp
      (go_at_call 68; refine (lean_any _ m2 _ n5 O5 (hS5.kept (by repeat (first | assumption | exact Kept.refl _ | apply Kept.drew | apply Kept.drewN | apply Kept.alloc | refine Kept.trans ?_ (by assumption)))) hD5 (by omega) (by rw [hV5]; exact hbig.out)).mono ?_; rintro e w6 ⟨v6, rfl, hz6, hk6⟩; obtain ⟨mr, ar, nr, cr, rfl⟩ := hz6.shape)
      go_wp2_with fail
      refine hK2.out _ _ ?_ (fun hHeld => ?_)
      · (try dsimp only)
        exact ⟨Kept.cellSome (w := W) (by repeat (first | assumption | exact Kept.refl _ | apply Kept.drew | apply Kept.drewN | apply Kept.alloc | refine Kept.trans ?_ (by assumption))) k0, Kept.cellSome (w := W) (by repeat (first | assumption | exact Kept.refl _ | apply Kept.drew | apply Kept.drewN | apply Kept.alloc | refine Kept.trans ?_ (by assumption))) k1, Kept.cellSome (w := W) (by repeat (first | assumption | exact Kept.refl _ | apply Kept.drew | apply Kept.drewN | apply Kept.alloc | refine Kept.trans ?_ (by assumption))) l0, Kept.cellSome (w := W) (by repeat (first | assumption | exact Kept.refl _ | apply Kept.drew | apply Kept.drewN | apply Kept.alloc | refine Kept.trans ?_ (by assumption))) l1, hKwW.trans (by repeat (first | assumption | exact Kept.refl _ | apply Kept.drew | apply Kept.drewN | apply Kept.alloc | refine Kept.trans ?_ (by assumption)))⟩
      clear hK2 K2
      (try simp only [Act.put, List.setIfInBounds_toArray, List.set_cons_zero, List.set_cons_succ])
      have hKW6 : Kept W w6 := (by repeat (first | assumption | exact Kept.refl _ | apply Kept.drew | apply Kept.drewN | apply Kept.alloc | refine Kept.trans ?_ (by assumption)))
      have hR6 := hKW6.row HRr.out
      have hZ6 := hKW6.row HZ0.out
      have hY6 := hKW6.row HZ1.out
      obtain ⟨f0, f1, f2, f3⟩ := bx_cells hR6
      have hRF := bx_set1 (bx_set0 hR6 (.bool mr)) (.slice ar nr cr)
      have hZF := (hZ6.setOther (a := ⟨r0, 0, none⟩) hzr (.bool mr)).setOther (a := ⟨r0, 1, none⟩) hzr (.slice ar nr cr)
      have hYF := (hY6.setOther (a := ⟨r0, 0, none⟩) hyr (.bool mr)).setOther (a := ⟨r0, 1, none⟩) hyr (.slice ar nr cr)
      have hKF : Kept w ((w6.setCell ⟨r0, 0, none⟩ (.bool mr)).setCell ⟨r0, 1, none⟩ (.slice ar nr cr)) := ((hKwW.trans hKW6).setCell hrw _).setCell hrw _
      have hX : KeptX (fun k => k = r0) w6 ((w6.setCell ⟨r0, 0, none⟩ (.bool mr)).setCell ⟨r0, 1, none⟩ (.slice ar nr cr)) := ((KeptX.refl (fun k => k = r0) w6).setIn 0 _).setIn 1 _
      rw [hV5] at hz6
      have hz7 := hz6.keptBox hX hR6
      rw [hsum.out] at hz7
      have HZ7 := Lib.hid hz7
      obtain ⟨g0, g1, _, _⟩ := bx_cells hRF
      obtain ⟨q0, q1, _, _⟩ := bx_cells hZF
      obtain ⟨q2, q3, _, _⟩ := bx_cells hYF
      clear hR6 hZ6 hY6 hRF hZF hYF hX hz6 hz7 hO5 hD5 hV5 hS5
      refine wpAnyH_ready (rs := [9]) (by kernel_rfl) (by simp) ?_
      refine AllReadyH.cons (o := { dst := none, op := Go.Op.store 37 (Go.Operand.tmp 4) (Go.Operand.tmp 42), type := 0, pos := "big.go:104", after := #[{ on := 8, ground := Go.Ground.data }, { on := 8, ground := Go.Ground.chain }, { on := 0, ground := Go.Ground.phase }, { on := 1, ground := Go.Ground.phase }, { on := 2, ground := Go.Ground.phase }, { on := 3, ground := Go.Ground.phase }, { on := 4, ground := Go.Ground.phase }, { on := 5, ground := Go.Ground.phase }, { on := 6, ground := Go.Ground.phase }, { on := 7, ground := Go.Ground.phase }, { on := 8, ground := Go.Ground.phase }], guard := none }) rfl (fun K2 hK2 => ?_) AllReadyH.nil
      go_simp
      refine hK2.out _ _ ?_ (fun hHeld => ?_)
      · (try dsimp only)
        exact ⟨q0, q1, q2, q3, hKF⟩
      generalize ((w6.setCell ⟨r0, 0, none⟩ (.bool mr)).setCell ⟨r0, 1, none⟩ (.slice ar nr cr)) = WF at *
      clear hK2 K2
      (try simp only [Act.put, List.setIfInBounds_toArray, List.set_cons_zero, List.set_cons_succ])
      refine wpAnyH_done (by kernel_rfl) ?_ _
      go_wp2_with fail
      exact bodyPost_ret (v := .agg #[.bool mr, .slice ar nr cr]) (by simp [results, Tryd.results82, go_sem, g0, g1]) rfl ⟨_, rfl, HZ7.out, hKF⟩
set_option maxRecDepth 100000 in
set_option maxHeartbeats 8000000 in
theorem Sub_any (w : World) (u v : Value) (x y : Int) (hX : ZAt w u x) (hY : ZAt w v y) (hB : Big (x - y)) :
    Calls Tryd.prog 72 #[u, v] w (ZPost w (x - y)) := by
  have HX := Lib.hid hX
  have HY := Lib.hid hY
  have HB : Hid (Big (x + -y)) := by show Big _; rw [← Int.sub_eq_add_neg]; exact hB
  obtain ⟨m, a, l, cap, rfl⟩ := hX.shape
  obtain ⟨m2, a2, l2, cap2, rfl⟩ := hY.shape
  rw [Int.sub_eq_add_neg]
  clear hX hY hB
  go_enter Tryd.func72, Tryd.ntmps72
  go_wp2_with fail
  have hA0 := box_row w (.bool m) (.slice a l cap) 37 w.heap.size rfl
  have hA1 := box_row (w.alloc (.cells #[.bool m, .slice a l cap] 37)) (.bool m2) (.slice a2 l2 cap2) 37 (w.heap.size + 1) (by simp)
  have hA2 := box_row ((w.alloc (.cells #[.bool m, .slice a l cap] 37)).alloc (.cells #[.bool m2, .slice a2 l2 cap2] 37)) (.bool false) (.slice none 0 0) 37 (w.heap.size + 1 + 1) (by simp)
  have hB0 := (((Kept.refl _).alloc (.cells #[.bool m2, .slice a2 l2 cap2] 37)).alloc (.cells #[.bool false, .slice none 0 0] 37)).row hA0
  have hB1 := ((Kept.refl _).alloc (.cells #[.bool false, .slice none 0 0] 37)).row hA1
  have hKwW : Kept w (((w.alloc (.cells #[.bool m, .slice a l cap] 37)).alloc (.cells #[.bool m2, .slice a2 l2 cap2] 37)).alloc (.cells #[.bool false, .slice none 0 0] 37)) := (((Kept.refl w).alloc _).alloc _).alloc _
  generalize (((w.alloc (.cells #[.bool m, .slice a l cap] 37)).alloc (.cells #[.bool m2, .slice a2 l2 cap2] 37)).alloc (.cells #[.bool false, .slice none 0 0] 37)) = W at *
  obtain ⟨r0, HR0⟩ : ∃ r0, Hid (r0 = w.heap.size + 1 + 1) := ⟨_, rfl⟩
  obtain ⟨z1, HZZ1⟩ : ∃ z1, Hid (z1 = w.heap.size + 1) := ⟨_, rfl⟩
  obtain ⟨z0, HZZ0⟩ : ∃ z0, Hid (z0 = w.heap.size) := ⟨_, rfl⟩
  rw [← HR0.out] at hA2 ⊢
  rw [← HZZ1.out] at hB1 ⊢
  rw [← HZZ0.out] at hB0 ⊢
  have hrw : w.heap.size ≤ r0 := by rw [HR0.out]; omega
  have hzr : z0 ≠ r0 := by rw [HR0.out, HZZ0.out]; omega
  have hyr : z1 ≠ r0 := by rw [HR0.out, HZZ1.out]; omega
  have HRr := Lib.hid hA2
  have HZ0 := Lib.hid hB0
  have HZ1 := Lib.hid hB1
  obtain ⟨k0, k1, _, _⟩ := bx_cells hB0
  obtain ⟨l0, l1, _, _⟩ := bx_cells hB1
  clear hA0 hA1 hA2 hB0 hB1
  try go_wp2_with fail
  refine wp_region_held_drew (S := (fun w' => w'.cell? ⟨z0, 0, none⟩ = some (.bool m) ∧ w'.cell? ⟨z0, 1, none⟩ = some (.slice a l cap) ∧ w'.cell? ⟨z1, 0, none⟩ = some (.bool m2) ∧ w'.cell? ⟨z1, 1, none⟩ = some (.slice a2 l2 cap2) ∧ Kept w w')) (by kernel_rfl) ?_ (fun hHeld => ?_)
  · (try dsimp only)
    exact ⟨Kept.cellSome (w := W) (by repeat (first | assumption | exact Kept.refl _ | apply Kept.drew | apply Kept.drewN | apply Kept.alloc | refine Kept.trans ?_ (by assumption))) k0, Kept.cellSome (w := W) (by repeat (first | assumption | exact Kept.refl _ | apply Kept.drew | apply Kept.drewN | apply Kept.alloc | refine Kept.trans ?_ (by assumption))) k1, Kept.cellSome (w := W) (by repeat (first | assumption | exact Kept.refl _ | apply Kept.drew | apply Kept.drewN | apply Kept.alloc | refine Kept.trans ?_ (by assumption))) l0, Kept.cellSome (w := W) (by repeat (first | assumption | exact Kept.refl _ | apply Kept.drew | apply Kept.drewN | apply Kept.alloc | refine Kept.trans ?_ (by assumption))) l1, hKwW.trans (by repeat (first | assumption | exact Kept.refl _ | apply Kept.drew | apply Kept.drewN | apply Kept.alloc | refine Kept.trans ?_ (by assumption)))⟩
  refine wpAnyH_take (i := 0) (oi := { dst := some 5, op := Go.Op.load 37 (Go.Operand.tmp 2), type := 37, pos := "big.go:107", after := #[], guard := none }) (v := ?v22) rfl (by kernel_rfl) (by kernel_rfl) (by kernel_rfl) (fun _ _ _ h => h) (Or.inl ⟨by rfl, ?hy22⟩) (by assumption) ?rs22
  case hy22 =>
    intro w hSw
    (try dsimp only at hSw)
    go_simp
    try with_reducible rfl
  (try simp only [Act.put, List.setIfInBounds_toArray, List.set_cons_zero, List.set_cons_succ])
  refine wpAnyH_take (i := 1) (oi := { dst := some 6, op := Go.Op.load 37 (Go.Operand.tmp 3), type := 37, pos := "big.go:107", after := #[], guard := none }) (v := ?v23) rfl (by kernel_rfl) (by kernel_rfl) (by kernel_rfl) (fun _ _ _ h => h) (Or.inl ⟨by rfl, ?hy23⟩) (by assumption) ?rs23
  case hy23 =>
    intro w hSw
    (try dsimp only at hSw)
    go_simp
    try with_reducible rfl
  (try simp only [Act.put, List.setIfInBounds_toArray, List.set_cons_zero, List.set_cons_succ])
  refine wpAnyH_ready (rs := [2]) (by kernel_rfl) (by simp) ?_
  refine AllReadyH.cons (o := { dst := some 7, op := Go.Op.call { callee := Go.Callee.value (Go.Operand.func 50), args := #[Go.Operand.tmp 6], argTypes := #[37] }, type := 37, pos := "big.go:107", after := #[{ on := 1, ground := Go.Ground.data }], guard := none }) rfl (fun K2 hK2 => ?_) AllReadyH.nil
  go_simp
  (go_at_call 50; refine (Neg_any _ _ y (HY.out.kept (hKwW.trans (by repeat (first | assumption | exact Kept.refl _ | apply Kept.drew | apply Kept.drewN | apply Kept.alloc | refine Kept.trans ?_ (by assumption)))))).mono ?_; rintro e w5 ⟨v5, rfl, hz5, hk5⟩; obtain ⟨mq, aq, nq, cq, rfl⟩ := hz5.shape)
  go_wp2_with fail
  refine hK2.out _ _ ?_ (fun hHeld => ?_)
  · (try dsimp only)
    exact ⟨Kept.cellSome (w := W) (by repeat (first | assumption | exact Kept.refl _ | apply Kept.drew | apply Kept.drewN | apply Kept.alloc | refine Kept.trans ?_ (by assumption))) k0, Kept.cellSome (w := W) (by repeat (first | assumption | exact Kept.refl _ | apply Kept.drew | apply Kept.drewN | apply Kept.alloc | refine Kept.trans ?_ (by assumption))) k1, Kept.cellSome (w := W) (by repeat (first | assumption | exact Kept.refl _ | apply Kept.drew | apply Kept.drewN | apply Kept.alloc | refine Kept.trans ?_ (by assumption))) l0, Kept.cellSome (w := W) (by repeat (first | assumption | exact Kept.refl _ | apply Kept.drew | apply Kept.drewN | apply Kept.alloc | refine Kept.trans ?_ (by assumption))) l1, hKwW.trans (by repeat (first | assumption | exact Kept.refl _ | apply Kept.drew | apply Kept.drewN | apply Kept.alloc | refine Kept.trans ?_ (by assumption)))⟩
  clear hK2 K2
  (try simp only [Act.put, List.setIfInBounds_toArray, List.set_cons_zero, List.set_cons_succ])
  refine wpAnyH_ready (rs := [3]) (by kernel_rfl) (by simp) ?_
  refine AllReadyH.cons (o := { dst := some 8, op := Go.Op.call { callee := Go.Callee.value (Go.Operand.func 82), args := #[Go.Operand.tmp 5, Go.Operand.tmp 7], argTypes := #[37, 37] }, type := 37, pos := "big.go:107", after := #[{ on := 0, ground := Go.Ground.data }, { on := 2, ground := Go.Ground.data }, { on := 2, ground := Go.Ground.chain }], guard := none }) rfl (fun K2 hK2 => ?_) AllReadyH.nil
  go_simp
  (go_at_call 82; refine (Add_any _ _ _ x (-y) (HX.out.kept (hKwW.trans (by repeat (first | assumption | exact Kept.refl _ | apply Kept.drew | apply Kept.drewN | apply Kept.alloc | refine Kept.trans ?_ (by assumption))))) (hz5.kept (by repeat (first | assumption | exact Kept.refl _ | apply Kept.drew | apply Kept.drewN | apply Kept.alloc | refine Kept.trans ?_ (by assumption)))) HB.out).mono ?_; rintro e w6 ⟨v6, rfl, hz6, hk6⟩; obtain ⟨mr, ar, nr, cr, rfl⟩ := hz6.shape)
  go_wp2_with fail
  refine hK2.out _ _ ?_ (fun hHeld => ?_)
  · (try dsimp only)
    exact ⟨Kept.cellSome (w := W) (by repeat (first | assumption | exact Kept.refl _ | apply Kept.drew | apply Kept.drewN | apply Kept.alloc | refine Kept.trans ?_ (by assumption))) k0, Kept.cellSome (w := W) (by repeat (first | assumption | exact Kept.refl _ | apply Kept.drew | apply Kept.drewN | apply Kept.alloc | refine Kept.trans ?_ (by assumption))) k1, Kept.cellSome (w := W) (by repeat (first | assumption | exact Kept.refl _ | apply Kept.drew | apply Kept.drewN | apply Kept.alloc | refine Kept.trans ?_ (by assumption))) l0, Kept.cellSome (w := W) (by repeat (first | assumption | exact Kept.refl _ | apply Kept.drew | apply Kept.drewN | apply Kept.alloc | refine Kept.trans ?_ (by assumption))) l1, hKwW.trans (by repeat (first | assumption | exact Kept.refl _ | apply Kept.drew | apply Kept.drewN | apply Kept.alloc | refine Kept.trans ?_ (by assumption)))⟩
  clear hK2 K2
  (try simp only [Act.put, List.setIfInBounds_toArray, List.set_cons_zero, List.set_cons_succ])
  have hKW6 : Kept W w6 := (by repeat (first | assumption | exact Kept.refl _ | apply Kept.drew | apply Kept.drewN | apply Kept.alloc | refine Kept.trans ?_ (by assumption)))
  have hR6 := hKW6.row HRr.out
  have hZ6 := hKW6.row HZ0.out
  have hY6 := hKW6.row HZ1.out
  obtain ⟨f0, f1, f2, f3⟩ := bx_cells hR6
  have hRF := bx_set1 (bx_set0 hR6 (.bool mr)) (.slice ar nr cr)
  have hZF := (hZ6.setOther (a := ⟨r0, 0, none⟩) hzr (.bool mr)).setOther (a := ⟨r0, 1, none⟩) hzr (.slice ar nr cr)
  have hYF := (hY6.setOther (a := ⟨r0, 0, none⟩) hyr (.bool mr)).setOther (a := ⟨r0, 1, none⟩) hyr (.slice ar nr cr)
  have hKF : Kept w ((w6.setCell ⟨r0, 0, none⟩ (.bool mr)).setCell ⟨r0, 1, none⟩ (.slice ar nr cr)) := ((hKwW.trans hKW6).setCell hrw _).setCell hrw _
  have hX : KeptX (fun k => k = r0) w6 ((w6.setCell ⟨r0, 0, none⟩ (.bool mr)).setCell ⟨r0, 1, none⟩ (.slice ar nr cr)) := ((KeptX.refl (fun k => k = r0) w6).setIn 0 _).setIn 1 _
  have hz7 := hz6.keptBox hX hR6
  have HZ7 := Lib.hid hz7
  obtain ⟨g0, g1, _, _⟩ := bx_cells hRF
  obtain ⟨q0, q1, _, _⟩ := bx_cells hZF
  obtain ⟨q2, q3, _, _⟩ := bx_cells hYF
  clear hR6 hZ6 hY6 hRF hZF hYF hX hz6 hz7 hz5
  refine wpAnyH_ready (rs := [4]) (by kernel_rfl) (by simp) ?_
  refine AllReadyH.cons (o := { dst := none, op := Go.Op.store 37 (Go.Operand.tmp 4) (Go.Operand.tmp 8), type := 0, pos := "big.go:107", after := #[{ on := 3, ground := Go.Ground.data }, { on := 3, ground := Go.Ground.chain }, { on := 0, ground := Go.Ground.phase }, { on := 1, ground := Go.Ground.phase }, { on := 2, ground := Go.Ground.phase }, { on := 3, ground := Go.Ground.phase }], guard := none }) rfl (fun K2 hK2 => ?_) AllReadyH.nil
  go_simp
  refine hK2.out _ _ ?_ (fun hHeld => ?_)
  · (try dsimp only)
    exact ⟨q0, q1, q2, q3, hKF⟩
  generalize ((w6.setCell ⟨r0, 0, none⟩ (.bool mr)).setCell ⟨r0, 1, none⟩ (.slice ar nr cr)) = WF at *
  clear hK2 K2
  (try simp only [Act.put, List.setIfInBounds_toArray, List.set_cons_zero, List.set_cons_succ])
  refine wpAnyH_done (by kernel_rfl) ?_ _
  go_wp2_with fail
  exact bodyPost_ret (v := .agg #[.bool mr, .slice ar nr cr]) (by simp [results, Tryd.results72, go_sem, g0, g1]) rfl ⟨_, rfl, HZ7.out, hKF⟩
theorem signI_cmp (x y : Int) : signI (x - y) = cmpI x y := by
  unfold signI cmpI
  by_cases h : x < y
  · rw [if_pos (by omega), if_pos h]
  · rw [if_neg (by omega), if_neg h]
    by_cases h2 : y < x
    · rw [if_pos (by omega), if_pos h2]
    · rw [if_neg (by omega), if_neg h2]
set_option maxRecDepth 100000 in
set_option maxHeartbeats 4000000 in
theorem Cmp_any (w : World) (u v : Value) (x y : Int) (hX : ZAt w u x) (hY : ZAt w v y) (hB : Big (x - y)) :
    Calls Tryd.prog 52 #[u, v] w fun e w' => e = .returned (.int .i64 (cmpI x y)) ∧ Kept w w' := by
  rw [← signI_cmp]
  have HX := Lib.hid hX
  have HY := Lib.hid hY
  have HB := Lib.hid hB
  obtain ⟨m, a, l, cap, rfl⟩ := hX.shape
  obtain ⟨m2, a2, l2, cap2, rfl⟩ := hY.shape
  have hkw : Kept w ((w.alloc (.cells #[.bool m, .slice a l cap] 37)).alloc (.cells #[.bool m2, .slice a2 l2 cap2] 37)) := ((Kept.refl w).alloc _).alloc _
  clear hX hY hB
  go_enter Tryd.func52, Tryd.ntmps52
  go_wp2_with fail
  refine (Sub_any _ _ _ x y (HX.out.kept hkw) (HY.out.kept hkw) HB.out).mono ?_
  rintro e w3 ⟨v3, rfl, hz3, hk3⟩
  go_wp2_with fail
  refine (Sign_any _ _ _ hz3).mono ?_
  rintro e w4 ⟨rfl, hk4⟩
  go_wp2_with fail
  go_ret
  exact ⟨rfl, (hkw.trans hk3).trans hk4⟩
set_option maxRecDepth 100000 in
set_option maxHeartbeats 8000000 in
theorem Int_pos (w : World) (M : Int) (hM0 : 0 ≤ M) (hM1 : M < 10000 ^ 5) :
    Calls Tryd.prog 34 #[.int .i64 M] w (ZPost w M) := by
  obtain ⟨i0, hi, hz0, hz1, hz2⟩ := info_parts Tryd.info3
  have hsg : decide (M < 0) = false := decide_eq_false (by omega)
  have hA := box_row (w.alloc (.cells #[.bool false, .slice none 0 0] 37)) (.bool false) (.slice none 0 0) 37 (w.heap.size + 1) (by simp)
  have hB := ((Kept.refl _).alloc (.cells #[.bool false, .slice none 0 0] 37)).row (box_row w (.bool false) (.slice none 0 0) 37 w.heap.size rfl)
  have hK0 : Kept w ((w.alloc (.cells #[.bool false, .slice none 0 0] 37)).alloc (.cells #[.bool false, .slice none 0 0] 37)) := ((Kept.refl w).alloc _).alloc _
  go_enter Tryd.func34, Tryd.ntmps34
  go_wp2_with fail
  generalize ((w.alloc (.cells #[.bool false, .slice none 0 0] 37)).alloc (.cells #[.bool false, .slice none 0 0] 37)) = W at *
  obtain ⟨z0, HZ0⟩ : ∃ z0, Hid (z0 = w.heap.size + 1) := ⟨_, rfl⟩
  obtain ⟨r0, HR0⟩ : ∃ r0, Hid (r0 = w.heap.size) := ⟨_, rfl⟩
  rw [← HZ0.out] at hA ⊢
  rw [← HR0.out] at hB ⊢
  have hzw : w.heap.size ≤ z0 := by rw [HZ0.out]; omega
  have hrw : w.heap.size ≤ r0 := by rw [HR0.out]; exact Nat.le_refl _
  have hrz : r0 ≠ z0 := by rw [HZ0.out, HR0.out]; omega
  have hzl : z0 < W.heap.size := hA.lt
  have hrl : r0 < W.heap.size := hB.lt
  have hwW := hK0.size
  have hO0 : W.ownsRow W.heap.size 3 1 (.slice none 0 0) 0 (ints (fun _ => 0) 0) := own_none W _ _ _
  have hV0 : Hid (valZ (fun _ => 0) 0 + M * 10000 ^ 0 = M) := by show _ = _; simp [valZ]
  clear HZ0 HR0 hsg
  go_loopg [0] 5 (fun g s0 wr => ∃ (k : Nat) (q : Int) (D : Nat → Int) (sv : Value), k ≤ 5 ∧ g = 5 - k ∧ s0 = .int .i64 (q) ∧ 0 ≤ q ∧ Kept w wr ∧ W.heap.size ≤ wr.heap.size ∧ wr.rowIs z0 37 2 (bx (.bool false) sv) ∧ wr.rowIs r0 37 2 (bx (.bool false) (.slice none 0 0)) ∧ wr.ownsRow W.heap.size 3 1 sv k (ints D k) ∧ Hid (DigZ D k) ∧ Hid (valZ D k + q * 10000 ^ k = M) ∧ Hid (q = 0 → 0 < k → D (k - 1) ≠ 0))
  case atStart => exact ⟨0, M, fun _ => 0, _, by omega, rfl, rfl, hM0, hK0, Nat.le_refl _, hA, hB, hO0, (fun i h => by omega), hV0.out, (fun _ h => by omega)⟩
  case round =>
    obtain ⟨k, q, D, sv, hk5, rfl, rfl, hq0, hK, hsz, hZ, hRr, hO, hG, hV, hT⟩ := hrel
    clear hA hB hK0 hO0 hV0
    obtain ⟨oa, ocap, rfl, _⟩ := own_form hO
    obtain ⟨x0, x1, x2, x3⟩ := bx_cells hZ
    by_cases hq : q = 0
    · subst hq
      have hfin : Hid (valZ D k = M) := by have := hV.out; rw [Int.zero_mul] at this; show _ = _; omega
      have hlean : Hid (LeanZ D k) := ⟨hG.out, hT.out rfl⟩
      obtain ⟨j0, j1, j2, j3⟩ := bx_cells hRr
      have hRF := bx_set1 (bx_set0 hRr (.bool false)) (.slice oa k ocap)
      have hKF : Kept w ((wr.setCell ⟨r0, 0, none⟩ (.bool false)).setCell ⟨r0, 1, none⟩ (.slice oa k ocap)) := (hK.setCell hrw _).setCell hrw _
      have hO9 := own_keptX hO (((KeptX.refl (fun k => k = r0) wr).setIn 0 (.bool false)).setIn 1 (.slice oa k ocap)) (fun b h => by omega)
      have HO9 := Lib.hid (SlAt.of_own hO9)
      obtain ⟨g0, g1, _, _⟩ := bx_cells hRF
      clear hV hG hT hO9
      skip
      go_wp2_with fail
      generalize ((wr.setCell ⟨r0, 0, none⟩ (.bool false)).setCell ⟨r0, 1, none⟩ (.slice oa k ocap)) = WF at *
      exact bodyPost_ret (v := .agg #[.bool false, .slice oa k ocap]) (by simp [results, Tryd.results34, go_sem, g0, g1]) rfl ⟨_, rfl, ⟨false, _, k, D, rfl, HO9.out, hlean.out, (fun h => by cases h), by rw [hfin.out]; rfl, by omega⟩, hKF⟩
    · have hne : ¬ q = 0 := by omega
      have hk4 : k < 5 := by
        rcases Nat.lt_or_ge k 5 with h | h
        · exact h
        · exfalso
          have h1 := pw_le h
          have h2 := hV.out
          have h3 := valZ_bd hG.out
          have h4 : 1 * 10000 ^ k ≤ q * 10000 ^ k := Int.mul_le_mul_of_nonneg_right (by omega) (Int.le_of_lt (pw_pos k))
          omega
      have hqM : q ≤ 100000000000000000000 := by
        have h2 := hV.out
        have h3 := valZ_bd hG.out
        have h4 : q * 1 ≤ q * 10000 ^ k := Int.mul_le_mul_of_nonneg_left (by have := pw_pos k; omega) hq0
        omega
      obtain ⟨R, HRD⟩ : ∃ R, Hid (R = q % 10000) := ⟨_, rfl⟩
      obtain ⟨Q, HQD⟩ : ∃ Q, Hid (Q = q / 10000) := ⟨_, rfl⟩
      have hdm : Hid (q = R + Q * 10000) := by show _ = _; rw [HRD.out, HQD.out]; omega
      have hR1 : 0 ≤ R ∧ R < 10000 := by rw [HRD.out]; omega
      have hQ1 : 0 ≤ Q := by rw [HQD.out]; omega
      have hQ2 : Q ≤ 10000000000000000 := by rw [HQD.out]; omega
      obtain ⟨hRa, hRb⟩ := hR1
      have hV2 : Hid (valZ (snI D k R) (k + 1) + Q * 10000 ^ (k + 1) = M) := by
        show _ = _
        have g1 : valZ (snI D k R) k = valZ D k := valZ_congr (fun j hj => by unfold snI; rw [if_neg (by omega)])
        have g2 : snI D k R k = R := by unfold snI; rw [if_pos rfl]
        simp only [valZ, g1, g2, pw_succ]
        have h1 := hV.out
        have h2 := hdm.out
        rw [h2] at h1
        grind
      have hG2 : Hid (DigZ (snI D k R) (k + 1)) := fun j hj => by
        unfold snI
        by_cases e : j = k
        · rw [if_pos e]; exact ⟨hRa, hRb⟩
        · rw [if_neg e]; exact hG.out j (by omega)
      have hT2 : Hid (Q = 0 → 0 < k + 1 → snI D k R (k + 1 - 1) ≠ 0) := fun h _ => by
        rw [Nat.add_sub_cancel]
        unfold snI
        rw [if_pos rfl]
        have := hdm.out
        intro h3
        apply hq
        omega
      clear hdm hV hG hT
      skip
      have t1 : Int.tmod q 10000 = R := by rw [HRD.out]; exact Int.tmod_eq_emod_of_nonneg (by omega)
      have t2 : Int.tdiv q 10000 = Q := by rw [HQD.out]; exact Int.tdiv_eq_ediv_of_nonneg (by omega)
      have t3 : ¬ R < 0 := by omega
      clear HRD HQD
      go_wp2_with (first | (at_builtin; refine wpList_append_own _ rfl _ _ 23 rfl W.heap.size 3 i0 (.int .i64 0) 1 8 Tryd.underlying23 hi hz0 hz1 hz2 rfl (by decide) _ _ _ rfl (hO.alloc _) ⟨wr.heap.size, 0, none⟩ 1 1 [.int .i64 R] rfl rfl (news_one _ _ _) ?c2 ?c3 ?c4 ?c5 ?_))
      case c2 => simp [Value.oneCell']
      case c3 => unfold maxLen; omega
      case c4 => omega
      case c5 => first | omega | (simp; omega)
      intro v' w2 hO3 hgr _
      have hX := grew_X hgr (hO.alloc (.cells #[.int .i64 R] 3))
      have hZ2 := hX.row (((Kept.refl wr).alloc (.cells #[.int .i64 R] 3)).row hZ) (by omega)
      have hR2 := hX.row (((Kept.refl wr).alloc (.cells #[.int .i64 R] 3)).row hRr) (by omega)
      have hK2 : Kept w w2 := (hK.alloc _).step hX (fun i hi => Nat.le_trans hwW hi)
      have hs2 : W.heap.size ≤ w2.heap.size := Nat.le_trans (Nat.le_trans hsz ((Kept.refl wr).alloc (.cells #[.int .i64 R] 3)).size) hgr.size
      have hO4 : w2.ownsRow W.heap.size 3 1 v' (k + 1) (ints (snI D k R) (k + 1)) := by rw [ints_sn]; exact hO3
      obtain ⟨va, vc, rfl, _⟩ := own_form hO4
      obtain ⟨y0, y1, y2, y3⟩ := bx_cells hZ2
      have hZ3 := bx_set1 hZ2 (.slice va (k + 1) vc)
      have hR3 := hR2.setOther (a := ⟨z0, 1, none⟩) hrz (.slice va (k + 1) vc)
      have hK3 : Kept w (w2.setCell ⟨z0, 1, none⟩ (.slice va (k + 1) vc)) := hK2.setCell hzw _
      have hO5 := own_keptX hO4 ((KeptX.refl (fun k => k = z0) w2).setIn 1 (.slice va (k + 1) vc)) (fun b h => by omega)
      have hs3 : W.heap.size ≤ (w2.setCell ⟨z0, 1, none⟩ (.slice va (k + 1) vc)).heap.size := by rw [nblk_setCell]; exact hs2
      have HO5 := Lib.hid hO5
      clear hO3 hX hgr hO hO4 hO5 hK hK2 hZ hRr hR2 hsz hs2 y0 x0 x1 x2 x3
      go_wp2_with fail
      generalize (w2.setCell ⟨z0, 1, none⟩ (.slice va (k + 1) vc)) = W3 at *
      go_roundg (5 - (k + 1))
      case measure => omega
      case rel => exact ⟨k + 1, Q, snI D k R, _, by omega, rfl, by go_num, by omega, hK3, hs3, hZ3, hR3, HO5.out, hG2.out, hV2.out, hT2.out⟩
set_option maxRecDepth 100000 in
set_option maxHeartbeats 8000000 in
theorem Int_neg (w : World) (M : Int) (hMp : 0 < M) (hM1 : M < 10000 ^ 5) :
    Calls Tryd.prog 34 #[.int .i64 (-M)] w (ZPost w (-M)) := by
  obtain ⟨i0, hi, hz0, hz1, hz2⟩ := info_parts Tryd.info3
  have hM0 : 0 ≤ M := by omega
  have hsg : decide (-M < 0) = true := decide_eq_true (by omega)
  have hA := box_row (w.alloc (.cells #[.bool false, .slice none 0 0] 37)) (.bool true) (.slice none 0 0) 37 (w.heap.size + 1) (by simp)
  have hB := ((Kept.refl _).alloc (.cells #[.bool true, .slice none 0 0] 37)).row (box_row w (.bool false) (.slice none 0 0) 37 w.heap.size rfl)
  have hK0 : Kept w ((w.alloc (.cells #[.bool false, .slice none 0 0] 37)).alloc (.cells #[.bool true, .slice none 0 0] 37)) := ((Kept.refl w).alloc _).alloc _
  go_enter Tryd.func34, Tryd.ntmps34
  go_wp2_with fail
  generalize ((w.alloc (.cells #[.bool false, .slice none 0 0] 37)).alloc (.cells #[.bool true, .slice none 0 0] 37)) = W at *
  obtain ⟨z0, HZ0⟩ : ∃ z0, Hid (z0 = w.heap.size + 1) := ⟨_, rfl⟩
  obtain ⟨r0, HR0⟩ : ∃ r0, Hid (r0 = w.heap.size) := ⟨_, rfl⟩
  rw [← HZ0.out] at hA ⊢
  rw [← HR0.out] at hB ⊢
  have hzw : w.heap.size ≤ z0 := by rw [HZ0.out]; omega
  have hrw : w.heap.size ≤ r0 := by rw [HR0.out]; exact Nat.le_refl _
  have hrz : r0 ≠ z0 := by rw [HZ0.out, HR0.out]; omega
  have hzl : z0 < W.heap.size := hA.lt
  have hrl : r0 < W.heap.size := hB.lt
  have hwW := hK0.size
  have hO0 : W.ownsRow W.heap.size 3 1 (.slice none 0 0) 0 (ints (fun _ => 0) 0) := own_none W _ _ _
  have hV0 : Hid (valZ (fun _ => 0) 0 + M * 10000 ^ 0 = M) := by show _ = _; simp [valZ]
  clear HZ0 HR0 hsg
  go_loopg [0] 5 (fun g s0 wr => ∃ (k : Nat) (q : Int) (D : Nat → Int) (sv : Value), k ≤ 5 ∧ g = 5 - k ∧ s0 = .int .i64 (-q) ∧ 0 ≤ q ∧ Kept w wr ∧ W.heap.size ≤ wr.heap.size ∧ wr.rowIs z0 37 2 (bx (.bool true) sv) ∧ wr.rowIs r0 37 2 (bx (.bool false) (.slice none 0 0)) ∧ wr.ownsRow W.heap.size 3 1 sv k (ints D k) ∧ Hid (DigZ D k) ∧ Hid (valZ D k + q * 10000 ^ k = M) ∧ Hid (q = 0 → 0 < k → D (k - 1) ≠ 0))
  case atStart => exact ⟨0, M, fun _ => 0, _, by omega, rfl, rfl, hM0, hK0, Nat.le_refl _, hA, hB, hO0, (fun i h => by omega), hV0.out, (fun _ h => by omega)⟩
  case round =>
    obtain ⟨k, q, D, sv, hk5, rfl, rfl, hq0, hK, hsz, hZ, hRr, hO, hG, hV, hT⟩ := hrel
    clear hA hB hK0 hO0 hV0
    obtain ⟨oa, ocap, rfl, _⟩ := own_form hO
    obtain ⟨x0, x1, x2, x3⟩ := bx_cells hZ
    by_cases hq : q = 0
    · subst hq
      have hfin : Hid (valZ D k = M) := by have := hV.out; rw [Int.zero_mul] at this; show _ = _; omega
      have hlean : Hid (LeanZ D k) := ⟨hG.out, hT.out rfl⟩
      obtain ⟨j0, j1, j2, j3⟩ := bx_cells hRr
      have hRF := bx_set1 (bx_set0 hRr (.bool true)) (.slice oa k ocap)
      have hKF : Kept w ((wr.setCell ⟨r0, 0, none⟩ (.bool true)).setCell ⟨r0, 1, none⟩ (.slice oa k ocap)) := (hK.setCell hrw _).setCell hrw _
      have hO9 := own_keptX hO (((KeptX.refl (fun k => k = r0) wr).setIn 0 (.bool true)).setIn 1 (.slice oa k ocap)) (fun b h => by omega)
      have HO9 := Lib.hid (SlAt.of_own hO9)
      obtain ⟨g0, g1, _, _⟩ := bx_cells hRF
      clear hV hG hT hO9
      have hneg : (-(0 : Int)) = 0 := rfl
      go_wp2_with fail
      generalize ((wr.setCell ⟨r0, 0, none⟩ (.bool true)).setCell ⟨r0, 1, none⟩ (.slice oa k ocap)) = WF at *
      exact bodyPost_ret (v := .agg #[.bool true, .slice oa k ocap]) (by simp [results, Tryd.results34, go_sem, g0, g1]) rfl ⟨_, rfl, ⟨true, _, k, D, rfl, HO9.out, hlean.out, (fun _ => by rcases Nat.eq_zero_or_pos k with e | e; (subst e; have := hfin.out; simp [valZ] at this; omega); exact e), by rw [hfin.out]; rfl, by omega⟩, hKF⟩
    · have hne : ¬ -q = 0 := by omega
      have hk4 : k < 5 := by
        rcases Nat.lt_or_ge k 5 with h | h
        · exact h
        · exfalso
          have h1 := pw_le h
          have h2 := hV.out
          have h3 := valZ_bd hG.out
          have h4 : 1 * 10000 ^ k ≤ q * 10000 ^ k := Int.mul_le_mul_of_nonneg_right (by omega) (Int.le_of_lt (pw_pos k))
          omega
      have hqM : q ≤ 100000000000000000000 := by
        have h2 := hV.out
        have h3 := valZ_bd hG.out
        have h4 : q * 1 ≤ q * 10000 ^ k := Int.mul_le_mul_of_nonneg_left (by have := pw_pos k; omega) hq0
        omega
      obtain ⟨R, HRD⟩ : ∃ R, Hid (R = q % 10000) := ⟨_, rfl⟩
      obtain ⟨Q, HQD⟩ : ∃ Q, Hid (Q = q / 10000) := ⟨_, rfl⟩
      have hdm : Hid (q = R + Q * 10000) := by show _ = _; rw [HRD.out, HQD.out]; omega
      have hR1 : 0 ≤ R ∧ R < 10000 := by rw [HRD.out]; omega
      have hQ1 : 0 ≤ Q := by rw [HQD.out]; omega
      have hQ2 : Q ≤ 10000000000000000 := by rw [HQD.out]; omega
      obtain ⟨hRa, hRb⟩ := hR1
      have hV2 : Hid (valZ (snI D k R) (k + 1) + Q * 10000 ^ (k + 1) = M) := by
        show _ = _
        have g1 : valZ (snI D k R) k = valZ D k := valZ_congr (fun j hj => by unfold snI; rw [if_neg (by omega)])
        have g2 : snI D k R k = R := by unfold snI; rw [if_pos rfl]
        simp only [valZ, g1, g2, pw_succ]
        have h1 := hV.out
        have h2 := hdm.out
        rw [h2] at h1
        grind
      have hG2 : Hid (DigZ (snI D k R) (k + 1)) := fun j hj => by
        unfold snI
        by_cases e : j = k
        · rw [if_pos e]; exact ⟨hRa, hRb⟩
        · rw [if_neg e]; exact hG.out j (by omega)
      have hT2 : Hid (Q = 0 → 0 < k + 1 → snI D k R (k + 1 - 1) ≠ 0) := fun h _ => by
        rw [Nat.add_sub_cancel]
        unfold snI
        rw [if_pos rfl]
        have := hdm.out
        intro h3
        apply hq
        omega
      clear hdm hV hG hT
      by_cases hR0 : R = 0
      · skip
        have t2 : Int.tdiv (-q) 10000 = -Q := by rw [Int.neg_tdiv, HQD.out, Int.tdiv_eq_ediv_of_nonneg (by omega)]
        have t1 : Int.tmod (-q) 10000 = R := by rw [Int.neg_tmod, Int.tmod_eq_emod_of_nonneg (by omega), ← HRD.out, hR0]; rfl
        have t3 : ¬ R < 0 := by omega
        clear HRD HQD hR0
        go_wp2_with (first | (at_builtin; refine wpList_append_own _ rfl _ _ 23 rfl W.heap.size 3 i0 (.int .i64 0) 1 8 Tryd.underlying23 hi hz0 hz1 hz2 rfl (by decide) _ _ _ rfl (hO.alloc _) ⟨wr.heap.size, 0, none⟩ 1 1 [.int .i64 R] rfl rfl (news_one _ _ _) ?c2 ?c3 ?c4 ?c5 ?_))
        case c2 => simp [Value.oneCell']
        case c3 => unfold maxLen; omega
        case c4 => omega
        case c5 => first | omega | (simp; omega)
        intro v' w2 hO3 hgr _
        have hX := grew_X hgr (hO.alloc (.cells #[.int .i64 R] 3))
        have hZ2 := hX.row (((Kept.refl wr).alloc (.cells #[.int .i64 R] 3)).row hZ) (by omega)
        have hR2 := hX.row (((Kept.refl wr).alloc (.cells #[.int .i64 R] 3)).row hRr) (by omega)
        have hK2 : Kept w w2 := (hK.alloc _).step hX (fun i hi => Nat.le_trans hwW hi)
        have hs2 : W.heap.size ≤ w2.heap.size := Nat.le_trans (Nat.le_trans hsz ((Kept.refl wr).alloc (.cells #[.int .i64 R] 3)).size) hgr.size
        have hO4 : w2.ownsRow W.heap.size 3 1 v' (k + 1) (ints (snI D k R) (k + 1)) := by rw [ints_sn]; exact hO3
        obtain ⟨va, vc, rfl, _⟩ := own_form hO4
        obtain ⟨y0, y1, y2, y3⟩ := bx_cells hZ2
        have hZ3 := bx_set1 hZ2 (.slice va (k + 1) vc)
        have hR3 := hR2.setOther (a := ⟨z0, 1, none⟩) hrz (.slice va (k + 1) vc)
        have hK3 : Kept w (w2.setCell ⟨z0, 1, none⟩ (.slice va (k + 1) vc)) := hK2.setCell hzw _
        have hO5 := own_keptX hO4 ((KeptX.refl (fun k => k = z0) w2).setIn 1 (.slice va (k + 1) vc)) (fun b h => by omega)
        have hs3 : W.heap.size ≤ (w2.setCell ⟨z0, 1, none⟩ (.slice va (k + 1) vc)).heap.size := by rw [nblk_setCell]; exact hs2
        have HO5 := Lib.hid hO5
        clear hO3 hX hgr hO hO4 hO5 hK hK2 hZ hRr hR2 hsz hs2 y0 x0 x1 x2 x3
        go_wp2_with fail
        generalize (w2.setCell ⟨z0, 1, none⟩ (.slice va (k + 1) vc)) = W3 at *
        go_roundg (5 - (k + 1))
        case measure => omega
        case rel => exact ⟨k + 1, Q, snI D k R, _, by omega, rfl, by go_num, by omega, hK3, hs3, hZ3, hR3, HO5.out, hG2.out, hV2.out, hT2.out⟩
      · skip
        have t2 : Int.tdiv (-q) 10000 = -Q := by rw [Int.neg_tdiv, HQD.out, Int.tdiv_eq_ediv_of_nonneg (by omega)]
        have t1 : Int.tmod (-q) 10000 = -R := by rw [Int.neg_tmod, HRD.out, Int.tmod_eq_emod_of_nonneg (by omega)]
        have t3 : -R < 0 := by omega
        have t4 : IntKind.i64.wrap (- -R) = R := by rw [Int.neg_neg]; exact IntWalk.i64_in _ (by omega)
        have t5 : IntKind.i64.wrap R = R := IntWalk.i64_in _ (by omega)
        clear HRD HQD hR0
        go_wp2_with (first | (at_builtin; refine wpList_append_own _ rfl _ _ 23 rfl W.heap.size 3 i0 (.int .i64 0) 1 8 Tryd.underlying23 hi hz0 hz1 hz2 rfl (by decide) _ _ _ rfl (hO.alloc _) ⟨wr.heap.size, 0, none⟩ 1 1 [.int .i64 R] rfl rfl (news_one _ _ _) ?c2 ?c3 ?c4 ?c5 ?_))
        case c2 => simp [Value.oneCell']
        case c3 => unfold maxLen; omega
        case c4 => omega
        case c5 => first | omega | (simp; omega)
        intro v' w2 hO3 hgr _
        have hX := grew_X hgr (hO.alloc (.cells #[.int .i64 R] 3))
        have hZ2 := hX.row (((Kept.refl wr).alloc (.cells #[.int .i64 R] 3)).row hZ) (by omega)
        have hR2 := hX.row (((Kept.refl wr).alloc (.cells #[.int .i64 R] 3)).row hRr) (by omega)
        have hK2 : Kept w w2 := (hK.alloc _).step hX (fun i hi => Nat.le_trans hwW hi)
        have hs2 : W.heap.size ≤ w2.heap.size := Nat.le_trans (Nat.le_trans hsz ((Kept.refl wr).alloc (.cells #[.int .i64 R] 3)).size) hgr.size
        have hO4 : w2.ownsRow W.heap.size 3 1 v' (k + 1) (ints (snI D k R) (k + 1)) := by rw [ints_sn]; exact hO3
        obtain ⟨va, vc, rfl, _⟩ := own_form hO4
        obtain ⟨y0, y1, y2, y3⟩ := bx_cells hZ2
        have hZ3 := bx_set1 hZ2 (.slice va (k + 1) vc)
        have hR3 := hR2.setOther (a := ⟨z0, 1, none⟩) hrz (.slice va (k + 1) vc)
        have hK3 : Kept w (w2.setCell ⟨z0, 1, none⟩ (.slice va (k + 1) vc)) := hK2.setCell hzw _
        have hO5 := own_keptX hO4 ((KeptX.refl (fun k => k = z0) w2).setIn 1 (.slice va (k + 1) vc)) (fun b h => by omega)
        have hs3 : W.heap.size ≤ (w2.setCell ⟨z0, 1, none⟩ (.slice va (k + 1) vc)).heap.size := by rw [nblk_setCell]; exact hs2
        have HO5 := Lib.hid hO5
        clear hO3 hX hgr hO hO4 hO5 hK hK2 hZ hRr hR2 hsz hs2 y0 x0 x1 x2 x3
        go_wp2_with fail
        generalize (w2.setCell ⟨z0, 1, none⟩ (.slice va (k + 1) vc)) = W3 at *
        go_roundg (5 - (k + 1))
        case measure => omega
        case rel => exact ⟨k + 1, Q, snI D k R, _, by omega, rfl, by go_num, by omega, hK3, hs3, hZ3, hR3, HO5.out, hG2.out, hV2.out, hT2.out⟩
theorem Int_any (w : World) (v : Int) (h1 : -9223372036854775808 ≤ v) (h2 : v ≤ 9223372036854775807) : Calls Tryd.prog 34 #[.int .i64 v] w (ZPost w v) := by
  by_cases h : v < 0
  · have := Int_neg w (-v) (by omega) (by omega)
    rwa [Int.neg_neg] at this
  · exact Int_pos w v (by omega) (by omega)
end Go.Proofs.YthigeafojekclaaDoor.Num
