/-
  The reference's numbers: sums, differences, ints.
  The reference's numbers: products, quotients of numbers.
  The reference's numbers: long division.
-/
import Derived.Test.YtlnlddnjalfamaaGreatDoorUa
namespace Go.Proofs.YtlnlddnjalfamaaGreatDoor.Num
open Go.RowKit Go.Deep

set_option maxRecDepth 100000 in
set_option maxHeartbeats 8000000 in
theorem Add_any (w : World) (u v : Value) (x y : Int) (hX : ZAt w u x) (hY : ZAt w v y) (hB : Big (x + y)) :
    Calls Tryz.prog 92 #[u, v] w (ZPost w (x + y)) := by
  obtain ⟨m, sv, l, D, rfl, hS, hL, hm, rfl, hl⟩ := hX
  obtain ⟨m2, sv2, l2, D2, rfl, hS2, hL2, hm2, rfl, hl2⟩ := hY
  have HS := Lib.hid hS
  have HL := Lib.hid hL
  have HS2 := Lib.hid hS2
  have HL2 := Lib.hid hL2
  obtain ⟨a, cap, rfl, _⟩ := hS
  obtain ⟨a2, cap2, rfl, _⟩ := hS2
  have hb1 := valZ_bd hL.1
  have hb2 := valZ_bd hL2.1
  clear hL hL2
  by_cases hmm : m = m2
  · obtain ⟨Z, HZZ⟩ : ∃ Z, Hid (Z = sgnZ m (valZ D l) + sgnZ m2 (valZ D2 l2)) := ⟨_, rfl⟩
    have hsum : Hid (sgnZ m (valZ D l + valZ D2 l2) = Z) := by show _ = _; rw [HZZ.out, hmm]; cases m2 <;> simp [sgnZ] <;> omega
    have hbig : Hid (valZ D l + valZ D2 l2 < bigN) := by
      rw [← HZZ.out] at hB
      have := hsum.out
      unfold Big at hB
      show _ < _
      cases m <;> simp [sgnZ] at this <;> omega
    rw [← HZZ.out]
    have PL := Lib.hid (fun (W : World) (hk : Kept w W) => plus_any W _ _ l l2 D D2 ((HS.out.kept hk).ints) ((HS2.out.kept hk).ints) HL.out.1 HL2.out.1 (by omega) (by omega))
    have e1 : (m == m2) = true := by simp [hmm]
    have HMM := Lib.hid hmm
    clear hb1 hb2 hB hm hm2 hmm
    go_enter Tryz.func92, Tryz.ntmps92
    go_wp2_with fail
    have hA0 := box_row w (.bool m) (.slice a l cap) 53 w.heap.size rfl
    have hA1 := box_row (w.alloc (.cells #[.bool m, .slice a l cap] 53)) (.bool m2) (.slice a2 l2 cap2) 53 (w.heap.size + 1) (by simp)
    have hA2 := box_row ((w.alloc (.cells #[.bool m, .slice a l cap] 53)).alloc (.cells #[.bool m2, .slice a2 l2 cap2] 53)) (.bool false) (.slice none 0 0) 53 (w.heap.size + 1 + 1) (by simp)
    have hB0 := (((Kept.refl _).alloc (.cells #[.bool m2, .slice a2 l2 cap2] 53)).alloc (.cells #[.bool false, .slice none 0 0] 53)).row hA0
    have hB1 := ((Kept.refl _).alloc (.cells #[.bool false, .slice none 0 0] 53)).row hA1
    have hKwW : Kept w (((w.alloc (.cells #[.bool m, .slice a l cap] 53)).alloc (.cells #[.bool m2, .slice a2 l2 cap2] 53)).alloc (.cells #[.bool false, .slice none 0 0] 53)) := (((Kept.refl w).alloc _).alloc _).alloc _
    generalize (((w.alloc (.cells #[.bool m, .slice a l cap] 53)).alloc (.cells #[.bool m2, .slice a2 l2 cap2] 53)).alloc (.cells #[.bool false, .slice none 0 0] 53)) = W at *
    obtain ⟨r0, HR0⟩ : ∃ r0, Hid (r0 = w.heap.size + 1 + 1) := ⟨_, rfl⟩
    obtain ⟨z1, HZZ1⟩ : ∃ z1, Hid (z1 = w.heap.size + 1) := ⟨_, rfl⟩
    obtain ⟨z0, HZZ0⟩ : ∃ z0, Hid (z0 = w.heap.size) := ⟨_, rfl⟩
    rw [← HR0.out] at hA2 ⊢
    rw [← HZZ1.out] at hB1 ⊢
    rw [← HZZ0.out] at hB0 ⊢
    have hrw : w.heap.size ≤ r0 := by rw [HR0.out]; omega
    have hzr : z0 ≠ r0 := by rw [HR0.out, HZZ0.out]; omega
    have hyr : z1 ≠ r0 := by rw [HR0.out, HZZ1.out]; omega
    have HRr := Lib.hid hA2
    have HZ0 := Lib.hid hB0
    have HZ1 := Lib.hid hB1
    obtain ⟨k0, k1, _, _⟩ := bx_cells hB0
    obtain ⟨l0, l1, _, _⟩ := bx_cells hB1
    clear hA0 hA1 hA2 hB0 hB1
    go_wp2_with fail
    refine wp_region_held_drew (S := (fun w' => w'.cell? ⟨z0, 0, none⟩ = some (.bool m) ∧ w'.cell? ⟨z0, 1, none⟩ = some (.slice a l cap) ∧ w'.cell? ⟨z1, 0, none⟩ = some (.bool m2) ∧ w'.cell? ⟨z1, 1, none⟩ = some (.slice a2 l2 cap2) ∧ Kept w w')) (by kernel_rfl) ?_ (fun hHeld => ?_)
    · (try dsimp only)
      exact ⟨Kept.cellSome (w := W) (by repeat (first | assumption | exact Kept.refl _ | apply Kept.drew | apply Kept.drewN | apply Kept.alloc | refine Kept.trans ?_ (by assumption))) k0, Kept.cellSome (w := W) (by repeat (first | assumption | exact Kept.refl _ | apply Kept.drew | apply Kept.drewN | apply Kept.alloc | refine Kept.trans ?_ (by assumption))) k1, Kept.cellSome (w := W) (by repeat (first | assumption | exact Kept.refl _ | apply Kept.drew | apply Kept.drewN | apply Kept.alloc | refine Kept.trans ?_ (by assumption))) l0, Kept.cellSome (w := W) (by repeat (first | assumption | exact Kept.refl _ | apply Kept.drew | apply Kept.drewN | apply Kept.alloc | refine Kept.trans ?_ (by assumption))) l1, hKwW.trans (by repeat (first | assumption | exact Kept.refl _ | apply Kept.drew | apply Kept.drewN | apply Kept.alloc | refine Kept.trans ?_ (by assumption)))⟩
    refine wpAnyH_take (i := 0) (oi := { dst := some 10, op := Go.Op.fieldAddr 53 (Go.Operand.tmp 2) 0, type := 0, pos := "big.go:99", after := #[], guard := none }) (v := ?v1) rfl (by kernel_rfl) (by kernel_rfl) (by kernel_rfl) (fun _ _ _ h => h) (Or.inl ⟨by rfl, ?hy1⟩) (by assumption) ?rs1
    case hy1 =>
      intro w hSw
      (try dsimp only at hSw)
      go_simp
      try with_reducible rfl
    (try simp only [Act.put, List.setIfInBounds_toArray, List.set_cons_zero, List.set_cons_succ])
    refine wpAnyH_take (i := 1) (oi := { dst := some 11, op := Go.Op.load 4 (Go.Operand.tmp 10), type := 4, pos := "big.go:99", after := #[{ on := 0, ground := Go.Ground.data }], guard := none }) (v := ?v2) rfl (by kernel_rfl) (by kernel_rfl) (by kernel_rfl) (fun _ _ _ h => h) (Or.inl ⟨by rfl, ?hy2⟩) (by assumption) ?rs2
    case hy2 =>
      intro w hSw
      (try dsimp only at hSw)
      go_simp
      try with_reducible rfl
    (try simp only [Act.put, List.setIfInBounds_toArray, List.set_cons_zero, List.set_cons_succ])
    refine wpAnyH_take (i := 2) (oi := { dst := some 12, op := Go.Op.fieldAddr 53 (Go.Operand.tmp 2) 1, type := 0, pos := "big.go:99", after := #[], guard := none }) (v := ?v3) rfl (by kernel_rfl) (by kernel_rfl) (by kernel_rfl) (fun _ _ _ h => h) (Or.inl ⟨by rfl, ?hy3⟩) (by assumption) ?rs3
    case hy3 =>
      intro w hSw
      (try dsimp only at hSw)
      go_simp
      try with_reducible rfl
    (try simp only [Act.put, List.setIfInBounds_toArray, List.set_cons_zero, List.set_cons_succ])
    refine wpAnyH_take (i := 3) (oi := { dst := some 13, op := Go.Op.load 27 (Go.Operand.tmp 12), type := 27, pos := "big.go:99", after := #[{ on := 2, ground := Go.Ground.data }], guard := none }) (v := ?v4) rfl (by kernel_rfl) (by kernel_rfl) (by kernel_rfl) (fun _ _ _ h => h) (Or.inl ⟨by rfl, ?hy4⟩) (by assumption) ?rs4
    case hy4 =>
      intro w hSw
      (try dsimp only at hSw)
      go_simp
      try with_reducible rfl
    (try simp only [Act.put, List.setIfInBounds_toArray, List.set_cons_zero, List.set_cons_succ])
    refine wpAnyH_take (i := 4) (oi := { dst := some 14, op := Go.Op.fieldAddr 53 (Go.Operand.tmp 3) 1, type := 0, pos := "big.go:99", after := #[], guard := none }) (v := ?v5) rfl (by kernel_rfl) (by kernel_rfl) (by kernel_rfl) (fun _ _ _ h => h) (Or.inl ⟨by rfl, ?hy5⟩) (by assumption) ?rs5
    case hy5 =>
      intro w hSw
      (try dsimp only at hSw)
      go_simp
      try with_reducible rfl
    (try simp only [Act.put, List.setIfInBounds_toArray, List.set_cons_zero, List.set_cons_succ])
    refine wpAnyH_take (i := 5) (oi := { dst := some 15, op := Go.Op.load 27 (Go.Operand.tmp 14), type := 27, pos := "big.go:99", after := #[{ on := 4, ground := Go.Ground.data }], guard := none }) (v := ?v6) rfl (by kernel_rfl) (by kernel_rfl) (by kernel_rfl) (fun _ _ _ h => h) (Or.inl ⟨by rfl, ?hy6⟩) (by assumption) ?rs6
    case hy6 =>
      intro w hSw
      (try dsimp only at hSw)
      go_simp
      try with_reducible rfl
    (try simp only [Act.put, List.setIfInBounds_toArray, List.set_cons_zero, List.set_cons_succ])
    refine wpAnyH_ready (rs := [6]) (by kernel_rfl) (by simp) ?_
    refine AllReadyH.cons (o := { dst := some 16, op := Go.Op.call { callee := Go.Callee.value (Go.Operand.func 114), args := #[Go.Operand.tmp 13, Go.Operand.tmp 15], argTypes := #[27, 27] }, type := 27, pos := "big.go:99", after := #[{ on := 3, ground := Go.Ground.data }, { on := 5, ground := Go.Ground.data }], guard := none }) rfl (fun K2 hK2 => ?_) AllReadyH.nil
    go_simp
    (go_at_call 114; refine (PL.out _ (hKwW.trans (by repeat (first | assumption | exact Kept.refl _ | apply Kept.drew | apply Kept.drewN | apply Kept.alloc | refine Kept.trans ?_ (by assumption))))).mono ?_; rintro e w5 ⟨v5, n5, O5, rfl, hO5, hD5, hV5, hn5, hk5⟩; have hS5 := SlAt.of_own hO5; obtain ⟨va5, vc5, rfl, _⟩ := own_form hO5)
    go_wp2_with fail
    refine hK2.out _ _ ?_ (fun hHeld => ?_)
    · (try dsimp only)
      exact ⟨Kept.cellSome (w := W) (by repeat (first | assumption | exact Kept.refl _ | apply Kept.drew | apply Kept.drewN | apply Kept.alloc | refine Kept.trans ?_ (by assumption))) k0, Kept.cellSome (w := W) (by repeat (first | assumption | exact Kept.refl _ | apply Kept.drew | apply Kept.drewN | apply Kept.alloc | refine Kept.trans ?_ (by assumption))) k1, Kept.cellSome (w := W) (by repeat (first | assumption | exact Kept.refl _ | apply Kept.drew | apply Kept.drewN | apply Kept.alloc | refine Kept.trans ?_ (by assumption))) l0, Kept.cellSome (w := W) (by repeat (first | assumption | exact Kept.refl _ | apply Kept.drew | apply Kept.drewN | apply Kept.alloc | refine Kept.trans ?_ (by assumption))) l1, hKwW.trans (by repeat (first | assumption | exact Kept.refl _ | apply Kept.drew | apply Kept.drewN | apply Kept.alloc | refine Kept.trans ?_ (by assumption)))⟩
    clear hK2 K2
    (try simp only [Act.put, List.setIfInBounds_toArray, List.set_cons_zero, List.set_cons_succ])
    refine wpAnyH_take (i := 7) (oi := { dst := some 17, op := Go.Op.build 53 #[(0, Go.Operand.tmp 11), (1, Go.Operand.tmp 16)], type := 53, pos := "big.go:99", after := #[{ on := 1, ground := Go.Ground.data }, { on := 6, ground := Go.Ground.data }], guard := none }) (v := ?v7) rfl (by kernel_rfl) (by kernel_rfl) (by kernel_rfl) (fun _ _ _ h => h) (Or.inl ⟨by rfl, ?hy7⟩) (by assumption) ?rs7
    case hy7 =>
      intro w hSw
      (try dsimp only at hSw)
      go_simp
      try with_reducible rfl
    (try simp only [Act.put, List.setIfInBounds_toArray, List.set_cons_zero, List.set_cons_succ])
    refine wpAnyH_ready (rs := [8]) (by kernel_rfl) (by simp) ?_
    refine AllReadyH.cons (o := { dst := some 18, op := Go.Op.call { callee := Go.Callee.value (Go.Operand.func 101), args := #[Go.Operand.tmp 17], argTypes := #[53] }, type := 53, pos := "big.go:99", after := #[{ on := 7, ground := Go.Ground.data }, { on := 6, ground := Go.Ground.chain }], guard := none }) rfl (fun K2 hK2 => ?_) AllReadyH.nil
    go_simp
    (go_at_call 101; refine (lean_any _ m _ n5 O5 (hS5.kept (by repeat (first | assumption | exact Kept.refl _ | apply Kept.drew | apply Kept.drewN | apply Kept.alloc | refine Kept.trans ?_ (by assumption)))) hD5 (by omega) (by rw [hV5]; exact hbig.out)).mono ?_; rintro e w6 ⟨v6, rfl, hz6, hk6⟩; obtain ⟨mr, ar, nr, cr, rfl⟩ := hz6.shape)
    go_wp2_with fail
    refine hK2.out _ _ ?_ (fun hHeld => ?_)
    · (try dsimp only)
      exact ⟨Kept.cellSome (w := W) (by repeat (first | assumption | exact Kept.refl _ | apply Kept.drew | apply Kept.drewN | apply Kept.alloc | refine Kept.trans ?_ (by assumption))) k0, Kept.cellSome (w := W) (by repeat (first | assumption | exact Kept.refl _ | apply Kept.drew | apply Kept.drewN | apply Kept.alloc | refine Kept.trans ?_ (by assumption))) k1, Kept.cellSome (w := W) (by repeat (first | assumption | exact Kept.refl _ | apply Kept.drew | apply Kept.drewN | apply Kept.alloc | refine Kept.trans ?_ (by assumption))) l0, Kept.cellSome (w := W) (by repeat (first | assumption | exact Kept.refl _ | apply Kept.drew | apply Kept.drewN | apply Kept.alloc | refine Kept.trans ?_ (by assumption))) l1, hKwW.trans (by repeat (first | assumption | exact Kept.refl _ | apply Kept.drew | apply Kept.drewN | apply Kept.alloc | refine Kept.trans ?_ (by assumption)))⟩
    clear hK2 K2
    (try simp only [Act.put, List.setIfInBounds_toArray, List.set_cons_zero, List.set_cons_succ])
    have hKW6 : Kept W w6 := (by repeat (first | assumption | exact Kept.refl _ | apply Kept.drew | apply Kept.drewN | apply Kept.alloc | refine Kept.trans ?_ (by assumption)))
    have hR6 := hKW6.row HRr.out
    have hZ6 := hKW6.row HZ0.out
    have hY6 := hKW6.row HZ1.out
    obtain ⟨f0, f1, f2, f3⟩ := bx_cells hR6
    have hRF := bx_set1 (bx_set0 hR6 (.bool mr)) (.slice ar nr cr)
    have hZF := (hZ6.setOther (a := ⟨r0, 0, none⟩) hzr (.bool mr)).setOther (a := ⟨r0, 1, none⟩) hzr (.slice ar nr cr)
    have hYF := (hY6.setOther (a := ⟨r0, 0, none⟩) hyr (.bool mr)).setOther (a := ⟨r0, 1, none⟩) hyr (.slice ar nr cr)
    have hKF : Kept w ((w6.setCell ⟨r0, 0, none⟩ (.bool mr)).setCell ⟨r0, 1, none⟩ (.slice ar nr cr)) := ((hKwW.trans hKW6).setCell hrw _).setCell hrw _
    have hX : KeptX (fun k => k = r0) w6 ((w6.setCell ⟨r0, 0, none⟩ (.bool mr)).setCell ⟨r0, 1, none⟩ (.slice ar nr cr)) := ((KeptX.refl (fun k => k = r0) w6).setIn 0 _).setIn 1 _
    rw [hV5] at hz6
    have hz7 := hz6.keptBox hX hR6
    rw [hsum.out] at hz7
    have HZ7 := Lib.hid hz7
    obtain ⟨g0, g1, _, _⟩ := bx_cells hRF
    obtain ⟨q0, q1, _, _⟩ := bx_cells hZF
    obtain ⟨q2, q3, _, _⟩ := bx_cells hYF
    clear hR6 hZ6 hY6 hRF hZF hYF hX hz6 hz7 hO5 hD5 hV5 hS5
    refine wpAnyH_ready (rs := [9]) (by kernel_rfl) (by simp) ?_
    refine AllReadyH.cons (o := { dst := none, op := Go.Op.store 53 (Go.Operand.tmp 4) (Go.Operand.tmp 18), type := 0, pos := "big.go:99", after := #[{ on := 8, ground := Go.Ground.data }, { on := 8, ground := Go.Ground.chain }, { on := 0, ground := Go.Ground.phase }, { on := 1, ground := Go.Ground.phase }, { on := 2, ground := Go.Ground.phase }, { on := 3, ground := Go.Ground.phase }, { on := 4, ground := Go.Ground.phase }, { on := 5, ground := Go.Ground.phase }, { on := 6, ground := Go.Ground.phase }, { on := 7, ground := Go.Ground.phase }, { on := 8, ground := Go.Ground.phase }], guard := none }) rfl (fun K2 hK2 => ?_) AllReadyH.nil
    go_simp
    refine hK2.out _ _ ?_ (fun hHeld => ?_)
    · (try dsimp only)
      exact ⟨q0, q1, q2, q3, hKF⟩
    generalize ((w6.setCell ⟨r0, 0, none⟩ (.bool mr)).setCell ⟨r0, 1, none⟩ (.slice ar nr cr)) = WF at *
    clear hK2 K2
    (try simp only [Act.put, List.setIfInBounds_toArray, List.set_cons_zero, List.set_cons_succ])
    refine wpAnyH_done (by kernel_rfl) ?_ _
    go_wp2_with fail
    exact bodyPost_ret (v := .agg #[.bool mr, .slice ar nr cr]) (by simp [results, Tryz.results92, go_sem, g0, g1]) rfl ⟨_, rfl, HZ7.out, hKF⟩
  · have e1 : (m == m2) = false := by simpa using hmm
    have hm2v : m2 = !m := by cases m <;> cases m2 <;> simp at hmm ⊢
    obtain ⟨Z, HZZ⟩ : ∃ Z, Hid (Z = sgnZ m (valZ D l) + sgnZ m2 (valZ D2 l2)) := ⟨_, rfl⟩
    have SZ := Lib.hid (fun (W : World) (hk : Kept w W) => sizes_any W _ _ l l2 D D2 ((HS.out.kept hk).ints) ((HS2.out.kept hk).ints) HL.out HL2.out (by omega) (by omega))
    have hp1 : (10000 : Int) ^ l ≤ bigN := pw_le hl
    have hp2 : (10000 : Int) ^ l2 ≤ bigN := pw_le hl2
    rw [← HZZ.out]
    obtain ⟨C, HCC⟩ : ∃ C, Hid (C = cmpI (valZ D l) (valZ D2 l2)) := ⟨_, rfl⟩
    rw [← HCC.out] at SZ
    have HMM := Lib.hid hmm
    by_cases hle : valZ D2 l2 ≤ valZ D l
    · have hC : 0 ≤ C := by
        rw [HCC.out]; unfold cmpI; rw [if_neg (by omega)]; split <;> omega
      have hll : l2 ≤ l := by
        rcases Nat.lt_or_ge l l2 with h | h
        · have := lean_len HL.out.1 HL2.out h; omega
        · exact h
      have hsum : Hid (sgnZ m (valZ D l - valZ D2 l2) = Z) := by show _ = _; rw [HZZ.out, hm2v]; cases m <;> simp [sgnZ] <;> omega
      have hbig : Hid (valZ D l - valZ D2 l2 < bigN) := by show _ < _; omega
      have PL := Lib.hid (fun (W : World) (hk : Kept w W) => less_any W _ _ l l2 D D2 ((HS.out.kept hk).ints) ((HS2.out.kept hk).ints) HL.out.1 HL2.out.1 (by omega) hll hle)
      clear hb1 hb2 hB hm hm2 hmm hm2v hp1 hp2 hle hll
      go_enter Tryz.func92, Tryz.ntmps92
      go_wp2_with fail
      have hA0 := box_row w (.bool m) (.slice a l cap) 53 w.heap.size rfl
      have hA1 := box_row (w.alloc (.cells #[.bool m, .slice a l cap] 53)) (.bool m2) (.slice a2 l2 cap2) 53 (w.heap.size + 1) (by simp)
      have hA2 := box_row ((w.alloc (.cells #[.bool m, .slice a l cap] 53)).alloc (.cells #[.bool m2, .slice a2 l2 cap2] 53)) (.bool false) (.slice none 0 0) 53 (w.heap.size + 1 + 1) (by simp)
      have hB0 := (((Kept.refl _).alloc (.cells #[.bool m2, .slice a2 l2 cap2] 53)).alloc (.cells #[.bool false, .slice none 0 0] 53)).row hA0
      have hB1 := ((Kept.refl _).alloc (.cells #[.bool false, .slice none 0 0] 53)).row hA1
      have hKwW : Kept w (((w.alloc (.cells #[.bool m, .slice a l cap] 53)).alloc (.cells #[.bool m2, .slice a2 l2 cap2] 53)).alloc (.cells #[.bool false, .slice none 0 0] 53)) := (((Kept.refl w).alloc _).alloc _).alloc _
      generalize (((w.alloc (.cells #[.bool m, .slice a l cap] 53)).alloc (.cells #[.bool m2, .slice a2 l2 cap2] 53)).alloc (.cells #[.bool false, .slice none 0 0] 53)) = W at *
      obtain ⟨r0, HR0⟩ : ∃ r0, Hid (r0 = w.heap.size + 1 + 1) := ⟨_, rfl⟩
      obtain ⟨z1, HZZ1⟩ : ∃ z1, Hid (z1 = w.heap.size + 1) := ⟨_, rfl⟩
      obtain ⟨z0, HZZ0⟩ : ∃ z0, Hid (z0 = w.heap.size) := ⟨_, rfl⟩
      rw [← HR0.out] at hA2 ⊢
      rw [← HZZ1.out] at hB1 ⊢
      rw [← HZZ0.out] at hB0 ⊢
      have hrw : w.heap.size ≤ r0 := by rw [HR0.out]; omega
      have hzr : z0 ≠ r0 := by rw [HR0.out, HZZ0.out]; omega
      have hyr : z1 ≠ r0 := by rw [HR0.out, HZZ1.out]; omega
      have HRr := Lib.hid hA2
      have HZ0 := Lib.hid hB0
      have HZ1 := Lib.hid hB1
      obtain ⟨k0, k1, _, _⟩ := bx_cells hB0
      obtain ⟨l0, l1, _, _⟩ := bx_cells hB1
      clear hA0 hA1 hA2 hB0 hB1
      go_wp2_with fail
      refine (SZ.out _ (hKwW.trans (by repeat (first | assumption | exact Kept.refl _ | apply Kept.drew | apply Kept.drewN | apply Kept.alloc | refine Kept.trans ?_ (by assumption))))).mono ?_
      rintro e w3 ⟨rfl, hq3⟩
      have hk3 := hq3.kept
      go_wp2_with fail
      refine wp_region_held_drew (S := (fun w' => w'.cell? ⟨z0, 0, none⟩ = some (.bool m) ∧ w'.cell? ⟨z0, 1, none⟩ = some (.slice a l cap) ∧ w'.cell? ⟨z1, 0, none⟩ = some (.bool m2) ∧ w'.cell? ⟨z1, 1, none⟩ = some (.slice a2 l2 cap2) ∧ Kept w w')) (by kernel_rfl) ?_ (fun hHeld => ?_)
      · (try dsimp only)
        exact ⟨Kept.cellSome (w := W) (by repeat (first | assumption | exact Kept.refl _ | apply Kept.drew | apply Kept.drewN | apply Kept.alloc | refine Kept.trans ?_ (by assumption))) k0, Kept.cellSome (w := W) (by repeat (first | assumption | exact Kept.refl _ | apply Kept.drew | apply Kept.drewN | apply Kept.alloc | refine Kept.trans ?_ (by assumption))) k1, Kept.cellSome (w := W) (by repeat (first | assumption | exact Kept.refl _ | apply Kept.drew | apply Kept.drewN | apply Kept.alloc | refine Kept.trans ?_ (by assumption))) l0, Kept.cellSome (w := W) (by repeat (first | assumption | exact Kept.refl _ | apply Kept.drew | apply Kept.drewN | apply Kept.alloc | refine Kept.trans ?_ (by assumption))) l1, hKwW.trans (by repeat (first | assumption | exact Kept.refl _ | apply Kept.drew | apply Kept.drewN | apply Kept.alloc | refine Kept.trans ?_ (by assumption)))⟩
      refine wpAnyH_take (i := 0) (oi := { dst := some 25, op := Go.Op.fieldAddr 53 (Go.Operand.tmp 2) 0, type := 0, pos := "big.go:102", after := #[], guard := none }) (v := ?v8) rfl (by kernel_rfl) (by kernel_rfl) (by kernel_rfl) (fun _ _ _ h => h) (Or.inl ⟨by rfl, ?hy8⟩) (by assumption) ?rs8
      case hy8 =>
        intro w hSw
        (try dsimp only at hSw)
        go_simp
        try with_reducible rfl
      (try simp only [Act.put, List.setIfInBounds_toArray, List.set_cons_zero, List.set_cons_succ])
      refine wpAnyH_take (i := 1) (oi := { dst := some 26, op := Go.Op.load 4 (Go.Operand.tmp 25), type := 4, pos := "big.go:102", after := #[{ on := 0, ground := Go.Ground.data }], guard := none }) (v := ?v9) rfl (by kernel_rfl) (by kernel_rfl) (by kernel_rfl) (fun _ _ _ h => h) (Or.inl ⟨by rfl, ?hy9⟩) (by assumption) ?rs9
      case hy9 =>
        intro w hSw
        (try dsimp only at hSw)
        go_simp
        try with_reducible rfl
      (try simp only [Act.put, List.setIfInBounds_toArray, List.set_cons_zero, List.set_cons_succ])
      refine wpAnyH_take (i := 2) (oi := { dst := some 27, op := Go.Op.fieldAddr 53 (Go.Operand.tmp 2) 1, type := 0, pos := "big.go:102", after := #[], guard := none }) (v := ?v10) rfl (by kernel_rfl) (by kernel_rfl) (by kernel_rfl) (fun _ _ _ h => h) (Or.inl ⟨by rfl, ?hy10⟩) (by assumption) ?rs10
      case hy10 =>
        intro w hSw
        (try dsimp only at hSw)
        go_simp
        try with_reducible rfl
      (try simp only [Act.put, List.setIfInBounds_toArray, List.set_cons_zero, List.set_cons_succ])
      refine wpAnyH_take (i := 3) (oi := { dst := some 28, op := Go.Op.load 27 (Go.Operand.tmp 27), type := 27, pos := "big.go:102", after := #[{ on := 2, ground := Go.Ground.data }], guard := none }) (v := ?v11) rfl (by kernel_rfl) (by kernel_rfl) (by kernel_rfl) (fun _ _ _ h => h) (Or.inl ⟨by rfl, ?hy11⟩) (by assumption) ?rs11
      case hy11 =>
        intro w hSw
        (try dsimp only at hSw)
        go_simp
        try with_reducible rfl
      (try simp only [Act.put, List.setIfInBounds_toArray, List.set_cons_zero, List.set_cons_succ])
      refine wpAnyH_take (i := 4) (oi := { dst := some 29, op := Go.Op.fieldAddr 53 (Go.Operand.tmp 3) 1, type := 0, pos := "big.go:102", after := #[], guard := none }) (v := ?v12) rfl (by kernel_rfl) (by kernel_rfl) (by kernel_rfl) (fun _ _ _ h => h) (Or.inl ⟨by rfl, ?hy12⟩) (by assumption) ?rs12
      case hy12 =>
        intro w hSw
        (try dsimp only at hSw)
        go_simp
        try with_reducible rfl
      (try simp only [Act.put, List.setIfInBounds_toArray, List.set_cons_zero, List.set_cons_succ])
      refine wpAnyH_take (i := 5) (oi := { dst := some 30, op := Go.Op.load 27 (Go.Operand.tmp 29), type := 27, pos := "big.go:102", after := #[{ on := 4, ground := Go.Ground.data }], guard := none }) (v := ?v13) rfl (by kernel_rfl) (by kernel_rfl) (by kernel_rfl) (fun _ _ _ h => h) (Or.inl ⟨by rfl, ?hy13⟩) (by assumption) ?rs13
      case hy13 =>
        intro w hSw
        (try dsimp only at hSw)
        go_simp
        try with_reducible rfl
      (try simp only [Act.put, List.setIfInBounds_toArray, List.set_cons_zero, List.set_cons_succ])
      refine wpAnyH_ready (rs := [6]) (by kernel_rfl) (by simp) ?_
      refine AllReadyH.cons (o := { dst := some 31, op := Go.Op.call { callee := Go.Callee.value (Go.Operand.func 113), args := #[Go.Operand.tmp 28, Go.Operand.tmp 30], argTypes := #[27, 27] }, type := 27, pos := "big.go:102", after := #[{ on := 3, ground := Go.Ground.data }, { on := 5, ground := Go.Ground.data }], guard := none }) rfl (fun K2 hK2 => ?_) AllReadyH.nil
      go_simp
      (go_at_call 113; refine (PL.out _ (hKwW.trans (by repeat (first | assumption | exact Kept.refl _ | apply Kept.drew | apply Kept.drewN | apply Kept.alloc | refine Kept.trans ?_ (by assumption))))).mono ?_; rintro e w5 ⟨v5, n5, O5, rfl, hO5, hD5, hV5, hn5, hk5⟩; have hS5 := SlAt.of_own hO5; obtain ⟨va5, vc5, rfl, _⟩ := own_form hO5)
      go_wp2_with fail
      refine hK2.out _ _ ?_ (fun hHeld => ?_)
      · (try dsimp only)
        exact ⟨Kept.cellSome (w := W) (by repeat (first | assumption | exact Kept.refl _ | apply Kept.drew | apply Kept.drewN | apply Kept.alloc | refine Kept.trans ?_ (by assumption))) k0, Kept.cellSome (w := W) (by repeat (first | assumption | exact Kept.refl _ | apply Kept.drew | apply Kept.drewN | apply Kept.alloc | refine Kept.trans ?_ (by assumption))) k1, Kept.cellSome (w := W) (by repeat (first | assumption | exact Kept.refl _ | apply Kept.drew | apply Kept.drewN | apply Kept.alloc | refine Kept.trans ?_ (by assumption))) l0, Kept.cellSome (w := W) (by repeat (first | assumption | exact Kept.refl _ | apply Kept.drew | apply Kept.drewN | apply Kept.alloc | refine Kept.trans ?_ (by assumption))) l1, hKwW.trans (by repeat (first | assumption | exact Kept.refl _ | apply Kept.drew | apply Kept.drewN | apply Kept.alloc | refine Kept.trans ?_ (by assumption)))⟩
      clear hK2 K2
      (try simp only [Act.put, List.setIfInBounds_toArray, List.set_cons_zero, List.set_cons_succ])
      refine wpAnyH_take (i := 7) (oi := { dst := some 32, op := Go.Op.build 53 #[(0, Go.Operand.tmp 26), (1, Go.Operand.tmp 31)], type := 53, pos := "big.go:102", after := #[{ on := 1, ground := Go.Ground.data }, { on := 6, ground := Go.Ground.data }], guard := none }) (v := ?v14) rfl (by kernel_rfl) (by kernel_rfl) (by kernel_rfl) (fun _ _ _ h => h) (Or.inl ⟨by rfl, ?hy14⟩) (by assumption) ?rs14
      case hy14 =>
        intro w hSw
        (try dsimp only at hSw)
        go_simp
        try with_reducible rfl
      (try simp only [Act.put, List.setIfInBounds_toArray, List.set_cons_zero, List.set_cons_succ])
      refine wpAnyH_ready (rs := [8]) (by kernel_rfl) (by simp) ?_
      refine AllReadyH.cons (o := { dst := some 33, op := Go.Op.call { callee := Go.Callee.value (Go.Operand.func 101), args := #[Go.Operand.tmp 32], argTypes := #[53] }, type := 53, pos := "big.go:102", after := #[{ on := 7, ground := Go.Ground.data }, { on := 6, ground := Go.Ground.chain }], guard := none }) rfl (fun K2 hK2 => ?_) AllReadyH.nil
      go_simp
      (go_at_call 101; refine (lean_any _ m _ n5 O5 (hS5.kept (by repeat (first | assumption | exact Kept.refl _ | apply Kept.drew | apply Kept.drewN | apply Kept.alloc | refine Kept.trans ?_ (by assumption)))) hD5 (by omega) (by rw [hV5]; exact hbig.out)).mono ?_; rintro e w6 ⟨v6, rfl, hz6, hk6⟩; obtain ⟨mr, ar, nr, cr, rfl⟩ := hz6.shape)
      go_wp2_with fail
      refine hK2.out _ _ ?_ (fun hHeld => ?_)
      · (try dsimp only)
        exact ⟨Kept.cellSome (w := W) (by repeat (first | assumption | exact Kept.refl _ | apply Kept.drew | apply Kept.drewN | apply Kept.alloc | refine Kept.trans ?_ (by assumption))) k0, Kept.cellSome (w := W) (by repeat (first | assumption | exact Kept.refl _ | apply Kept.drew | apply Kept.drewN | apply Kept.alloc | refine Kept.trans ?_ (by assumption))) k1, Kept.cellSome (w := W) (by repeat (first | assumption | exact Kept.refl _ | apply Kept.drew | apply Kept.drewN | apply Kept.alloc | refine Kept.trans ?_ (by assumption))) l0, Kept.cellSome (w := W) (by repeat (first | assumption | exact Kept.refl _ | apply Kept.drew | apply Kept.drewN | apply Kept.alloc | refine Kept.trans ?_ (by assumption))) l1, hKwW.trans (by repeat (first | assumption | exact Kept.refl _ | apply Kept.drew | apply Kept.drewN | apply Kept.alloc | refine Kept.trans ?_ (by assumption)))⟩
      clear hK2 K2
      (try simp only [Act.put, List.setIfInBounds_toArray, List.set_cons_zero, List.set_cons_succ])
      have hKW6 : Kept W w6 := (by repeat (first | assumption | exact Kept.refl _ | apply Kept.drew | apply Kept.drewN | apply Kept.alloc | refine Kept.trans ?_ (by assumption)))
      have hR6 := hKW6.row HRr.out
      have hZ6 := hKW6.row HZ0.out
      have hY6 := hKW6.row HZ1.out
      obtain ⟨f0, f1, f2, f3⟩ := bx_cells hR6
      have hRF := bx_set1 (bx_set0 hR6 (.bool mr)) (.slice ar nr cr)
      have hZF := (hZ6.setOther (a := ⟨r0, 0, none⟩) hzr (.bool mr)).setOther (a := ⟨r0, 1, none⟩) hzr (.slice ar nr cr)
      have hYF := (hY6.setOther (a := ⟨r0, 0, none⟩) hyr (.bool mr)).setOther (a := ⟨r0, 1, none⟩) hyr (.slice ar nr cr)
      have hKF : Kept w ((w6.setCell ⟨r0, 0, none⟩ (.bool mr)).setCell ⟨r0, 1, none⟩ (.slice ar nr cr)) := ((hKwW.trans hKW6).setCell hrw _).setCell hrw _
      have hX : KeptX (fun k => k = r0) w6 ((w6.setCell ⟨r0, 0, none⟩ (.bool mr)).setCell ⟨r0, 1, none⟩ (.slice ar nr cr)) := ((KeptX.refl (fun k => k = r0) w6).setIn 0 _).setIn 1 _
      rw [hV5] at hz6
      have hz7 := hz6.keptBox hX hR6
      rw [hsum.out] at hz7
      have HZ7 := Lib.hid hz7
      obtain ⟨g0, g1, _, _⟩ := bx_cells hRF
      obtain ⟨q0, q1, _, _⟩ := bx_cells hZF
      obtain ⟨q2, q3, _, _⟩ := bx_cells hYF
      clear hR6 hZ6 hY6 hRF hZF hYF hX hz6 hz7 hO5 hD5 hV5 hS5
      refine wpAnyH_ready (rs := [9]) (by kernel_rfl) (by simp) ?_
      refine AllReadyH.cons (o := { dst := none, op := Go.Op.store 53 (Go.Operand.tmp 4) (Go.Operand.tmp 33), type := 0, pos := "big.go:102", after := #[{ on := 8, ground := Go.Ground.data }, { on := 8, ground := Go.Ground.chain }, { on := 0, ground := Go.Ground.phase }, { on := 1, ground := Go.Ground.phase }, { on := 2, ground := Go.Ground.phase }, { on := 3, ground := Go.Ground.phase }, { on := 4, ground := Go.Ground.phase }, { on := 5, ground := Go.Ground.phase }, { on := 6, ground := Go.Ground.phase }, { on := 7, ground := Go.Ground.phase }, { on := 8, ground := Go.Ground.phase }], guard := none }) rfl (fun K2 hK2 => ?_) AllReadyH.nil
      go_simp
      refine hK2.out _ _ ?_ (fun hHeld => ?_)
      · (try dsimp only)
        exact ⟨q0, q1, q2, q3, hKF⟩
      generalize ((w6.setCell ⟨r0, 0, none⟩ (.bool mr)).setCell ⟨r0, 1, none⟩ (.slice ar nr cr)) = WF at *
      clear hK2 K2
      (try simp only [Act.put, List.setIfInBounds_toArray, List.set_cons_zero, List.set_cons_succ])
      refine wpAnyH_done (by kernel_rfl) ?_ _
      go_wp2_with fail
      exact bodyPost_ret (v := .agg #[.bool mr, .slice ar nr cr]) (by simp [results, Tryz.results92, go_sem, g0, g1]) rfl ⟨_, rfl, HZ7.out, hKF⟩
    · have hC : ¬ 0 ≤ C := by
        rw [HCC.out]; unfold cmpI; rw [if_pos (by omega)]; omega
      have hll : l ≤ l2 := by
        rcases Nat.lt_or_ge l2 l with h | h
        · have := lean_len HL2.out.1 HL.out h; omega
        · exact h
      have hsum : Hid (sgnZ m2 (valZ D2 l2 - valZ D l) = Z) := by show _ = _; rw [HZZ.out, hm2v]; cases m <;> simp [sgnZ] <;> omega
      have hbig : Hid (valZ D2 l2 - valZ D l < bigN) := by show _ < _; omega
      have PL := Lib.hid (fun (W : World) (hk : Kept w W) => less_any W _ _ l2 l D2 D ((HS2.out.kept hk).ints) ((HS.out.kept hk).ints) HL2.out.1 HL.out.1 (by omega) hll (by omega))
      clear hb1 hb2 hB hm hm2 hmm hm2v hp1 hp2 hle hll
      go_enter Tryz.func92, Tryz.ntmps92
      go_wp2_with fail
      have hA0 := box_row w (.bool m) (.slice a l cap) 53 w.heap.size rfl
      have hA1 := box_row (w.alloc (.cells #[.bool m, .slice a l cap] 53)) (.bool m2) (.slice a2 l2 cap2) 53 (w.heap.size + 1) (by simp)
      have hA2 := box_row ((w.alloc (.cells #[.bool m, .slice a l cap] 53)).alloc (.cells #[.bool m2, .slice a2 l2 cap2] 53)) (.bool false) (.slice none 0 0) 53 (w.heap.size + 1 + 1) (by simp)
      have hB0 := (((Kept.refl _).alloc (.cells #[.bool m2, .slice a2 l2 cap2] 53)).alloc (.cells #[.bool false, .slice none 0 0] 53)).row hA0
      have hB1 := ((Kept.refl _).alloc (.cells #[.bool false, .slice none 0 0] 53)).row hA1
      have hKwW : Kept w (((w.alloc (.cells #[.bool m, .slice a l cap] 53)).alloc (.cells #[.bool m2, .slice a2 l2 cap2] 53)).alloc (.cells #[.bool false, .slice none 0 0] 53)) := (((Kept.refl w).alloc _).alloc _).alloc _
      generalize (((w.alloc (.cells #[.bool m, .slice a l cap] 53)).alloc (.cells #[.bool m2, .slice a2 l2 cap2] 53)).alloc (.cells #[.bool false, .slice none 0 0] 53)) = W at *
      obtain ⟨r0, HR0⟩ : ∃ r0, Hid (r0 = w.heap.size + 1 + 1) := ⟨_, rfl⟩
      obtain ⟨z1, HZZ1⟩ : ∃ z1, Hid (z1 = w.heap.size + 1) := ⟨_, rfl⟩
      obtain ⟨z0, HZZ0⟩ : ∃ z0, Hid (z0 = w.heap.size) := ⟨_, rfl⟩
      rw [← HR0.out] at hA2 ⊢
      rw [← HZZ1.out] at hB1 ⊢
      rw [← HZZ0.out] at hB0 ⊢
      have hrw : w.heap.size ≤ r0 := by rw [HR0.out]; omega
      have hzr : z0 ≠ r0 := by rw [HR0.out, HZZ0.out]; omega
      have hyr : z1 ≠ r0 := by rw [HR0.out, HZZ1.out]; omega
      have HRr := Lib.hid hA2
      have HZ0 := Lib.hid hB0
      have HZ1 := Lib.hid hB1
      obtain ⟨k0, k1, _, _⟩ := bx_cells hB0
      obtain ⟨l0, l1, _, _⟩ := bx_cells hB1
      clear hA0 hA1 hA2 hB0 hB1
      go_wp2_with fail
      refine (SZ.out _ (hKwW.trans (by repeat (first | assumption | exact Kept.refl _ | apply Kept.drew | apply Kept.drewN | apply Kept.alloc | refine Kept.trans ?_ (by assumption))))).mono ?_
      rintro e w3 ⟨rfl, hq3⟩
      have hk3 := hq3.kept
      go_wp2_with fail
      refine wp_region_held_drew (S := (fun w' => w'.cell? ⟨z0, 0, none⟩ = some (.bool m) ∧ w'.cell? ⟨z0, 1, none⟩ = some (.slice a l cap) ∧ w'.cell? ⟨z1, 0, none⟩ = some (.bool m2) ∧ w'.cell? ⟨z1, 1, none⟩ = some (.slice a2 l2 cap2) ∧ Kept w w')) (by kernel_rfl) ?_ (fun hHeld => ?_)
      · (try dsimp only)
        exact ⟨Kept.cellSome (w := W) (by repeat (first | assumption | exact Kept.refl _ | apply Kept.drew | apply Kept.drewN | apply Kept.alloc | refine Kept.trans ?_ (by assumption))) k0, Kept.cellSome (w := W) (by repeat (first | assumption | exact Kept.refl _ | apply Kept.drew | apply Kept.drewN | apply Kept.alloc | refine Kept.trans ?_ (by assumption))) k1, Kept.cellSome (w := W) (by repeat (first | assumption | exact Kept.refl _ | apply Kept.drew | apply Kept.drewN | apply Kept.alloc | refine Kept.trans ?_ (by assumption))) l0, Kept.cellSome (w := W) (by repeat (first | assumption | exact Kept.refl _ | apply Kept.drew | apply Kept.drewN | apply Kept.alloc | refine Kept.trans ?_ (by assumption))) l1, hKwW.trans (by repeat (first | assumption | exact Kept.refl _ | apply Kept.drew | apply Kept.drewN | apply Kept.alloc | refine Kept.trans ?_ (by assumption)))⟩
      refine wpAnyH_take (i := 0) (oi := { dst := some 34, op := Go.Op.fieldAddr 53 (Go.Operand.tmp 3) 0, type := 0, pos := "big.go:104", after := #[], guard := none }) (v := ?v15) rfl (by kernel_rfl) (by kernel_rfl) (by kernel_rfl) (fun _ _ _ h => h) (Or.inl ⟨by rfl, ?hy15⟩) (by assumption) ?rs15
      case hy15 =>
        intro w hSw
        (try dsimp only at hSw)
        go_simp
        try with_reducible rfl
      (try simp only [Act.put, List.setIfInBounds_toArray, List.set_cons_zero, List.set_cons_succ])
      refine wpAnyH_take (i := 1) (oi := { dst := some 35, op := Go.Op.load 4 (Go.Operand.tmp 34), type := 4, pos := "big.go:104", after := #[{ on := 0, ground := Go.Ground.data }], guard := none }) (v := ?v16) rfl (by kernel_rfl) (by kernel_rfl) (by kernel_rfl) (fun _ _ _ h => h) (Or.inl ⟨by rfl, ?hy16⟩) (by assumption) ?rs16
      case hy16 =>
        intro w hSw
        (try dsimp only at hSw)
        go_simp
        try with_reducible rfl
      (try simp only [Act.put, List.setIfInBounds_toArray, List.set_cons_zero, List.set_cons_succ])
      refine wpAnyH_take (i := 2) (oi := { dst := some 36, op := Go.Op.fieldAddr 53 (Go.Operand.tmp 3) 1, type := 0, pos := "big.go:104", after := #[], guard := none }) (v := ?v17) rfl (by kernel_rfl) (by kernel_rfl) (by kernel_rfl) (fun _ _ _ h => h) (Or.inl ⟨by rfl, ?hy17⟩) (by assumption) ?rs17
      case hy17 =>
        intro w hSw
        (try dsimp only at hSw)
        go_simp
        try with_reducible rfl
      (try simp only [Act.put, List.setIfInBounds_toArray, List.set_cons_zero, List.set_cons_succ])
      refine wpAnyH_take (i := 3) (oi := { dst := some 37, op := Go.Op.load 27 (Go.Operand.tmp 36), type := 27, pos := "big.go:104", after := #[{ on := 2, ground := Go.Ground.data }], guard := none }) (v := ?v18) rfl (by kernel_rfl) (by kernel_rfl) (by kernel_rfl) (fun _ _ _ h => h) (Or.inl ⟨by rfl, ?hy18⟩) (by assumption) ?rs18
      case hy18 =>
        intro w hSw
        (try dsimp only at hSw)
        go_simp
        try with_reducible rfl
      (try simp only [Act.put, List.setIfInBounds_toArray, List.set_cons_zero, List.set_cons_succ])
      refine wpAnyH_take (i := 4) (oi := { dst := some 38, op := Go.Op.fieldAddr 53 (Go.Operand.tmp 2) 1, type := 0, pos := "big.go:104", after := #[], guard := none }) (v := ?v19) rfl (by kernel_rfl) (by kernel_rfl) (by kernel_rfl) (fun _ _ _ h => h) (Or.inl ⟨by rfl, ?hy19⟩) (by assumption) ?rs19
      case hy19 =>
        intro w hSw
        (try dsimp only at hSw)
        go_simp
        try with_reducible rfl
      (try simp only [Act.put, List.setIfInBounds_toArray, List.set_cons_zero, List.set_cons_succ])
      refine wpAnyH_take (i := 5) (oi := { dst := some 39, op := Go.Op.load 27 (Go.Operand.tmp 38), type := 27, pos := "big.go:104", after := #[{ on := 4, ground := Go.Ground.data }], guard := none }) (v := ?v20) rfl (by kernel_rfl) (by kernel_rfl) (by kernel_rfl) (fun _ _ _ h => h) (Or.inl ⟨by rfl, ?hy20⟩) (by assumption) ?rs20
      case hy20 =>
        intro w hSw
        (try dsimp only at hSw)
        go_simp
        try with_reducible rfl
      (try simp only [Act.put, List.setIfInBounds_toArray, List.set_cons_zero, List.set_cons_succ])
      refine wpAnyH_ready (rs := [6]) (by kernel_rfl) (by simp) ?_
      refine AllReadyH.cons (o := { dst := some 40, op := Go.Op.call { callee := Go.Callee.value (Go.Operand.func 113), args := #[Go.Operand.tmp 37, Go.Operand.tmp 39], argTypes := #[27, 27] }, type := 27, pos := "big.go:104", after := #[{ on := 3, ground := Go.Ground.data }, { on := 5, ground := Go.Ground.data }], guard := none }) rfl (fun K2 hK2 => ?_) AllReadyH.nil
      go_simp
      (go_at_call 113; refine (PL.out _ (hKwW.trans (by repeat (first | assumption | exact Kept.refl _ | apply Kept.drew | apply Kept.drewN | apply Kept.alloc | refine Kept.trans ?_ (by assumption))))).mono ?_; rintro e w5 ⟨v5, n5, O5, rfl, hO5, hD5, hV5, hn5, hk5⟩; have hS5 := SlAt.of_own hO5; obtain ⟨va5, vc5, rfl, _⟩ := own_form hO5)
      go_wp2_with fail
      refine hK2.out _ _ ?_ (fun hHeld => ?_)
      · (try dsimp only)
        exact ⟨Kept.cellSome (w := W) (by repeat (first | assumption | exact Kept.refl _ | apply Kept.drew | apply Kept.drewN | apply Kept.alloc | refine Kept.trans ?_ (by assumption))) k0, Kept.cellSome (w := W) (by repeat (first | assumption | exact Kept.refl _ | apply Kept.drew | apply Kept.drewN | apply Kept.alloc | refine Kept.trans ?_ (by assumption))) k1, Kept.cellSome (w := W) (by repeat (first | assumption | exact Kept.refl _ | apply Kept.drew | apply Kept.drewN | apply Kept.alloc | refine Kept.trans ?_ (by assumption))) l0, Kept.cellSome (w := W) (by repeat (first | assumption | exact Kept.refl _ | apply Kept.drew | apply Kept.drewN | apply Kept.alloc | refine Kept.trans ?_ (by assumption))) l1, hKwW.trans (by repeat (first | assumption | exact Kept.refl _ | apply Kept.drew | apply Kept.drewN | apply Kept.alloc | refine Kept.trans ?_ (by assumption)))⟩
      clear hK2 K2
      (try simp only [Act.put, List.setIfInBounds_toArray, List.set_cons_zero, List.set_cons_succ])
      refine wpAnyH_take (i := 7) (oi := { dst := some 41, op := Go.Op.build 53 #[(0, Go.Operand.tmp 35), (1, Go.Operand.tmp 40)], type := 53, pos := "big.go:104", after := #[{ on := 1, ground := Go.Ground.data }, { on := 6, ground := Go.Ground.data }], guard := none }) (v := ?v21) rfl (by kernel_rfl) (by kernel_rfl) (by kernel_rfl) (fun _ _ _ h => h) (Or.inl ⟨by rfl, ?hy21⟩) (by assumption) ?rs21
      case hy21 =>
        intro w hSw
        (try dsimp only at hSw)
        go_simp
        try with_reducible rfl
      (try simp only [Act.put, List.setIfInBounds_toArray, List.set_cons_zero, List.set_cons_succ])
      refine wpAnyH_ready (rs := [8]) (by kernel_rfl) (by simp) ?_
      refine AllReadyH.cons (o := { dst := some 42, op := Go.Op.call { callee := Go.Callee.value (Go.Operand.func 101), args := #[Go.Operand.tmp 41], argTypes := #[53] }, type := 53, pos := "big.go:104", after := #[{ on := 7, ground := Go.Ground.data }, { on := 6, ground := Go.Ground.chain }], guard := none }) rfl (fun K2 hK2 => ?_) AllReadyH.nil
      go_simp
      (go_at_call 101; refine (lean_any _ m2 _ n5 O5 (hS5.kept (by repeat (first | assumption | exact Kept.refl _ | apply Kept.drew | apply Kept.drewN | apply Kept.alloc | refine Kept.trans ?_ (by assumption)))) hD5 (by omega) (by rw [hV5]; exact hbig.out)).mono ?_; rintro e w6 ⟨v6, rfl, hz6, hk6⟩; obtain ⟨mr, ar, nr, cr, rfl⟩ := hz6.shape)
      go_wp2_with fail
      refine hK2.out _ _ ?_ (fun hHeld => ?_)
      · (try dsimp only)
        exact ⟨Kept.cellSome (w := W) (by repeat (first | assumption | exact Kept.refl _ | apply Kept.drew | apply Kept.drewN | apply Kept.alloc | refine Kept.trans ?_ (by assumption))) k0, Kept.cellSome (w := W) (by repeat (first | assumption | exact Kept.refl _ | apply Kept.drew | apply Kept.drewN | apply Kept.alloc | refine Kept.trans ?_ (by assumption))) k1, Kept.cellSome (w := W) (by repeat (first | assumption | exact Kept.refl _ | apply Kept.drew | apply Kept.drewN | apply Kept.alloc | refine Kept.trans ?_ (by assumption))) l0, Kept.cellSome (w := W) (by repeat (first | assumption | exact Kept.refl _ | apply Kept.drew | apply Kept.drewN | apply Kept.alloc | refine Kept.trans ?_ (by assumption))) l1, hKwW.trans (by repeat (first | assumption | exact Kept.refl _ | apply Kept.drew | apply Kept.drewN | apply Kept.alloc | refine Kept.trans ?_ (by assumption)))⟩
      clear hK2 K2
      (try simp only [Act.put, List.setIfInBounds_toArray, List.set_cons_zero, List.set_cons_succ])
      have hKW6 : Kept W w6 := (by repeat (first | assumption | exact Kept.refl _ | apply Kept.drew | apply Kept.drewN | apply Kept.alloc | refine Kept.trans ?_ (by assumption)))
      have hR6 := hKW6.row HRr.out
      have hZ6 := hKW6.row HZ0.out
      have hY6 := hKW6.row HZ1.out
      obtain ⟨f0, f1, f2, f3⟩ := bx_cells hR6
      have hRF := bx_set1 (bx_set0 hR6 (.bool mr)) (.slice ar nr cr)
      have hZF := (hZ6.setOther (a := ⟨r0, 0, none⟩) hzr (.bool mr)).setOther (a := ⟨r0, 1, none⟩) hzr (.slice ar nr cr)
      have hYF := (hY6.setOther (a := ⟨r0, 0, none⟩) hyr (.bool mr)).setOther (a := ⟨r0, 1, none⟩) hyr (.slice ar nr cr)
      have hKF : Kept w ((w6.setCell ⟨r0, 0, none⟩ (.bool mr)).setCell ⟨r0, 1, none⟩ (.slice ar nr cr)) := ((hKwW.trans hKW6).setCell hrw _).setCell hrw _
      have hX : KeptX (fun k => k = r0) w6 ((w6.setCell ⟨r0, 0, none⟩ (.bool mr)).setCell ⟨r0, 1, none⟩ (.slice ar nr cr)) := ((KeptX.refl (fun k => k = r0) w6).setIn 0 _).setIn 1 _
      rw [hV5] at hz6
      have hz7 := hz6.keptBox hX hR6
      rw [hsum.out] at hz7
      have HZ7 := Lib.hid hz7
      obtain ⟨g0, g1, _, _⟩ := bx_cells hRF
      obtain ⟨q0, q1, _, _⟩ := bx_cells hZF
      obtain ⟨q2, q3, _, _⟩ := bx_cells hYF
      clear hR6 hZ6 hY6 hRF hZF hYF hX hz6 hz7 hO5 hD5 hV5 hS5
      refine wpAnyH_ready (rs := [9]) (by kernel_rfl) (by simp) ?_
      refine AllReadyH.cons (o := { dst := none, op := Go.Op.store 53 (Go.Operand.tmp 4) (Go.Operand.tmp 42), type := 0, pos := "big.go:104", after := #[{ on := 8, ground := Go.Ground.data }, { on := 8, ground := Go.Ground.chain }, { on := 0, ground := Go.Ground.phase }, { on := 1, ground := Go.Ground.phase }, { on := 2, ground := Go.Ground.phase }, { on := 3, ground := Go.Ground.phase }, { on := 4, ground := Go.Ground.phase }, { on := 5, ground := Go.Ground.phase }, { on := 6, ground := Go.Ground.phase }, { on := 7, ground := Go.Ground.phase }, { on := 8, ground := Go.Ground.phase }], guard := none }) rfl (fun K2 hK2 => ?_) AllReadyH.nil
      go_simp
      refine hK2.out _ _ ?_ (fun hHeld => ?_)
      · (try dsimp only)
        exact ⟨q0, q1, q2, q3, hKF⟩
      generalize ((w6.setCell ⟨r0, 0, none⟩ (.bool mr)).setCell ⟨r0, 1, none⟩ (.slice ar nr cr)) = WF at *
      clear hK2 K2
      (try simp only [Act.put, List.setIfInBounds_toArray, List.set_cons_zero, List.set_cons_succ])
      refine wpAnyH_done (by kernel_rfl) ?_ _
      go_wp2_with fail
      exact bodyPost_ret (v := .agg #[.bool mr, .slice ar nr cr]) (by simp [results, Tryz.results92, go_sem, g0, g1]) rfl ⟨_, rfl, HZ7.out, hKF⟩
set_option maxRecDepth 100000 in
set_option maxHeartbeats 8000000 in
theorem Sub_any (w : World) (u v : Value) (x y : Int) (hX : ZAt w u x) (hY : ZAt w v y) (hB : Big (x - y)) :
    Calls Tryz.prog 100 #[u, v] w (ZPost w (x - y)) := by
  have HX := Lib.hid hX
  have HY := Lib.hid hY
  have HB : Hid (Big (x + -y)) := by show Big _; rw [← Int.sub_eq_add_neg]; exact hB
  obtain ⟨m, a, l, cap, rfl⟩ := hX.shape
  obtain ⟨m2, a2, l2, cap2, rfl⟩ := hY.shape
  rw [Int.sub_eq_add_neg]
  clear hX hY hB
  go_enter Tryz.func100, Tryz.ntmps100
  go_wp2_with fail
  have hA0 := box_row w (.bool m) (.slice a l cap) 53 w.heap.size rfl
  have hA1 := box_row (w.alloc (.cells #[.bool m, .slice a l cap] 53)) (.bool m2) (.slice a2 l2 cap2) 53 (w.heap.size + 1) (by simp)
  have hA2 := box_row ((w.alloc (.cells #[.bool m, .slice a l cap] 53)).alloc (.cells #[.bool m2, .slice a2 l2 cap2] 53)) (.bool false) (.slice none 0 0) 53 (w.heap.size + 1 + 1) (by simp)
  have hB0 := (((Kept.refl _).alloc (.cells #[.bool m2, .slice a2 l2 cap2] 53)).alloc (.cells #[.bool false, .slice none 0 0] 53)).row hA0
  have hB1 := ((Kept.refl _).alloc (.cells #[.bool false, .slice none 0 0] 53)).row hA1
  have hKwW : Kept w (((w.alloc (.cells #[.bool m, .slice a l cap] 53)).alloc (.cells #[.bool m2, .slice a2 l2 cap2] 53)).alloc (.cells #[.bool false, .slice none 0 0] 53)) := (((Kept.refl w).alloc _).alloc _).alloc _
  generalize (((w.alloc (.cells #[.bool m, .slice a l cap] 53)).alloc (.cells #[.bool m2, .slice a2 l2 cap2] 53)).alloc (.cells #[.bool false, .slice none 0 0] 53)) = W at *
  obtain ⟨r0, HR0⟩ : ∃ r0, Hid (r0 = w.heap.size + 1 + 1) := ⟨_, rfl⟩
  obtain ⟨z1, HZZ1⟩ : ∃ z1, Hid (z1 = w.heap.size + 1) := ⟨_, rfl⟩
  obtain ⟨z0, HZZ0⟩ : ∃ z0, Hid (z0 = w.heap.size) := ⟨_, rfl⟩
  rw [← HR0.out] at hA2 ⊢
  rw [← HZZ1.out] at hB1 ⊢
  rw [← HZZ0.out] at hB0 ⊢
  have hrw : w.heap.size ≤ r0 := by rw [HR0.out]; omega
  have hzr : z0 ≠ r0 := by rw [HR0.out, HZZ0.out]; omega
  have hyr : z1 ≠ r0 := by rw [HR0.out, HZZ1.out]; omega
  have HRr := Lib.hid hA2
  have HZ0 := Lib.hid hB0
  have HZ1 := Lib.hid hB1
  obtain ⟨k0, k1, _, _⟩ := bx_cells hB0
  obtain ⟨l0, l1, _, _⟩ := bx_cells hB1
  clear hA0 hA1 hA2 hB0 hB1
  try go_wp2_with fail
  refine wp_region_held_drew (S := (fun w' => w'.cell? ⟨z0, 0, none⟩ = some (.bool m) ∧ w'.cell? ⟨z0, 1, none⟩ = some (.slice a l cap) ∧ w'.cell? ⟨z1, 0, none⟩ = some (.bool m2) ∧ w'.cell? ⟨z1, 1, none⟩ = some (.slice a2 l2 cap2) ∧ Kept w w')) (by kernel_rfl) ?_ (fun hHeld => ?_)
  · (try dsimp only)
    exact ⟨Kept.cellSome (w := W) (by repeat (first | assumption | exact Kept.refl _ | apply Kept.drew | apply Kept.drewN | apply Kept.alloc | refine Kept.trans ?_ (by assumption))) k0, Kept.cellSome (w := W) (by repeat (first | assumption | exact Kept.refl _ | apply Kept.drew | apply Kept.drewN | apply Kept.alloc | refine Kept.trans ?_ (by assumption))) k1, Kept.cellSome (w := W) (by repeat (first | assumption | exact Kept.refl _ | apply Kept.drew | apply Kept.drewN | apply Kept.alloc | refine Kept.trans ?_ (by assumption))) l0, Kept.cellSome (w := W) (by repeat (first | assumption | exact Kept.refl _ | apply Kept.drew | apply Kept.drewN | apply Kept.alloc | refine Kept.trans ?_ (by assumption))) l1, hKwW.trans (by repeat (first | assumption | exact Kept.refl _ | apply Kept.drew | apply Kept.drewN | apply Kept.alloc | refine Kept.trans ?_ (by assumption)))⟩
  refine wpAnyH_take (i := 0) (oi := { dst := some 5, op := Go.Op.load 53 (Go.Operand.tmp 2), type := 53, pos := "big.go:107", after := #[], guard := none }) (v := ?v22) rfl (by kernel_rfl) (by kernel_rfl) (by kernel_rfl) (fun _ _ _ h => h) (Or.inl ⟨by rfl, ?hy22⟩) (by assumption) ?rs22
  case hy22 =>
    intro w hSw
    (try dsimp only at hSw)
    go_simp
    try with_reducible rfl
  (try simp only [Act.put, List.setIfInBounds_toArray, List.set_cons_zero, List.set_cons_succ])
  refine wpAnyH_take (i := 1) (oi := { dst := some 6, op := Go.Op.load 53 (Go.Operand.tmp 3), type := 53, pos := "big.go:107", after := #[], guard := none }) (v := ?v23) rfl (by kernel_rfl) (by kernel_rfl) (by kernel_rfl) (fun _ _ _ h => h) (Or.inl ⟨by rfl, ?hy23⟩) (by assumption) ?rs23
  case hy23 =>
    intro w hSw
    (try dsimp only at hSw)
    go_simp
    try with_reducible rfl
  (try simp only [Act.put, List.setIfInBounds_toArray, List.set_cons_zero, List.set_cons_succ])
  refine wpAnyH_ready (rs := [2]) (by kernel_rfl) (by simp) ?_
  refine AllReadyH.cons (o := { dst := some 7, op := Go.Op.call { callee := Go.Callee.value (Go.Operand.func 95), args := #[Go.Operand.tmp 6], argTypes := #[53] }, type := 53, pos := "big.go:107", after := #[{ on := 1, ground := Go.Ground.data }], guard := none }) rfl (fun K2 hK2 => ?_) AllReadyH.nil
  go_simp
  (go_at_call 95; refine (Neg_any _ _ y (HY.out.kept (hKwW.trans (by repeat (first | assumption | exact Kept.refl _ | apply Kept.drew | apply Kept.drewN | apply Kept.alloc | refine Kept.trans ?_ (by assumption)))))).mono ?_; rintro e w5 ⟨v5, rfl, hz5, hk5⟩; obtain ⟨mq, aq, nq, cq, rfl⟩ := hz5.shape)
  go_wp2_with fail
  refine hK2.out _ _ ?_ (fun hHeld => ?_)
  · (try dsimp only)
    exact ⟨Kept.cellSome (w := W) (by repeat (first | assumption | exact Kept.refl _ | apply Kept.drew | apply Kept.drewN | apply Kept.alloc | refine Kept.trans ?_ (by assumption))) k0, Kept.cellSome (w := W) (by repeat (first | assumption | exact Kept.refl _ | apply Kept.drew | apply Kept.drewN | apply Kept.alloc | refine Kept.trans ?_ (by assumption))) k1, Kept.cellSome (w := W) (by repeat (first | assumption | exact Kept.refl _ | apply Kept.drew | apply Kept.drewN | apply Kept.alloc | refine Kept.trans ?_ (by assumption))) l0, Kept.cellSome (w := W) (by repeat (first | assumption | exact Kept.refl _ | apply Kept.drew | apply Kept.drewN | apply Kept.alloc | refine Kept.trans ?_ (by assumption))) l1, hKwW.trans (by repeat (first | assumption | exact Kept.refl _ | apply Kept.drew | apply Kept.drewN | apply Kept.alloc | refine Kept.trans ?_ (by assumption)))⟩
  clear hK2 K2
  (try simp only [Act.put, List.setIfInBounds_toArray, List.set_cons_zero, List.set_cons_succ])
  refine wpAnyH_ready (rs := [3]) (by kernel_rfl) (by simp) ?_
  refine AllReadyH.cons (o := { dst := some 8, op := Go.Op.call { callee := Go.Callee.value (Go.Operand.func 92), args := #[Go.Operand.tmp 5, Go.Operand.tmp 7], argTypes := #[53, 53] }, type := 53, pos := "big.go:107", after := #[{ on := 0, ground := Go.Ground.data }, { on := 2, ground := Go.Ground.data }, { on := 2, ground := Go.Ground.chain }], guard := none }) rfl (fun K2 hK2 => ?_) AllReadyH.nil
  go_simp
  (go_at_call 92; refine (Add_any _ _ _ x (-y) (HX.out.kept (hKwW.trans (by repeat (first | assumption | exact Kept.refl _ | apply Kept.drew | apply Kept.drewN | apply Kept.alloc | refine Kept.trans ?_ (by assumption))))) (hz5.kept (by repeat (first | assumption | exact Kept.refl _ | apply Kept.drew | apply Kept.drewN | apply Kept.alloc | refine Kept.trans ?_ (by assumption)))) HB.out).mono ?_; rintro e w6 ⟨v6, rfl, hz6, hk6⟩; obtain ⟨mr, ar, nr, cr, rfl⟩ := hz6.shape)
  go_wp2_with fail
  refine hK2.out _ _ ?_ (fun hHeld => ?_)
  · (try dsimp only)
    exact ⟨Kept.cellSome (w := W) (by repeat (first | assumption | exact Kept.refl _ | apply Kept.drew | apply Kept.drewN | apply Kept.alloc | refine Kept.trans ?_ (by assumption))) k0, Kept.cellSome (w := W) (by repeat (first | assumption | exact Kept.refl _ | apply Kept.drew | apply Kept.drewN | apply Kept.alloc | refine Kept.trans ?_ (by assumption))) k1, Kept.cellSome (w := W) (by repeat (first | assumption | exact Kept.refl _ | apply Kept.drew | apply Kept.drewN | apply Kept.alloc | refine Kept.trans ?_ (by assumption))) l0, Kept.cellSome (w := W) (by repeat (first | assumption | exact Kept.refl _ | apply Kept.drew | apply Kept.drewN | apply Kept.alloc | refine Kept.trans ?_ (by assumption))) l1, hKwW.trans (by repeat (first | assumption | exact Kept.refl _ | apply Kept.drew | apply Kept.drewN | apply Kept.alloc | refine Kept.trans ?_ (by assumption)))⟩
  clear hK2 K2
  (try simp only [Act.put, List.setIfInBounds_toArray, List.set_cons_zero, List.set_cons_succ])
  have hKW6 : Kept W w6 := (by repeat (first | assumption | exact Kept.refl _ | apply Kept.drew | apply Kept.drewN | apply Kept.alloc | refine Kept.trans ?_ (by assumption)))
  have hR6 := hKW6.row HRr.out
  have hZ6 := hKW6.row HZ0.out
  have hY6 := hKW6.row HZ1.out
  obtain ⟨f0, f1, f2, f3⟩ := bx_cells hR6
  have hRF := bx_set1 (bx_set0 hR6 (.bool mr)) (.slice ar nr cr)
  have hZF := (hZ6.setOther (a := ⟨r0, 0, none⟩) hzr (.bool mr)).setOther (a := ⟨r0, 1, none⟩) hzr (.slice ar nr cr)
  have hYF := (hY6.setOther (a := ⟨r0, 0, none⟩) hyr (.bool mr)).setOther (a := ⟨r0, 1, none⟩) hyr (.slice ar nr cr)
  have hKF : Kept w ((w6.setCell ⟨r0, 0, none⟩ (.bool mr)).setCell ⟨r0, 1, none⟩ (.slice ar nr cr)) := ((hKwW.trans hKW6).setCell hrw _).setCell hrw _
  have hX : KeptX (fun k => k = r0) w6 ((w6.setCell ⟨r0, 0, none⟩ (.bool mr)).setCell ⟨r0, 1, none⟩ (.slice ar nr cr)) := ((KeptX.refl (fun k => k = r0) w6).setIn 0 _).setIn 1 _
  have hz7 := hz6.keptBox hX hR6
  have HZ7 := Lib.hid hz7
  obtain ⟨g0, g1, _, _⟩ := bx_cells hRF
  obtain ⟨q0, q1, _, _⟩ := bx_cells hZF
  obtain ⟨q2, q3, _, _⟩ := bx_cells hYF
  clear hR6 hZ6 hY6 hRF hZF hYF hX hz6 hz7 hz5
  refine wpAnyH_ready (rs := [4]) (by kernel_rfl) (by simp) ?_
  refine AllReadyH.cons (o := { dst := none, op := Go.Op.store 53 (Go.Operand.tmp 4) (Go.Operand.tmp 8), type := 0, pos := "big.go:107", after := #[{ on := 3, ground := Go.Ground.data }, { on := 3, ground := Go.Ground.chain }, { on := 0, ground := Go.Ground.phase }, { on := 1, ground := Go.Ground.phase }, { on := 2, ground := Go.Ground.phase }, { on := 3, ground := Go.Ground.phase }], guard := none }) rfl (fun K2 hK2 => ?_) AllReadyH.nil
  go_simp
  refine hK2.out _ _ ?_ (fun hHeld => ?_)
  · (try dsimp only)
    exact ⟨q0, q1, q2, q3, hKF⟩
  generalize ((w6.setCell ⟨r0, 0, none⟩ (.bool mr)).setCell ⟨r0, 1, none⟩ (.slice ar nr cr)) = WF at *
  clear hK2 K2
  (try simp only [Act.put, List.setIfInBounds_toArray, List.set_cons_zero, List.set_cons_succ])
  refine wpAnyH_done (by kernel_rfl) ?_ _
  go_wp2_with fail
  exact bodyPost_ret (v := .agg #[.bool mr, .slice ar nr cr]) (by simp [results, Tryz.results100, go_sem, g0, g1]) rfl ⟨_, rfl, HZ7.out, hKF⟩
theorem signI_cmp (x y : Int) : signI (x - y) = cmpI x y := by
  unfold signI cmpI
  by_cases h : x < y
  · rw [if_pos (by omega), if_pos h]
  · rw [if_neg (by omega), if_neg h]
    by_cases h2 : y < x
    · rw [if_pos (by omega), if_pos h2]
    · rw [if_neg (by omega), if_neg h2]
set_option maxRecDepth 100000 in
set_option maxHeartbeats 4000000 in
theorem Cmp_any (w : World) (u v : Value) (x y : Int) (hX : ZAt w u x) (hY : ZAt w v y) (hB : Big (x - y)) :
    Calls Tryz.prog 70 #[u, v] w fun e w' => e = .returned (.int .i64 (cmpI x y)) ∧ Kept w w' := by
  rw [← signI_cmp]
  have HX := Lib.hid hX
  have HY := Lib.hid hY
  have HB := Lib.hid hB
  obtain ⟨m, a, l, cap, rfl⟩ := hX.shape
  obtain ⟨m2, a2, l2, cap2, rfl⟩ := hY.shape
  have hkw : Kept w ((w.alloc (.cells #[.bool m, .slice a l cap] 53)).alloc (.cells #[.bool m2, .slice a2 l2 cap2] 53)) := ((Kept.refl w).alloc _).alloc _
  clear hX hY hB
  go_enter Tryz.func70, Tryz.ntmps70
  go_wp2_with fail
  refine (Sub_any _ _ _ x y (HX.out.kept hkw) (HY.out.kept hkw) HB.out).mono ?_
  rintro e w3 ⟨v3, rfl, hz3, hk3⟩
  go_wp2_with fail
  refine (Sign_any _ _ _ hz3).mono ?_
  rintro e w4 ⟨rfl, hk4⟩
  go_wp2_with fail
  go_ret
  exact ⟨rfl, (hkw.trans hk3).trans hk4⟩
set_option maxRecDepth 100000 in
set_option maxHeartbeats 8000000 in
theorem Int_pos (w : World) (M : Int) (hM0 : 0 ≤ M) (hM1 : M < 10000 ^ 5) :
    Calls Tryz.prog 64 #[.int .i64 M] w (ZPost w M) := by
  obtain ⟨i0, hi, hz0, hz1, hz2⟩ := info_parts Tryz.info3
  have hsg : decide (M < 0) = false := decide_eq_false (by omega)
  have hA := box_row (w.alloc (.cells #[.bool false, .slice none 0 0] 53)) (.bool false) (.slice none 0 0) 53 (w.heap.size + 1) (by simp)
  have hB := ((Kept.refl _).alloc (.cells #[.bool false, .slice none 0 0] 53)).row (box_row w (.bool false) (.slice none 0 0) 53 w.heap.size rfl)
  have hK0 : Kept w ((w.alloc (.cells #[.bool false, .slice none 0 0] 53)).alloc (.cells #[.bool false, .slice none 0 0] 53)) := ((Kept.refl w).alloc _).alloc _
  go_enter Tryz.func64, Tryz.ntmps64
  go_wp2_with fail
  generalize ((w.alloc (.cells #[.bool false, .slice none 0 0] 53)).alloc (.cells #[.bool false, .slice none 0 0] 53)) = W at *
  obtain ⟨z0, HZ0⟩ : ∃ z0, Hid (z0 = w.heap.size + 1) := ⟨_, rfl⟩
  obtain ⟨r0, HR0⟩ : ∃ r0, Hid (r0 = w.heap.size) := ⟨_, rfl⟩
  rw [← HZ0.out] at hA ⊢
  rw [← HR0.out] at hB ⊢
  have hzw : w.heap.size ≤ z0 := by rw [HZ0.out]; omega
  have hrw : w.heap.size ≤ r0 := by rw [HR0.out]; exact Nat.le_refl _
  have hrz : r0 ≠ z0 := by rw [HZ0.out, HR0.out]; omega
  have hzl : z0 < W.heap.size := hA.lt
  have hrl : r0 < W.heap.size := hB.lt
  have hwW := hK0.size
  have hO0 : W.ownsRow W.heap.size 3 1 (.slice none 0 0) 0 (ints (fun _ => 0) 0) := own_none W _ _ _
  have hV0 : Hid (valZ (fun _ => 0) 0 + M * 10000 ^ 0 = M) := by show _ = _; simp [valZ]
  clear HZ0 HR0 hsg
  go_loopg [0] 5 (fun g s0 wr => ∃ (k : Nat) (q : Int) (D : Nat → Int) (sv : Value), k ≤ 5 ∧ g = 5 - k ∧ s0 = .int .i64 (q) ∧ 0 ≤ q ∧ Kept w wr ∧ W.heap.size ≤ wr.heap.size ∧ wr.rowIs z0 53 2 (bx (.bool false) sv) ∧ wr.rowIs r0 53 2 (bx (.bool false) (.slice none 0 0)) ∧ wr.ownsRow W.heap.size 3 1 sv k (ints D k) ∧ Hid (DigZ D k) ∧ Hid (valZ D k + q * 10000 ^ k = M) ∧ Hid (q = 0 → 0 < k → D (k - 1) ≠ 0))
  case atStart => exact ⟨0, M, fun _ => 0, _, by omega, rfl, rfl, hM0, hK0, Nat.le_refl _, hA, hB, hO0, (fun i h => by omega), hV0.out, (fun _ h => by omega)⟩
  case round =>
    obtain ⟨k, q, D, sv, hk5, rfl, rfl, hq0, hK, hsz, hZ, hRr, hO, hG, hV, hT⟩ := hrel
    clear hA hB hK0 hO0 hV0
    obtain ⟨oa, ocap, rfl, _⟩ := own_form hO
    obtain ⟨x0, x1, x2, x3⟩ := bx_cells hZ
    by_cases hq : q = 0
    · subst hq
      have hfin : Hid (valZ D k = M) := by have := hV.out; rw [Int.zero_mul] at this; show _ = _; omega
      have hlean : Hid (LeanZ D k) := ⟨hG.out, hT.out rfl⟩
      obtain ⟨j0, j1, j2, j3⟩ := bx_cells hRr
      have hRF := bx_set1 (bx_set0 hRr (.bool false)) (.slice oa k ocap)
      have hKF : Kept w ((wr.setCell ⟨r0, 0, none⟩ (.bool false)).setCell ⟨r0, 1, none⟩ (.slice oa k ocap)) := (hK.setCell hrw _).setCell hrw _
      have hO9 := own_keptX hO (((KeptX.refl (fun k => k = r0) wr).setIn 0 (.bool false)).setIn 1 (.slice oa k ocap)) (fun b h => by omega)
      have HO9 := Lib.hid (SlAt.of_own hO9)
      obtain ⟨g0, g1, _, _⟩ := bx_cells hRF
      clear hV hG hT hO9
      skip
      go_wp2_with fail
      generalize ((wr.setCell ⟨r0, 0, none⟩ (.bool false)).setCell ⟨r0, 1, none⟩ (.slice oa k ocap)) = WF at *
      exact bodyPost_ret (v := .agg #[.bool false, .slice oa k ocap]) (by simp [results, Tryz.results64, go_sem, g0, g1]) rfl ⟨_, rfl, ⟨false, _, k, D, rfl, HO9.out, hlean.out, (fun h => by cases h), by rw [hfin.out]; rfl, by omega⟩, hKF⟩
    · have hne : ¬ q = 0 := by omega
      have hk4 : k < 5 := by
        rcases Nat.lt_or_ge k 5 with h | h
        · exact h
        · exfalso
          have h1 := pw_le h
          have h2 := hV.out
          have h3 := valZ_bd hG.out
          have h4 : 1 * 10000 ^ k ≤ q * 10000 ^ k := Int.mul_le_mul_of_nonneg_right (by omega) (Int.le_of_lt (pw_pos k))
          omega
      have hqM : q ≤ 100000000000000000000 := by
        have h2 := hV.out
        have h3 := valZ_bd hG.out
        have h4 : q * 1 ≤ q * 10000 ^ k := Int.mul_le_mul_of_nonneg_left (by have := pw_pos k; omega) hq0
        omega
      obtain ⟨R, HRD⟩ : ∃ R, Hid (R = q % 10000) := ⟨_, rfl⟩
      obtain ⟨Q, HQD⟩ : ∃ Q, Hid (Q = q / 10000) := ⟨_, rfl⟩
      have hdm : Hid (q = R + Q * 10000) := by show _ = _; rw [HRD.out, HQD.out]; omega
      have hR1 : 0 ≤ R ∧ R < 10000 := by rw [HRD.out]; omega
      have hQ1 : 0 ≤ Q := by rw [HQD.out]; omega
      have hQ2 : Q ≤ 10000000000000000 := by rw [HQD.out]; omega
      obtain ⟨hRa, hRb⟩ := hR1
      have hV2 : Hid (valZ (snI D k R) (k + 1) + Q * 10000 ^ (k + 1) = M) := by
        show _ = _
        have g1 : valZ (snI D k R) k = valZ D k := valZ_congr (fun j hj => by unfold snI; rw [if_neg (by omega)])
        have g2 : snI D k R k = R := by unfold snI; rw [if_pos rfl]
        simp only [valZ, g1, g2, pw_succ]
        have h1 := hV.out
        have h2 := hdm.out
        rw [h2] at h1
        grind
      have hG2 : Hid (DigZ (snI D k R) (k + 1)) := fun j hj => by
        unfold snI
        by_cases e : j = k
        · rw [if_pos e]; exact ⟨hRa, hRb⟩
        · rw [if_neg e]; exact hG.out j (by omega)
      have hT2 : Hid (Q = 0 → 0 < k + 1 → snI D k R (k + 1 - 1) ≠ 0) := fun h _ => by
        rw [Nat.add_sub_cancel]
        unfold snI
        rw [if_pos rfl]
        have := hdm.out
        intro h3
        apply hq
        omega
      clear hdm hV hG hT
      skip
      have t1 : Int.tmod q 10000 = R := by rw [HRD.out]; exact Int.tmod_eq_emod_of_nonneg (by omega)
      have t2 : Int.tdiv q 10000 = Q := by rw [HQD.out]; exact Int.tdiv_eq_ediv_of_nonneg (by omega)
      have t3 : ¬ R < 0 := by omega
      clear HRD HQD
      go_wp2_with (first | (at_builtin; refine wpList_append_own _ rfl _ _ 27 rfl W.heap.size 3 i0 (.int .i64 0) 1 8 Tryz.underlying27 hi hz0 hz1 hz2 rfl (by decide) _ _ _ rfl (hO.alloc _) ⟨wr.heap.size, 0, none⟩ 1 1 [.int .i64 R] rfl rfl (news_one _ _ _) ?c2 ?c3 ?c4 ?c5 ?_))
      case c2 => simp [Value.oneCell']
      case c3 => unfold maxLen; omega
      case c4 => omega
      case c5 => first | omega | (simp; omega)
      intro v' w2 hO3 hgr _
      have hX := grew_X hgr (hO.alloc (.cells #[.int .i64 R] 3))
      have hZ2 := hX.row (((Kept.refl wr).alloc (.cells #[.int .i64 R] 3)).row hZ) (by omega)
      have hR2 := hX.row (((Kept.refl wr).alloc (.cells #[.int .i64 R] 3)).row hRr) (by omega)
      have hK2 : Kept w w2 := (hK.alloc _).step hX (fun i hi => Nat.le_trans hwW hi)
      have hs2 : W.heap.size ≤ w2.heap.size := Nat.le_trans (Nat.le_trans hsz ((Kept.refl wr).alloc (.cells #[.int .i64 R] 3)).size) hgr.size
      have hO4 : w2.ownsRow W.heap.size 3 1 v' (k + 1) (ints (snI D k R) (k + 1)) := by rw [ints_sn]; exact hO3
      obtain ⟨va, vc, rfl, _⟩ := own_form hO4
      obtain ⟨y0, y1, y2, y3⟩ := bx_cells hZ2
      have hZ3 := bx_set1 hZ2 (.slice va (k + 1) vc)
      have hR3 := hR2.setOther (a := ⟨z0, 1, none⟩) hrz (.slice va (k + 1) vc)
      have hK3 : Kept w (w2.setCell ⟨z0, 1, none⟩ (.slice va (k + 1) vc)) := hK2.setCell hzw _
      have hO5 := own_keptX hO4 ((KeptX.refl (fun k => k = z0) w2).setIn 1 (.slice va (k + 1) vc)) (fun b h => by omega)
      have hs3 : W.heap.size ≤ (w2.setCell ⟨z0, 1, none⟩ (.slice va (k + 1) vc)).heap.size := by rw [nblk_setCell]; exact hs2
      have HO5 := Lib.hid hO5
      clear hO3 hX hgr hO hO4 hO5 hK hK2 hZ hRr hR2 hsz hs2 y0 x0 x1 x2 x3
      go_wp2_with fail
      generalize (w2.setCell ⟨z0, 1, none⟩ (.slice va (k + 1) vc)) = W3 at *
      go_roundg (5 - (k + 1))
      case measure => omega
      case rel => exact ⟨k + 1, Q, snI D k R, _, by omega, rfl, by go_num, by omega, hK3, hs3, hZ3, hR3, HO5.out, hG2.out, hV2.out, hT2.out⟩
set_option maxRecDepth 100000 in
set_option maxHeartbeats 8000000 in
theorem Int_neg (w : World) (M : Int) (hMp : 0 < M) (hM1 : M < 10000 ^ 5) :
    Calls Tryz.prog 64 #[.int .i64 (-M)] w (ZPost w (-M)) := by
  obtain ⟨i0, hi, hz0, hz1, hz2⟩ := info_parts Tryz.info3
  have hM0 : 0 ≤ M := by omega
  have hsg : decide (-M < 0) = true := decide_eq_true (by omega)
  have hA := box_row (w.alloc (.cells #[.bool false, .slice none 0 0] 53)) (.bool true) (.slice none 0 0) 53 (w.heap.size + 1) (by simp)
  have hB := ((Kept.refl _).alloc (.cells #[.bool true, .slice none 0 0] 53)).row (box_row w (.bool false) (.slice none 0 0) 53 w.heap.size rfl)
  have hK0 : Kept w ((w.alloc (.cells #[.bool false, .slice none 0 0] 53)).alloc (.cells #[.bool true, .slice none 0 0] 53)) := ((Kept.refl w).alloc _).alloc _
  go_enter Tryz.func64, Tryz.ntmps64
  go_wp2_with fail
  generalize ((w.alloc (.cells #[.bool false, .slice none 0 0] 53)).alloc (.cells #[.bool true, .slice none 0 0] 53)) = W at *
  obtain ⟨z0, HZ0⟩ : ∃ z0, Hid (z0 = w.heap.size + 1) := ⟨_, rfl⟩
  obtain ⟨r0, HR0⟩ : ∃ r0, Hid (r0 = w.heap.size) := ⟨_, rfl⟩
  rw [← HZ0.out] at hA ⊢
  rw [← HR0.out] at hB ⊢
  have hzw : w.heap.size ≤ z0 := by rw [HZ0.out]; omega
  have hrw : w.heap.size ≤ r0 := by rw [HR0.out]; exact Nat.le_refl _
  have hrz : r0 ≠ z0 := by rw [HZ0.out, HR0.out]; omega
  have hzl : z0 < W.heap.size := hA.lt
  have hrl : r0 < W.heap.size := hB.lt
  have hwW := hK0.size
  have hO0 : W.ownsRow W.heap.size 3 1 (.slice none 0 0) 0 (ints (fun _ => 0) 0) := own_none W _ _ _
  have hV0 : Hid (valZ (fun _ => 0) 0 + M * 10000 ^ 0 = M) := by show _ = _; simp [valZ]
  clear HZ0 HR0 hsg
  go_loopg [0] 5 (fun g s0 wr => ∃ (k : Nat) (q : Int) (D : Nat → Int) (sv : Value), k ≤ 5 ∧ g = 5 - k ∧ s0 = .int .i64 (-q) ∧ 0 ≤ q ∧ Kept w wr ∧ W.heap.size ≤ wr.heap.size ∧ wr.rowIs z0 53 2 (bx (.bool true) sv) ∧ wr.rowIs r0 53 2 (bx (.bool false) (.slice none 0 0)) ∧ wr.ownsRow W.heap.size 3 1 sv k (ints D k) ∧ Hid (DigZ D k) ∧ Hid (valZ D k + q * 10000 ^ k = M) ∧ Hid (q = 0 → 0 < k → D (k - 1) ≠ 0))
  case atStart => exact ⟨0, M, fun _ => 0, _, by omega, rfl, rfl, hM0, hK0, Nat.le_refl _, hA, hB, hO0, (fun i h => by omega), hV0.out, (fun _ h => by omega)⟩
  case round =>
    obtain ⟨k, q, D, sv, hk5, rfl, rfl, hq0, hK, hsz, hZ, hRr, hO, hG, hV, hT⟩ := hrel
    clear hA hB hK0 hO0 hV0
    obtain ⟨oa, ocap, rfl, _⟩ := own_form hO
    obtain ⟨x0, x1, x2, x3⟩ := bx_cells hZ
    by_cases hq : q = 0
    · subst hq
      have hfin : Hid (valZ D k = M) := by have := hV.out; rw [Int.zero_mul] at this; show _ = _; omega
      have hlean : Hid (LeanZ D k) := ⟨hG.out, hT.out rfl⟩
      obtain ⟨j0, j1, j2, j3⟩ := bx_cells hRr
      have hRF := bx_set1 (bx_set0 hRr (.bool true)) (.slice oa k ocap)
      have hKF : Kept w ((wr.setCell ⟨r0, 0, none⟩ (.bool true)).setCell ⟨r0, 1, none⟩ (.slice oa k ocap)) := (hK.setCell hrw _).setCell hrw _
      have hO9 := own_keptX hO (((KeptX.refl (fun k => k = r0) wr).setIn 0 (.bool true)).setIn 1 (.slice oa k ocap)) (fun b h => by omega)
      have HO9 := Lib.hid (SlAt.of_own hO9)
      obtain ⟨g0, g1, _, _⟩ := bx_cells hRF
      clear hV hG hT hO9
      have hneg : (-(0 : Int)) = 0 := rfl
      go_wp2_with fail
      generalize ((wr.setCell ⟨r0, 0, none⟩ (.bool true)).setCell ⟨r0, 1, none⟩ (.slice oa k ocap)) = WF at *
      exact bodyPost_ret (v := .agg #[.bool true, .slice oa k ocap]) (by simp [results, Tryz.results64, go_sem, g0, g1]) rfl ⟨_, rfl, ⟨true, _, k, D, rfl, HO9.out, hlean.out, (fun _ => by rcases Nat.eq_zero_or_pos k with e | e; (subst e; have := hfin.out; simp [valZ] at this; omega); exact e), by rw [hfin.out]; rfl, by omega⟩, hKF⟩
    · have hne : ¬ -q = 0 := by omega
      have hk4 : k < 5 := by
        rcases Nat.lt_or_ge k 5 with h | h
        · exact h
        · exfalso
          have h1 := pw_le h
          have h2 := hV.out
          have h3 := valZ_bd hG.out
          have h4 : 1 * 10000 ^ k ≤ q * 10000 ^ k := Int.mul_le_mul_of_nonneg_right (by omega) (Int.le_of_lt (pw_pos k))
          omega
      have hqM : q ≤ 100000000000000000000 := by
        have h2 := hV.out
        have h3 := valZ_bd hG.out
        have h4 : q * 1 ≤ q * 10000 ^ k := Int.mul_le_mul_of_nonneg_left (by have := pw_pos k; omega) hq0
        omega
      obtain ⟨R, HRD⟩ : ∃ R, Hid (R = q % 10000) := ⟨_, rfl⟩
      obtain ⟨Q, HQD⟩ : ∃ Q, Hid (Q = q / 10000) := ⟨_, rfl⟩
      have hdm : Hid (q = R + Q * 10000) := by show _ = _; rw [HRD.out, HQD.out]; omega
      have hR1 : 0 ≤ R ∧ R < 10000 := by rw [HRD.out]; omega
      have hQ1 : 0 ≤ Q := by rw [HQD.out]; omega
      have hQ2 : Q ≤ 10000000000000000 := by rw [HQD.out]; omega
      obtain ⟨hRa, hRb⟩ := hR1
      have hV2 : Hid (valZ (snI D k R) (k + 1) + Q * 10000 ^ (k + 1) = M) := by
        show _ = _
        have g1 : valZ (snI D k R) k = valZ D k := valZ_congr (fun j hj => by unfold snI; rw [if_neg (by omega)])
        have g2 : snI D k R k = R := by unfold snI; rw [if_pos rfl]
        simp only [valZ, g1, g2, pw_succ]
        have h1 := hV.out
        have h2 := hdm.out
        rw [h2] at h1
        grind
      have hG2 : Hid (DigZ (snI D k R) (k + 1)) := fun j hj => by
        unfold snI
        by_cases e : j = k
        · rw [if_pos e]; exact ⟨hRa, hRb⟩
        · rw [if_neg e]; exact hG.out j (by omega)
      have hT2 : Hid (Q = 0 → 0 < k + 1 → snI D k R (k + 1 - 1) ≠ 0) := fun h _ => by
        rw [Nat.add_sub_cancel]
        unfold snI
        rw [if_pos rfl]
        have := hdm.out
        intro h3
        apply hq
        omega
      clear hdm hV hG hT
      by_cases hR0 : R = 0
      · skip
        have t2 : Int.tdiv (-q) 10000 = -Q := by rw [Int.neg_tdiv, HQD.out, Int.tdiv_eq_ediv_of_nonneg (by omega)]
        have t1 : Int.tmod (-q) 10000 = R := by rw [Int.neg_tmod, Int.tmod_eq_emod_of_nonneg (by omega), ← HRD.out, hR0]; rfl
        have t3 : ¬ R < 0 := by omega
        clear HRD HQD hR0
        go_wp2_with (first | (at_builtin; refine wpList_append_own _ rfl _ _ 27 rfl W.heap.size 3 i0 (.int .i64 0) 1 8 Tryz.underlying27 hi hz0 hz1 hz2 rfl (by decide) _ _ _ rfl (hO.alloc _) ⟨wr.heap.size, 0, none⟩ 1 1 [.int .i64 R] rfl rfl (news_one _ _ _) ?c2 ?c3 ?c4 ?c5 ?_))
        case c2 => simp [Value.oneCell']
        case c3 => unfold maxLen; omega
        case c4 => omega
        case c5 => first | omega | (simp; omega)
        intro v' w2 hO3 hgr _
        have hX := grew_X hgr (hO.alloc (.cells #[.int .i64 R] 3))
        have hZ2 := hX.row (((Kept.refl wr).alloc (.cells #[.int .i64 R] 3)).row hZ) (by omega)
        have hR2 := hX.row (((Kept.refl wr).alloc (.cells #[.int .i64 R] 3)).row hRr) (by omega)
        have hK2 : Kept w w2 := (hK.alloc _).step hX (fun i hi => Nat.le_trans hwW hi)
        have hs2 : W.heap.size ≤ w2.heap.size := Nat.le_trans (Nat.le_trans hsz ((Kept.refl wr).alloc (.cells #[.int .i64 R] 3)).size) hgr.size
        have hO4 : w2.ownsRow W.heap.size 3 1 v' (k + 1) (ints (snI D k R) (k + 1)) := by rw [ints_sn]; exact hO3
        obtain ⟨va, vc, rfl, _⟩ := own_form hO4
        obtain ⟨y0, y1, y2, y3⟩ := bx_cells hZ2
        have hZ3 := bx_set1 hZ2 (.slice va (k + 1) vc)
        have hR3 := hR2.setOther (a := ⟨z0, 1, none⟩) hrz (.slice va (k + 1) vc)
        have hK3 : Kept w (w2.setCell ⟨z0, 1, none⟩ (.slice va (k + 1) vc)) := hK2.setCell hzw _
        have hO5 := own_keptX hO4 ((KeptX.refl (fun k => k = z0) w2).setIn 1 (.slice va (k + 1) vc)) (fun b h => by omega)
        have hs3 : W.heap.size ≤ (w2.setCell ⟨z0, 1, none⟩ (.slice va (k + 1) vc)).heap.size := by rw [nblk_setCell]; exact hs2
        have HO5 := Lib.hid hO5
        clear hO3 hX hgr hO hO4 hO5 hK hK2 hZ hRr hR2 hsz hs2 y0 x0 x1 x2 x3
        go_wp2_with fail
        generalize (w2.setCell ⟨z0, 1, none⟩ (.slice va (k + 1) vc)) = W3 at *
        go_roundg (5 - (k + 1))
        case measure => omega
        case rel => exact ⟨k + 1, Q, snI D k R, _, by omega, rfl, by go_num, by omega, hK3, hs3, hZ3, hR3, HO5.out, hG2.out, hV2.out, hT2.out⟩
      · skip
        have t2 : Int.tdiv (-q) 10000 = -Q := by rw [Int.neg_tdiv, HQD.out, Int.tdiv_eq_ediv_of_nonneg (by omega)]
        have t1 : Int.tmod (-q) 10000 = -R := by rw [Int.neg_tmod, HRD.out, Int.tmod_eq_emod_of_nonneg (by omega)]
        have t3 : -R < 0 := by omega
        have t4 : IntKind.i64.wrap (- -R) = R := by rw [Int.neg_neg]; exact IntWalk.i64_in _ (by omega)
        have t5 : IntKind.i64.wrap R = R := IntWalk.i64_in _ (by omega)
        clear HRD HQD hR0
        go_wp2_with (first | (at_builtin; refine wpList_append_own _ rfl _ _ 27 rfl W.heap.size 3 i0 (.int .i64 0) 1 8 Tryz.underlying27 hi hz0 hz1 hz2 rfl (by decide) _ _ _ rfl (hO.alloc _) ⟨wr.heap.size, 0, none⟩ 1 1 [.int .i64 R] rfl rfl (news_one _ _ _) ?c2 ?c3 ?c4 ?c5 ?_))
        case c2 => simp [Value.oneCell']
        case c3 => unfold maxLen; omega
        case c4 => omega
        case c5 => first | omega | (simp; omega)
        intro v' w2 hO3 hgr _
        have hX := grew_X hgr (hO.alloc (.cells #[.int .i64 R] 3))
        have hZ2 := hX.row (((Kept.refl wr).alloc (.cells #[.int .i64 R] 3)).row hZ) (by omega)
        have hR2 := hX.row (((Kept.refl wr).alloc (.cells #[.int .i64 R] 3)).row hRr) (by omega)
        have hK2 : Kept w w2 := (hK.alloc _).step hX (fun i hi => Nat.le_trans hwW hi)
        have hs2 : W.heap.size ≤ w2.heap.size := Nat.le_trans (Nat.le_trans hsz ((Kept.refl wr).alloc (.cells #[.int .i64 R] 3)).size) hgr.size
        have hO4 : w2.ownsRow W.heap.size 3 1 v' (k + 1) (ints (snI D k R) (k + 1)) := by rw [ints_sn]; exact hO3
        obtain ⟨va, vc, rfl, _⟩ := own_form hO4
        obtain ⟨y0, y1, y2, y3⟩ := bx_cells hZ2
        have hZ3 := bx_set1 hZ2 (.slice va (k + 1) vc)
        have hR3 := hR2.setOther (a := ⟨z0, 1, none⟩) hrz (.slice va (k + 1) vc)
        have hK3 : Kept w (w2.setCell ⟨z0, 1, none⟩ (.slice va (k + 1) vc)) := hK2.setCell hzw _
        have hO5 := own_keptX hO4 ((KeptX.refl (fun k => k = z0) w2).setIn 1 (.slice va (k + 1) vc)) (fun b h => by omega)
        have hs3 : W.heap.size ≤ (w2.setCell ⟨z0, 1, none⟩ (.slice va (k + 1) vc)).heap.size := by rw [nblk_setCell]; exact hs2
        have HO5 := Lib.hid hO5
        clear hO3 hX hgr hO hO4 hO5 hK hK2 hZ hRr hR2 hsz hs2 y0 x0 x1 x2 x3
        go_wp2_with fail
        generalize (w2.setCell ⟨z0, 1, none⟩ (.slice va (k + 1) vc)) = W3 at *
        go_roundg (5 - (k + 1))
        case measure => omega
        case rel => exact ⟨k + 1, Q, snI D k R, _, by omega, rfl, by go_num, by omega, hK3, hs3, hZ3, hR3, HO5.out, hG2.out, hV2.out, hT2.out⟩
theorem Int_any (w : World) (v : Int) (h1 : -9223372036854775808 ≤ v) (h2 : v ≤ 9223372036854775807) : Calls Tryz.prog 64 #[.int .i64 v] w (ZPost w v) := by
  by_cases h : v < 0
  · have := Int_neg w (-v) (by omega) (by omega)
    rwa [Int.neg_neg] at this
  · exact Int_pos w v (by omega) (by omega)
end Go.Proofs.YtlnlddnjalfamaaGreatDoor.Num
namespace Go.Proofs.YtlnlddnjalfamaaGreatDoor.Num
open Go.RowKit Go.Deep

/-- the row of a product after i digits of the first number -/
structure MulRow (N i l2 : Nat) (O : Nat → Int) (x : Int) : Prop where
  dig : ∀ j, j < N → 0 ≤ O j ∧ O j < 10000
  val : valZ O N = x
  top : ∀ j, i + l2 ≤ j → O j = 0
/-- the row while the digit i of the first number is taken times those of the second, up to k -/
structure MulIn (N i l2 : Nat) (O : Nat → Int) (c x : Int) (k : Nat) : Prop where
  dig : ∀ j, j < N → 0 ≤ O j ∧ O j < 10000
  val : valZ O N + c * 10000 ^ (i + k) = x
  top : ∀ j, i + l2 + 1 ≤ j → O j = 0
  next : k ≤ l2 → O (i + l2) = 0
  end' : k = l2 + 1 → c = 0
theorem MulIn.step {N i l2 k : Nat} {O D2 : Nat → Int} {c t0 x a b s : Int} (h : MulIn N i l2 O c (t0 + a * valZ (extZ D2 l2) k * 10000 ^ i) k) (hk : k < l2) (hN : i + l2 < N) (hb : b = D2 k) (hs : s = O (i + k) + c + a * b) (hx : x = t0 + a * valZ (extZ D2 l2) (k + 1) * 10000 ^ i) :
    MulIn N i l2 (fun j => if j = i + k then s % 10000 else O j) (s / 10000) x (k + 1) where
  dig := fun j hj => by
    by_cases e : j = i + k
    · simp only [e, if_true]; omega
    · simp only [e, if_false]; exact h.dig j hj
  val := by
    have h1 := h.val
    rw [Int.pow_add] at h1
    have h2 := mul_step h1 hs
    rw [valZ_upd (by omega), hx]
    have e1 : (10000 : Int) ^ (i + (k + 1)) = 10000 ^ i * 10000 ^ k * 10000 := by rw [show i + (k + 1) = i + k + 1 by omega, pw_succ, Int.pow_add]
    have e2 : valZ (extZ D2 l2) (k + 1) = valZ (extZ D2 l2) k + b * 10000 ^ k := by
      have : extZ D2 l2 k = b := by unfold extZ; rw [if_pos hk, hb]
      simp only [valZ, this]
    rw [e1, e2, Int.pow_add]
    exact h2
  top := fun j hj => by
    simp only [show ¬ (j = i + k) by omega, if_false]
    exact h.top j hj
  next := fun _ => by
    simp only [show ¬ (i + l2 = i + k) by omega, if_false]
    exact h.next (by omega)
  end' := fun e => by omega
theorem MulIn.last {N i l2 : Nat} {O : Nat → Int} {c x : Int} (h : MulIn N i l2 O c x l2) (hN : i + l2 < N) (hc : 0 ≤ c ∧ c < 10000) :
    MulIn N i l2 (fun j => if j = i + l2 then c else O j) 0 x (l2 + 1) where
  dig := fun j hj => by
    by_cases e : j = i + l2
    · simp only [e, if_true]; exact hc
    · simp only [e, if_false]; exact h.dig j hj
  val := by
    have h1 := h.val
    have h2 := h.next (Nat.le_refl _)
    rw [valZ_upd hN, h2]
    simp
    exact h1
  top := fun j hj => by
    simp only [show ¬ (j = i + l2) by omega, if_false]
    exact h.top j hj
  next := fun e => by omega
  end' := fun _ => rfl
set_option maxRecDepth 100000 in
set_option maxHeartbeats 8000000 in
theorem Mul_any (w : World) (u v : Value) (x y : Int) (hX : ZAt w u x) (hY : ZAt w v y) (hB : Big (x * y)) :
    Calls Tryz.prog 71 #[u, v] w (ZPost w (x * y)) := by
  obtain ⟨m, sv, l, D, rfl, hS, hL, hm, rfl, hl⟩ := hX
  obtain ⟨m2, sv2, l2, D2, rfl, hS2, hL2, hm2, rfl, hl2⟩ := hY
  have HL := Lib.hid hL
  have HL2 := Lib.hid hL2
  obtain ⟨a, cap, rfl, _, _, _, ⟨a', b1, o1, cap', eq1, ha, hc⟩⟩ := hS
  cases eq1
  obtain ⟨a2, cap2, rfl, _, _, _, ⟨a2', b2, o2, cap2', eq2, ha2, hc2⟩⟩ := hS2
  cases eq2
  have HC := Lib.hid hc
  have HC2 := Lib.hid hc2
  have hb1 := valZ_bd hL.1
  have hb2 := valZ_bd hL2.1
  obtain ⟨i0, hi, hz0, hz1, hz2⟩ := info_parts Tryz.info3
  obtain ⟨Z, HZZ⟩ : ∃ Z, Hid (Z = sgnZ m (valZ D l) * sgnZ m2 (valZ D2 l2)) := ⟨_, rfl⟩
  have hsum : Hid (sgnZ (m != m2) (valZ D l * valZ D2 l2) = Z) := by show _ = _; rw [HZZ.out]; cases m <;> cases m2 <;> simp [sgnZ, Int.neg_mul, Int.mul_neg]
  have hbig : Hid (valZ D l * valZ D2 l2 < bigN) := by
    rw [← HZZ.out] at hB
    have := hsum.out
    unfold Big at hB
    show _ < _
    generalize valZ D l * valZ D2 l2 = P at *
    cases m <;> cases m2 <;> simp [sgnZ] at this <;> omega
  rw [← HZZ.out]
  obtain ⟨N, HN⟩ : ∃ N, Hid (N = l + l2 + 1) := ⟨_, rfl⟩
  have eN : (l : Int) + (l2 : Int) + 1 = (N : Int) := by rw [HN.out]; omega
  have hmk := fun W => mkInts (N : Int) N rfl (by rw [HN.out]; omega) W
  clear hL hL2 hc hc2 hb1 hb2 hB hm hm2
  have hA0 := box_row w (.bool m) (.slice a l cap) 53 w.heap.size rfl
  have hA1 := box_row (w.alloc (.cells #[.bool m, .slice a l cap] 53)) (.bool m2) (.slice a2 l2 cap2) 53 (w.heap.size + 1) (by simp)
  have hA2 := box_row ((w.alloc (.cells #[.bool m, .slice a l cap] 53)).alloc (.cells #[.bool m2, .slice a2 l2 cap2] 53)) (.bool false) (.slice none 0 0) 53 (w.heap.size + 1 + 1) (by simp)
  have hB0 := (((Kept.refl _).alloc (.cells #[.bool m2, .slice a2 l2 cap2] 53)).alloc (.cells #[.bool false, .slice none 0 0] 53)).row hA0
  have hB1 := ((Kept.refl _).alloc (.cells #[.bool false, .slice none 0 0] 53)).row hA1
  have hKwW : Kept w (((w.alloc (.cells #[.bool m, .slice a l cap] 53)).alloc (.cells #[.bool m2, .slice a2 l2 cap2] 53)).alloc (.cells #[.bool false, .slice none 0 0] 53)) := (((Kept.refl w).alloc _).alloc _).alloc _
  have hrow := World.rowIs_made (((w.alloc (.cells #[.bool m, .slice a l cap] 53)).alloc (.cells #[.bool m2, .slice a2 l2 cap2] 53)).alloc (.cells #[.bool false, .slice none 0 0] 53)) (.int .i64 0) N 3
  go_enter Tryz.func71, Tryz.ntmps71
  go_wp2_with fail
  have hB0 := (((Kept.refl _).alloc (.cells #[.bool m2, .slice a2 l2 cap2] 53)).alloc (.cells #[.bool false, .slice none 0 0] 53)).row hA0
  have hB1 := ((Kept.refl _).alloc (.cells #[.bool false, .slice none 0 0] 53)).row hA1
  have hkM := (Kept.refl (((w.alloc (.cells #[.bool m, .slice a l cap] 53)).alloc (.cells #[.bool m2, .slice a2 l2 cap2] 53)).alloc (.cells #[.bool false, .slice none 0 0] 53))).alloc (.cells (madeCells #[.int .i64 0] N) 3)
  have hZ0 := hkM.row hB0
  have hY0 := hkM.row hB1
  have hR0 := hkM.row hA2
  have hKW : Kept w ((((w.alloc (.cells #[.bool m, .slice a l cap] 53)).alloc (.cells #[.bool m2, .slice a2 l2 cap2] 53)).alloc (.cells #[.bool false, .slice none 0 0] 53)).alloc (.cells (madeCells #[.int .i64 0] N) 3)) := (((((Kept.refl w).alloc _).alloc _).alloc _).alloc _)
  rw [show ((((w.alloc (.cells #[.bool m, .slice a l cap] 53)).alloc (.cells #[.bool m2, .slice a2 l2 cap2] 53)).alloc (.cells #[.bool false, .slice none 0 0] 53)).heap.size) = w.heap.size + 1 + 1 + 1 by simp] at hrow
  generalize ((((w.alloc (.cells #[.bool m, .slice a l cap] 53)).alloc (.cells #[.bool m2, .slice a2 l2 cap2] 53)).alloc (.cells #[.bool false, .slice none 0 0] 53)).alloc (.cells (madeCells #[.int .i64 0] N) 3)) = W at *
  obtain ⟨o0, HO0⟩ : ∃ o0, Hid (o0 = w.heap.size + 1 + 1 + 1) := ⟨_, rfl⟩
  obtain ⟨r0, HR0⟩ : ∃ r0, Hid (r0 = w.heap.size + 1 + 1) := ⟨_, rfl⟩
  obtain ⟨z1, HZ1⟩ : ∃ z1, Hid (z1 = w.heap.size + 1) := ⟨_, rfl⟩
  obtain ⟨z0, HZ0⟩ : ∃ z0, Hid (z0 = w.heap.size) := ⟨_, rfl⟩
  rw [← HO0.out] at hrow ⊢
  rw [← HR0.out] at hR0 ⊢
  rw [← HZ1.out] at hY0 ⊢
  rw [← HZ0.out] at hZ0 ⊢
  have hrw : w.heap.size ≤ r0 := by rw [HR0.out]; omega
  have how : w.heap.size ≤ o0 := by rw [HO0.out]; omega
  have hn1 : z0 ≠ o0 := by rw [HO0.out, HZ0.out]; omega
  have hn2 : z1 ≠ o0 := by rw [HO0.out, HZ1.out]; omega
  have hn3 : r0 ≠ o0 := by rw [HO0.out, HR0.out]; omega
  have hn4 : z0 ≠ r0 := by rw [HR0.out, HZ0.out]; omega
  have hn5 : z1 ≠ r0 := by rw [HR0.out, HZ1.out]; omega
  have hrow2 := hrow.congr (g := fun j => .int .i64 ((fun _ : Nat => (0 : Int)) j)) (fun j _ => rfl)
  have hM0 : Hid (MulRow N 0 l2 (fun _ => 0) (valZ D 0 * valZ D2 l2)) := ⟨fun j _ => ⟨by omega, by omega⟩, by
    have := valZ_zeros (D := fun _ => 0) (n := 0) N (fun i _ _ => rfl)
    rw [Nat.zero_add] at this
    rw [this]; simp [valZ], fun j _ => rfl⟩
  clear hA0 hA1 hA2 hB0 hB1 hkM hrow hmk HO0 HR0 HZ1 HZ0
  go_loopg [6] l (fun g s6 wr => ∃ (i : Nat) (O : Nat → Int), i ≤ l ∧ g = l - i ∧ s6 = .int .i64 i ∧ Kept w wr ∧ wr.rowIs z0 53 2 (bx (.bool m) (.slice a l cap)) ∧ wr.rowIs z1 53 2 (bx (.bool m2) (.slice a2 l2 cap2)) ∧ wr.rowIs r0 53 2 (bx (.bool false) (.slice none 0 0)) ∧ wr.rowIs o0 3 N (fun j => .int .i64 (O j)) ∧ Hid (MulRow N i l2 O (valZ D i * valZ D2 l2)))
  case atStart => exact ⟨0, fun _ => 0, Nat.zero_le _, rfl, rfl, hKW, hZ0, hY0, hR0, hrow2, hM0.out⟩
  case round =>
    clear hKW hZ0 hY0 hR0 hrow2 hM0
    obtain ⟨i, O, hil, rfl, rfl, hK, hZ, hY, hR, hO, hM⟩ := hrel
    obtain ⟨k0, k1, _, _⟩ := bx_cells hZ
    by_cases hlt : i < l
    · obtain rfl := ha (by omega)
      have s1 : (i : Int) < (l : Int) := by omega
      have hdi := HL.out.1 i hlt
      have hiN : i + l2 < N := by rw [HN.out]; omega
      have hI0 : Hid (MulIn N i l2 O 0 (valZ D i * valZ D2 l2 + D i * valZ (extZ D2 l2) 0 * 10000 ^ i) 0) := ⟨hM.out.dig, by
        have := hM.out.val
        rw [this]; simp [valZ], fun j hj => hM.out.top j (by omega), fun _ => hM.out.top _ (Nat.le_refl _), fun h => by omega⟩
      have hxnext : Hid (valZ D (i + 1) * valZ D2 l2 = valZ D i * valZ D2 l2 + D i * valZ D2 l2 * 10000 ^ i) := by
        show _ = _
        simp only [valZ]
        grind
      obtain ⟨t0, HT0⟩ : ∃ t0, Hid (t0 = valZ D i * valZ D2 l2) := ⟨_, rfl⟩
      rw [← HT0.out] at hI0 hxnext
      clear hM HT0
      obtain ⟨W3, HW3⟩ : ∃ W3 : World, Hid (W3 = wr) := ⟨_, rfl⟩
      rw [← HW3.out] at hK hZ hY hR hO k0 k1 ⊢
      clear HW3
      go_wp2_with fail
      clear k0 k1
      go_loopg [7, 8] (l2 + 1) (fun g s7 s8 wi => ∃ (k : Nat) (c : Int) (O : Nat → Int), k ≤ l2 + 1 ∧ g = l2 + 1 - k ∧ s7 = .int .i64 c ∧ s8 = .int .i64 k ∧ 0 ≤ c ∧ c < 10000 ∧ Kept w wi ∧ wi.rowIs z0 53 2 (bx (.bool m) (.slice (some ⟨b1, o1, none⟩) l cap)) ∧ wi.rowIs z1 53 2 (bx (.bool m2) (.slice a2 l2 cap2)) ∧ wi.rowIs r0 53 2 (bx (.bool false) (.slice none 0 0)) ∧ wi.rowIs o0 3 N (fun j => .int .i64 (O j)) ∧ Hid (MulIn N i l2 O c (t0 + D i * valZ (extZ D2 l2) k * 10000 ^ i) k))
      case atStart => exact ⟨0, 0, O, by omega, rfl, rfl, rfl, by omega, by omega, hK, hZ, hY, hR, hO, hI0.out⟩
      case round =>
        clear hK hZ hY hR hO hI0
        obtain ⟨k, c, O, hk1, rfl, rfl, rfl, c0, c1, hK, hZ, hY, hR, hO, hI⟩ := hrel
        obtain ⟨k0, k1, _, _⟩ := bx_cells hZ
        obtain ⟨l0, l1, _, _⟩ := bx_cells hY
        have s0 : (0 : Int) ≤ (i : Int) := by omega
        have s0' : (0 : Int) ≤ (k : Int) := by omega
        by_cases hk : k < l2
        · obtain rfl := ha2 (by omega)
          obtain ⟨p, hp⟩ : ∃ p, p = i + k := ⟨_, rfl⟩
          have ep : (i : Int) + (k : Int) = (p : Int) := by omega
          have hpN : p < N := by omega
          have x0 := hO.cell hpN
          have x1 := hO.frozen p
          have x2 := hK.cellSome (HC.out i hlt)
          have x3 := hK.cellSome (HC2.out k hk)
          have hop := hI.out.dig p hpN
          have hbk := HL2.out.1 k hk
          have s2 : (k : Int) < (l2 : Int) := by omega
          have s3 : (p : Int) < (N : Int) := by omega
          have s4 : (0 : Int) ≤ (p : Int) := by omega
          have hmd := mul_digit hop ⟨c0, c1⟩ hdi hbk
          have hpi := mul_digit (o := 0) (c := 0) ⟨by omega, by omega⟩ ⟨by omega, by omega⟩ hdi hbk
          have hst := fun x (hx : x = t0 + D i * valZ (extZ D2 l2) (k + 1) * 10000 ^ i) => MulIn.step (s := O p + c + D i * D2 k) hI.out hk hiN rfl (by rw [hp]) hx
          have HST := Lib.hid (hst _ rfl)
          rw [← hp] at HST
          obtain ⟨x, HX⟩ : ∃ x, Hid (x = D i) := ⟨_, rfl⟩
          obtain ⟨y, HY⟩ : ∃ y, Hid (y = D2 k) := ⟨_, rfl⟩
          obtain ⟨o, HOO⟩ : ∃ o, Hid (o = O p) := ⟨_, rfl⟩
          rw [← HX.out, ← HY.out] at hmd hpi HST
          rw [← HOO.out] at hmd HST x0 hop
          rw [← HX.out] at x2
          rw [← HY.out] at x3
          obtain ⟨P, HPP⟩ : ∃ P, Hid (P = x * y) := ⟨_, rfl⟩
          have e3 : IntKind.i64.wrap (x * y) = P := by rw [HPP.out]; exact IntWalk.i64_in _ (by omega)
          rw [← HPP.out] at hmd hpi HST
          have t1 : Int.tmod (o + c + P) 10000 = (o + c + P) % 10000 := Int.tmod_eq_emod_of_nonneg (by omega)
          have t2 : Int.tdiv (o + c + P) 10000 = (o + c + P) / 10000 := Int.tdiv_eq_ediv_of_nonneg (by omega)
          have hQ : 0 ≤ (o + c + P) / 10000 ∧ (o + c + P) / 10000 < 10000 := by omega
          have hR9 : 0 ≤ (o + c + P) % 10000 ∧ (o + c + P) % 10000 < 10000 := by omega
          generalize (o + c + P) % 10000 = Rr at *
          generalize (o + c + P) / 10000 = Qq at *
          have HP := Lib.hid hp
          rw [HX.out] at HST
          obtain ⟨hmd1, hmd2⟩ := hmd
          obtain ⟨hpi1, hpi2⟩ := hpi
          obtain ⟨hop1, hop2⟩ := hop
          clear hI hst hp hbk HOO HY HX
          go_wp2_with fail
          go_quiet (fail)
          go_wp2_with fail
          have hkd : Kept wr (wr.drewN nq) := (Kept.refl wr).drewN nq
          have hZ5 := (hkd.row hZ).setOther (a := ⟨o0, p, none⟩) hn1 (.int .i64 Rr)
          have hY5 := (hkd.row hY).setOther (a := ⟨o0, p, none⟩) hn2 (.int .i64 Rr)
          have hR5 := (hkd.row hR).setOther (a := ⟨o0, p, none⟩) hn3 (.int .i64 Rr)
          have hO5 := ((hkd.row hO).set p (.int .i64 Rr)).congr (g := fun j => .int .i64 ((fun j => if j = p then Rr else O j) j)) (fun j _ => by
            by_cases e : j = p
            · simp [e]
            · simp [e])
          have hK5 : Kept w (((wr.drewN nq)).setCell ⟨o0, p, none⟩ (.int .i64 Rr)) := (hK.trans hkd).setCell how _
          generalize ((wr.drewN nq)).setCell ⟨o0, p, none⟩ (.int .i64 Rr) = W5 at *
          go_roundg (l2 + 1 - (k + 1))
          case measure => omega
          case rel => exact ⟨k + 1, Qq, fun j => if j = p then Rr else O j, by omega, rfl, rfl, by go_num, hQ.1, hQ.2, hK5, hZ5, hY5, hR5, hO5, HST.out⟩
        · by_cases hc0 : c = 0
          · have hfin : Hid (MulRow N (i + 1) l2 O (valZ D (i + 1) * valZ D2 l2)) := by
              have h1 := hI.out
              have h2 := h1.val
              have h3 : valZ (extZ D2 l2) k = valZ D2 l2 := extZ_le (by omega)
              refine ⟨h1.dig, ?_, fun j hj => h1.top j (by omega)⟩
              rw [hc0, Int.zero_mul, Int.add_zero, h3] at h2
              rw [h2, hxnext.out]
            have s2 : ¬ (k : Int) < (l2 : Int) := by omega
            have s3 : ¬ (0 : Int) < c := by omega
            clear hI
            go_wp2_with fail
            go_roundg (l - (i + 1))
            case measure => omega
            case rel => exact ⟨i + 1, O, by omega, rfl, by go_num, hK, hZ, hY, hR, hO, hfin.out⟩
          · have hkl : k = l2 := by
              rcases (show k = l2 ∨ k = l2 + 1 by omega) with e | e
              · exact e
              · exact absurd (hI.out.end' e) hc0
            have hI2 : MulIn N i l2 O c (t0 + D i * valZ (extZ D2 l2) k * 10000 ^ i) l2 := by have h := hI.out; rw [hkl] at h ⊢; exact h
            obtain ⟨p, hp⟩ : ∃ p, p = i + k := ⟨_, rfl⟩
            have hL2 := MulIn.last hI2 hiN ⟨c0, c1⟩
            have h3 : valZ (extZ D2 l2) k = valZ (extZ D2 l2) (k + 1) := by rw [extZ_le (by omega), extZ_le (by omega)]
            rw [h3, show l2 + 1 = k + 1 by omega, show i + l2 = p by omega] at hL2
            have HL3 := Lib.hid hL2
            have ep : (i : Int) + (k : Int) = (p : Int) := by omega
            have hpN : p < N := by omega
            have x0 := hO.cell hpN
            have x1 := hO.frozen p
            have hz0' : O p = 0 := by rw [show p = i + l2 by omega]; exact hI2.next (Nat.le_refl _)
            rw [hz0'] at x0
            have s2 : ¬ (k : Int) < (l2 : Int) := by omega
            have s2' : (0 : Int) < c := by omega
            have s3 : (p : Int) < (N : Int) := by omega
            have s4 : (0 : Int) ≤ (p : Int) := by omega
            have t1 : Int.tmod c 10000 = c := by rw [Int.tmod_eq_emod_of_nonneg (by omega)]; omega
            have t2 : Int.tdiv c 10000 = 0 := by rw [Int.tdiv_eq_ediv_of_nonneg (by omega)]; omega
            have hkb : k + 1 ≤ l2 + 1 := by omega
            clear hI hI2 hL2 h3 hp hz0' hkl
            go_wp2_with fail
            have hkd : Kept wr wr := Kept.refl wr
            have hZ5 := (hkd.row hZ).setOther (a := ⟨o0, p, none⟩) hn1 (.int .i64 c)
            have hY5 := (hkd.row hY).setOther (a := ⟨o0, p, none⟩) hn2 (.int .i64 c)
            have hR5 := (hkd.row hR).setOther (a := ⟨o0, p, none⟩) hn3 (.int .i64 c)
            have hO5 := ((hkd.row hO).set p (.int .i64 c)).congr (g := fun j => .int .i64 ((fun j => if j = p then c else O j) j)) (fun j _ => by
              by_cases e : j = p
              · simp [e]
              · simp [e])
            have hK5 : Kept w ((wr).setCell ⟨o0, p, none⟩ (.int .i64 c)) := (hK.trans hkd).setCell how _
            generalize (wr).setCell ⟨o0, p, none⟩ (.int .i64 c) = W5 at *
            go_roundg (l2 + 1 - (k + 1))
            case measure => omega
            case rel => exact ⟨k + 1, 0, fun j => if j = p then c else O j, by omega, rfl, rfl, by go_num, by omega, by omega, hK5, hZ5, hY5, hR5, hO5, HL3.out⟩
    · obtain rfl : i = l := by omega
      have s1 : ¬ (i : Int) < (i : Int) := by omega
      obtain ⟨l0, l1, _, _⟩ := bx_cells hY
      obtain ⟨j0, j1, j2, j3⟩ := bx_cells hR
      have hSO : SlAt wr (.slice (some ⟨o0, 0, none⟩) N N) N O := ⟨_, N, rfl, Nat.le_refl _, (fun h => by cases h), (by unfold maxLen; rw [HN.out]; omega), CellsAt.of_row hO⟩
      have hdig : DigZ O N := hM.out.dig
      have hval := hM.out.val
      have HSO := Lib.hid hSO
      have HDI := Lib.hid hdig
      have HVA := Lib.hid hval
      clear hM hSO hdig hval
      go_wp2_with fail
      refine (lean_any _ (m != m2) _ N O HSO.out HDI.out (by rw [HN.out]; omega) (by rw [HVA.out]; exact hbig.out)).mono ?_
      rw [HVA.out, hsum.out]
      rintro e w6 ⟨v6, rfl, hz6, hk6⟩
      obtain ⟨mr, ar, nr, cr, rfl⟩ := hz6.shape
      have hR6 := hk6.row hR
      obtain ⟨f0, f1, f2, f3⟩ := bx_cells hR6
      have hRF := bx_set1 (bx_set0 hR6 (.bool mr)) (.slice ar nr cr)
      have hKF : Kept w ((w6.setCell ⟨r0, 0, none⟩ (.bool mr)).setCell ⟨r0, 1, none⟩ (.slice ar nr cr)) := ((hK.trans hk6).setCell hrw _).setCell hrw _
      have hX : KeptX (fun k => k = r0) w6 ((w6.setCell ⟨r0, 0, none⟩ (.bool mr)).setCell ⟨r0, 1, none⟩ (.slice ar nr cr)) := ((KeptX.refl (fun k => k = r0) w6).setIn 0 _).setIn 1 _
      have hz7 := hz6.keptBox hX hR6
      have HZ7 := Lib.hid hz7
      obtain ⟨g0, g1, _, _⟩ := bx_cells hRF
      clear hR6 hRF hX hz6 hz7
      go_wp2_with fail
      generalize ((w6.setCell ⟨r0, 0, none⟩ (.bool mr)).setCell ⟨r0, 1, none⟩ (.slice ar nr cr)) = WF at *
      exact bodyPost_ret (v := .agg #[.bool mr, .slice ar nr cr]) (by simp [results, Tryz.results71, go_sem, g0, g1]) rfl ⟨_, rfl, HZ7.out, hKF⟩
/-- v is the fraction n / d, as it is written -/
def QAt (w : World) (v : Value) (n d : Int) : Prop := ∃ (m : Bool) (s : Value) (m2 : Bool) (s2 : Value), v = .agg #[.bool m, s, .bool m2, s2] ∧ ZAt w (.agg #[.bool m, s]) n ∧ ZAt w (.agg #[.bool m2, s2]) d
theorem QAt.kept {w w' : World} {v : Value} {n d : Int} (h : QAt w v n d) (k : Kept w w') : QAt w' v n d := by
  obtain ⟨m, s, m2, s2, h1, h2, h3⟩ := h
  exact ⟨m, s, m2, s2, h1, h2.kept k, h3.kept k⟩
theorem QAt.shape {w : World} {v : Value} {n d : Int} (h : QAt w v n d) : ∃ m a l c m2 a2 l2 c2, v = .agg #[.bool m, .slice a l c, .bool m2, .slice a2 l2 c2] ∧ ZAt w (.agg #[.bool m, .slice a l c]) n ∧ ZAt w (.agg #[.bool m2, .slice a2 l2 c2]) d := by
  obtain ⟨m, s, m2, s2, h1, h2, h3⟩ := h
  obtain ⟨p, a, l, c, e⟩ := h2.shape
  obtain ⟨p2, a2, l2, c2, e2⟩ := h3.shape
  injection e with e
  injection e2 with e2
  injection e with e
  injection e2 with e2
  injection e with e4 e5
  injection e5 with e5 _
  injection e2 with e6 e7
  injection e7 with e7 _
  subst e5
  subst e7
  exact ⟨m, a, l, c, m2, a2, l2, c2, h1, h2, h3⟩
def QPost (w : World) (n d : Int) (e : Ending) (w' : World) : Prop := ∃ v, e = .returned v ∧ QAt w' v n d ∧ Kept w w'
def bx4 (x y z u : Value) : Nat → Value := fun i => if i = 0 then x else if i = 1 then y else if i = 2 then z else u
theorem box_row4 (w : World) (x y z u : Value) (t : TypeId) (s : Nat) (hs : w.heap.size = s) : (w.alloc (.cells #[x, y, z, u] t)).rowIs s t 4 (bx4 x y z u) := by
  subst hs
  exact World.rowIs_alloc w #[x, y, z, u] t (bx4 x y z u) (fun j hj => by
    have : j = 0 ∨ j = 1 ∨ j = 2 ∨ j = 3 := by simp at hj; omega
    rcases this with rfl | rfl | rfl | rfl <;> rfl)
theorem bx4_set {w : World} {b : Nat} {t : TypeId} {x y z u : Value} (h : w.rowIs b t 4 (bx4 x y z u)) (x2 y2 z2 u2 : Value) : ((((w.setCell ⟨b, 0, none⟩ x2).setCell ⟨b, 1, none⟩ y2).setCell ⟨b, 2, none⟩ z2).setCell ⟨b, 3, none⟩ u2).rowIs b t 4 (bx4 x2 y2 z2 u2) :=
  ((((h.set 0 x2).set 1 y2).set 2 z2).set 3 u2).congr (fun j hj => by
    have : j = 0 ∨ j = 1 ∨ j = 2 ∨ j = 3 := by omega
    rcases this with rfl | rfl | rfl | rfl <;> simp [bx4])
theorem bx4_cells {w : World} {b : Nat} {t : TypeId} {x y z u : Value} (h : w.rowIs b t 4 (bx4 x y z u)) : w.cell? ⟨b, 0, none⟩ = some x ∧ w.cell? ⟨b, 1, none⟩ = some y ∧ w.cell? ⟨b, 2, none⟩ = some z ∧ w.cell? ⟨b, 3, none⟩ = some u ∧ w.frozen? ⟨b, 0, none⟩ = false ∧ w.frozen? ⟨b, 1, none⟩ = false ∧ w.frozen? ⟨b, 2, none⟩ = false ∧ w.frozen? ⟨b, 3, none⟩ = false :=
  ⟨h.cell (i := 0) (by omega), h.cell (i := 1) (by omega), h.cell (i := 2) (by omega), h.cell (i := 3) (by omega), h.frozen 0, h.frozen 1, h.frozen 2, h.frozen 3⟩
theorem bx4_noint (m : Bool) (a : Option Addr) (l c : Nat) (m2 : Bool) (a2 : Option Addr) (l2 c2 : Nat) : ∀ i, i < 4 → ∀ (k : IntKind) (x : Int), bx4 (.bool m) (.slice a l c) (.bool m2) (.slice a2 l2 c2) i ≠ .int k x := fun i hi k x h => by
  have : i = 0 ∨ i = 1 ∨ i = 2 ∨ i = 3 := by omega
  rcases this with rfl | rfl | rfl | rfl <;> (unfold bx4 at h; simp at h)
/-- no digit lies in a box -/
theorem ZAt.keptBoxN {w w' : World} {v : Value} {z : Int} {r N : Nat} {t : TypeId} {f : Nat → Value} (h : ZAt w v z) (k : KeptX (fun k => k = r) w w') (hr : w.rowIs r t N f) (hf : ∀ i, i < N → ∀ (k : IntKind) (x : Int), f i ≠ .int k x) : ZAt w' v z := by
  obtain ⟨m, s, n, D, h1, ⟨a, cap, e, h2, h3, h4, ⟨a2, g, o, cap2, e2, ha, hc⟩⟩, h5⟩ := h
  refine ⟨m, s, n, D, h1, ⟨a, cap, e, h2, h3, h4, ⟨a2, g, o, cap2, e2, ha, fun i hi => ?_⟩⟩, h5⟩
  have h6 := hc i hi
  refine KeptX.cellSome k h6 (fun hg => ?_)
  simp only at hg
  subst hg
  by_cases h7 : o + i < N
  · rw [hr.cell h7] at h6
    exact hf _ h7 _ _ (Option.some.inj h6)
  · obtain ⟨c, c1, c2, _⟩ := hr
    unfold World.cell? at h6
    simp only [c1] at h6
    rw [Array.getElem?_eq_none (by omega)] at h6
    cases h6
end Go.Proofs.YtlnlddnjalfamaaGreatDoor.Num
namespace Go.Proofs.YtlnlddnjalfamaaGreatDoor.Num
open Go.RowKit Go.Deep

/-- the value of the top t of l digits -/
def hiV (D : Nat → Int) (l : Nat) : Nat → Int
  | 0 => 0
  | t + 1 => hiV D l t * 10000 + D (l - 1 - t)
theorem hiV_split {D : Nat → Int} {l : Nat} (t : Nat) (ht : t ≤ l) : valZ D l = hiV D l t * 10000 ^ (l - t) + valZ D (l - t) := by
  induction t with
  | zero => simp [hiV]
  | succ t ih =>
    have h1 := ih (by omega)
    obtain ⟨k, hk⟩ : ∃ k, l - t = k + 1 := ⟨l - t - 1, by omega⟩
    rw [hk] at h1
    have e1 : l - (t + 1) = k := by omega
    have e2 : l - 1 - t = k := by omega
    rw [e1]
    simp only [hiV, valZ, e2, pw_succ] at h1 ⊢
    rw [h1]
    grind
theorem hiV_all {D : Nat → Int} {l : Nat} : hiV D l l = valZ D l := by
  have := hiV_split (D := D) (l := l) l (Nat.le_refl _)
  rw [Nat.sub_self] at this
  simp [valZ] at this
  exact this.symm
theorem hiV_congr {D E : Nat → Int} {l : Nat} (t : Nat) (ht : t ≤ l) (h : ∀ i, l - t ≤ i → i < l → D i = E i) : hiV D l t = hiV E l t := by
  induction t with
  | zero => rfl
  | succ t ih =>
    simp only [hiV]
    rw [ih (by omega) (fun i a b => h i (by omega) b), h (l - 1 - t) (by omega) (by omega)]
/-- a digit in front -/
def consZ (x : Int) (R : Nat → Int) : Nat → Int := fun j => if j = 0 then x else R (j - 1)
theorem valZ_cons (x : Int) (R : Nat → Int) (n : Nat) : valZ (consZ x R) (n + 1) = x + 10000 * valZ R n := by
  induction n with
  | zero => simp [valZ, consZ]
  | succ n ih =>
    have e : valZ (consZ x R) (n + 1 + 1) = valZ (consZ x R) (n + 1) + consZ x R (n + 1) * 10000 ^ (n + 1) := rfl
    have e2 : consZ x R (n + 1) = R n := by simp [consZ]
    have e3 : valZ R (n + 1) = valZ R n + R n * 10000 ^ n := rfl
    rw [e, ih, e2, e3, pw_succ]
    grind
theorem dig_cons {x : Int} {R : Nat → Int} {n : Nat} (hx : 0 ≤ x ∧ x < 10000) (hR : DigZ R n) : DigZ (consZ x R) (n + 1) := fun i hi => by
  unfold consZ
  by_cases e : i = 0
  · rw [if_pos e]; exact hx
  · rw [if_neg e]; exact hR (i - 1) (by omega)
/-- a digit more of the quotient -/
theorem div_step {A Qh y r x q r' : Int} (h : Qh * y + r = A) (hr : q * y + r' = x + 10000 * r) : (Qh * 10000 + q) * y + r' = A * 10000 + x := by
  grind
theorem zfield (m : Bool) (a : Option Addr) (l c : Nat) (w : World) : (Instr.field 53 (.agg #[.bool m, .slice a l c]) 1).run Tryz.prog w = .ok (.slice a l c) w := by
  first | kernel_rfl | rfl | (go_simp; done)
def SlPost (w : World) (x : Int) (e : Ending) (w' : World) : Prop := ∃ v n O, e = .returned v ∧ SlAt w' v n O ∧ LeanZ O n ∧ valZ O n = x ∧ n ≤ 1000 ∧ Kept w w'
theorem ZAt.of_sl {w : World} {s : Value} {n : Nat} {D : Nat → Int} (h : SlAt w s n D) (hL : LeanZ D n) (hn : n ≤ 1000) : ZAt w (.agg #[.bool false, s]) (valZ D n) :=
  ⟨false, s, n, D, rfl, h, hL, (fun h => by cases h), rfl, hn⟩
theorem ZAt.pos {w : World} {m : Bool} {s : Value} {z : Int} (h : ZAt w (.agg #[.bool m, s]) z) (hz : 0 ≤ z) : m = false ∧ ∃ n O, SlAt w s n O ∧ LeanZ O n ∧ valZ O n = z ∧ n ≤ 1000 := by
  obtain ⟨m', s', n, D, e, hS, hL, hm, hv, hn⟩ := h
  injection e with e
  injection e with e
  injection e with e1 e2
  injection e1 with e1
  injection e2 with e2 _
  subst e1
  subst e2
  have hb := valZ_bd hL.1
  cases m
  · exact ⟨rfl, n, D, hS, hL, hv.symm, hn⟩
  · exfalso
    have h1 := hm rfl
    have h2 := lean_zero hL
    have h3 : valZ D n ≠ 0 := fun h => by have := h2.1 h; omega
    have h4 : z = - valZ D n := hv
    omega
theorem sl_pad {w : World} {s : Value} {n : Nat} {D : Nat → Int} (h : SlAt w s n D) : ∃ a c, s = .slice a n c := by
  obtain ⟨a, c, e, _⟩ := h
  exact ⟨a, c, e⟩
set_option maxRecDepth 100000 in
set_option maxHeartbeats 4000000 in
theorem times_any (w : World) (s : Value) (n : Nat) (D : Nat → Int) (d : Int) (hS : SlAt w s n D) (hL : LeanZ D n) (hn : n ≤ 1000) (hd : 0 ≤ d ∧ d ≤ 10000) (hB : valZ D n * 10000 < bigN) :
    Calls Tryz.prog 112 #[s, .int .i64 d] w (SlPost w (valZ D n * d)) := by
  have hb := valZ_bd hL.1
  have hp : 0 ≤ valZ D n * d := Int.mul_nonneg hb.1 hd.1
  have hq : valZ D n * d ≤ valZ D n * 10000 := Int.mul_le_mul_of_nonneg_left hd.2 hb.1
  have hbig : Big (valZ D n * d) := ⟨by omega, by omega⟩
  have HZ := Lib.hid (ZAt.of_sl hS hL hn)
  obtain ⟨a, c, rfl⟩ := sl_pad hS
  obtain ⟨P, HP⟩ : ∃ P, Hid (P = valZ D n * d) := ⟨_, rfl⟩
  have HB := Lib.hid hbig
  have HPP : Hid (0 ≤ P ∧ P < bigN) := by show _ ∧ _; rw [HP.out]; exact ⟨hp, by omega⟩
  rw [← HP.out]
  obtain ⟨d0, d1⟩ := hd
  clear hS hL hb hp hq hbig hB
  go_enter Tryz.func112, Tryz.ntmps112
  go_wp2_with fail
  refine (Int_any _ d (by omega) (by omega)).mono ?_
  rintro e w1 ⟨v1, rfl, hz1, hk1⟩
  obtain ⟨m1, a1, l1, c1, rfl⟩ := hz1.shape
  have HZ1 := Lib.hid hz1
  clear hz1
  go_wp2_with fail
  refine (Mul_any _ _ _ (valZ D n) d (HZ.out.kept hk1) HZ1.out HB.out).mono ?_
  rw [← HP.out]
  rintro e w2 ⟨v2, rfl, hz2, hk2⟩
  obtain ⟨m2, a2, l2, c2, rfl⟩ := hz2.shape
  obtain ⟨rfl, n2, O2, hS2, hL2, hv2, hn2⟩ := hz2.pos HPP.out.1
  obtain ⟨a2', c2', e2⟩ := sl_pad hS2
  injection e2 with e3 e4 e5
  subst e4
  have HS2 := Lib.hid hS2
  have HL2 := Lib.hid hL2
  have HV2 := Lib.hid hv2
  clear hS2 hL2 hv2 hz2 e3 e5
  go_wp2_with fail
  refine (lean_any _ false _ l2 O2 HS2.out HL2.out.1 (by omega) (by rw [HV2.out]; exact HPP.out.2)).mono ?_
  rw [HV2.out]
  rintro e w3 ⟨v3, rfl, hz3, hk3⟩
  obtain ⟨m3, a3, l3, c3, rfl⟩ := hz3.shape
  obtain ⟨rfl, n3, O3, hS3, hL3, hv3, hn3⟩ := hz3.pos HPP.out.1
  obtain ⟨a3', c3', e6⟩ := sl_pad hS3
  injection e6 with e7 e8 e9
  subst e8
  have hK := (hk1.trans hk2).trans hk3
  have HF := Lib.hid (And.intro hS3 (And.intro hL3 (And.intro hv3 hn3)))
  have hfl := zfield false a3 l3 c3 w3
  clear hS3 hL3 hv3 hz3 e7 e9 hn3
  go_wp2_with fail
  go_ret
  exact ⟨_, _, O3, rfl, HF.out.1, HF.out.2.1, HF.out.2.2.1, HF.out.2.2.2, hK⟩
theorem cmpI_le {x y : Int} (h : x ≤ y) : cmpI x y ≤ 0 := by
  unfold cmpI
  by_cases e : x < y
  · rw [if_pos e]; omega
  · rw [if_neg e, if_neg (by omega)]; omega
theorem pos_of {m : Bool} {n : Nat} {D : Nat → Int} {z : Int} (hL : LeanZ D n) (hm : m = true → 0 < n) (hv : z = sgnZ m (valZ D n)) (hz : 0 ≤ z) : m = false ∧ valZ D n = z := by
  have hb := valZ_bd hL.1
  cases m
  · exact ⟨rfl, hv.symm⟩
  · exfalso
    have h1 := hm rfl
    have h2 := lean_zero hL
    have h3 : valZ D n ≠ 0 := fun h => by have := h2.1 h; omega
    have h4 : z = - valZ D n := hv
    omega
theorem ints_cons (x : Int) (R : Nat → Int) (n : Nat) : ints (consZ x R) (n + 1) = ints (fun _ => x) 1 ++ ints R n := by
  unfold ints
  rw [List.range_succ_eq_map]
  simp [consZ, Function.comp_def]
theorem ints_lit (w : World) (base s : Nat) (x : Int) (hs : w.heap.size = s) (hb : base ≤ s) : (w.alloc (.cells #[.int .i64 x] 3)).ownsRow base 3 1 (.slice (some ⟨s, 0, none⟩) 1 1) 1 (ints (fun _ => x) 1) := by
  subst hs
  exact own_base (World.ownsRow_lit _ #[.int .i64 x] 1 (Nat.le_refl _) (by decide) rfl) hb
/-- what is left lies in memory above the row o -/
def RestAt2 (o : Nat) (w : World) (v : Value) (n : Nat) (R : Nat → Int) : Prop := ∃ base, o < base ∧ w.ownsRow base 3 1 v n (ints R n) ∧ LeanZ R n ∧ n ≤ 1000
/-- after t digits -/
structure DivIn (l t : Nat) (y : Int) (D Q : Nat → Int) (r : Int) : Prop where
  dig : ∀ j, j < l → 0 ≤ Q j ∧ Q j < 10000
  val : hiV Q l t * y + r = hiV D l t
  rest : 0 ≤ r ∧ r < y
theorem DivIn.step {l t : Nat} {y r r' lo : Int} {D Q : Nat → Int} (h : DivIn l t y D Q r) (ht : t < l) (_ht2 : t + 1 ≤ l) (hlo : 0 ≤ lo ∧ lo < 10000) (hr : 0 ≤ r' ∧ r' < y) (he : lo * y + r' = D (l - 1 - t) + 10000 * r) : DivIn l (t + 1) y D (fun j => if j = l - 1 - t then lo else Q j) r' where
  dig := fun j hj => by
    by_cases e : j = l - 1 - t
    · simp only [e, if_true]; exact hlo
    · simp only [e, if_false]; exact h.dig j hj
  val := by
    have h1 := h.val
    have e1 : hiV (fun j => if j = l - 1 - t then lo else Q j) l t = hiV Q l t := hiV_congr t (by omega) (fun i a b => if_neg (by omega))
    simp only [hiV, if_true]
    rw [e1]
    exact div_step h1 he
  rest := hr
def DivPost (w : World) (q r : Int) (e : Ending) (w' : World) : Prop := ∃ u v, e = .returned (.tuple #[u, v]) ∧ ZAt w' u q ∧ ZAt w' v r ∧ Kept w w'
def DivPostT (w : World) (q r : Int) (e : Ending) (w' : World) : Prop := ∃ u v, e = .returned (.tuple #[u, v]) ∧ ZAt w' u q ∧ ZAt w' v r ∧ ZTy w' u ∧ ZTy w' v ∧ Kept w w'
set_option maxRecDepth 100000 in
set_option maxHeartbeats 16000000 in
theorem DivMod_ty (w : World) (u v : Value) (x y : Int) (hX : ZAt w u x) (hY : ZAt w v y) (hx0 : 0 ≤ x) (hy0 : 0 < y) (hB : y * 10000 < bigN) (hxB : x < bigN) :
    Calls Tryz.prog 91 #[u, v] w (DivPostT w (x / y) (x % y)) := by
  obtain ⟨i0, hi, hz0, hz1, hz2⟩ := info_parts Tryz.info3
  obtain ⟨m, a, l, cap, rfl⟩ := hX.shape
  obtain ⟨m2, a2, l2, cap2, rfl⟩ := hY.shape
  obtain ⟨rfl, l', D, hS, hL, hvx, hl⟩ := hX.pos hx0
  obtain ⟨rfl, l2', D2, hS2, hL2, hvy, hl2⟩ := hY.pos (by omega)
  obtain ⟨_, _, e1⟩ := sl_pad hS
  obtain ⟨_, _, e2⟩ := sl_pad hS2
  injection e1 with q1 q2 q3
  injection e2 with q4 q5 q6
  subst q2
  subst q5
  clear q1 q3 q4 q6
  have HS := Lib.hid hS
  have HL := Lib.hid hL
  have HS2 := Lib.hid hS2
  have HL2 := Lib.hid hL2
  have HVX := Lib.hid hvx
  have HY2 := Lib.hid hvy
  have HBY : Hid (valZ D2 l2 * 10000 < bigN) := by show _ < _; rw [hvy]; exact hB
  have HBY2 := Lib.hid hB
  have HXB := Lib.hid hxB
  obtain ⟨_, _, e3, _, hnil, _, ⟨a', b1, o1, cap', e4, ha, hc⟩⟩ := hS
  cases e3
  cases e4
  have HC := Lib.hid hc
  clear hL hS2 hL2 hvx hvy hX hY hB hxB hc
  have hmk := fun W => mkInts (l : Int) l rfl (by omega) W
  have hA0 := box_row w (.bool false) (.slice a l cap) 53 w.heap.size rfl
  have hA1 := box_row (w.alloc (.cells #[.bool false, .slice a l cap] 53)) (.bool false) (.slice a2 l2 cap2) 53 (w.heap.size + 1) (by simp)
  have hA2 := box_row ((w.alloc (.cells #[.bool false, .slice a l cap] 53)).alloc (.cells #[.bool false, .slice a2 l2 cap2] 53)) (.bool false) (.slice none 0 0) 53 (w.heap.size + 1 + 1) (by simp)
  have hA3 := box_row (((w.alloc (.cells #[.bool false, .slice a l cap] 53)).alloc (.cells #[.bool false, .slice a2 l2 cap2] 53)).alloc (.cells #[.bool false, .slice none 0 0] 53)) (.bool false) (.slice none 0 0) 53 (w.heap.size + 1 + 1 + 1) (by simp)
  have hA4 := World.rowIs_made ((((w.alloc (.cells #[.bool false, .slice a l cap] 53)).alloc (.cells #[.bool false, .slice a2 l2 cap2] 53)).alloc (.cells #[.bool false, .slice none 0 0] 53)).alloc (.cells #[.bool false, .slice none 0 0] 53)) (.int .i64 0) l 3
  rw [show ((((w.alloc (.cells #[.bool false, .slice a l cap] 53)).alloc (.cells #[.bool false, .slice a2 l2 cap2] 53)).alloc (.cells #[.bool false, .slice none 0 0] 53)).alloc (.cells #[.bool false, .slice none 0 0] 53)).heap.size = w.heap.size + 1 + 1 + 1 + 1 by simp] at hA4
  have hA5 := own_zeroT (((((w.alloc (.cells #[.bool false, .slice a l cap] 53)).alloc (.cells #[.bool false, .slice a2 l2 cap2] 53)).alloc (.cells #[.bool false, .slice none 0 0] 53)).alloc (.cells #[.bool false, .slice none 0 0] 53)).alloc (.cells (madeCells #[.int .i64 0] l) 3)) (((((w.alloc (.cells #[.bool false, .slice a l cap] 53)).alloc (.cells #[.bool false, .slice a2 l2 cap2] 53)).alloc (.cells #[.bool false, .slice none 0 0] 53)).alloc (.cells #[.bool false, .slice none 0 0] 53)).alloc (.cells (madeCells #[.int .i64 0] l) 3)).heap.size 3 1 (Nat.le_refl _)
  rw [show (((((w.alloc (.cells #[.bool false, .slice a l cap] 53)).alloc (.cells #[.bool false, .slice a2 l2 cap2] 53)).alloc (.cells #[.bool false, .slice none 0 0] 53)).alloc (.cells #[.bool false, .slice none 0 0] 53)).alloc (.cells (madeCells #[.int .i64 0] l) 3)).heap.size = w.heap.size + 1 + 1 + 1 + 1 + 1 by simp] at hA5
  have k5 := (Kept.refl (((((w.alloc (.cells #[.bool false, .slice a l cap] 53)).alloc (.cells #[.bool false, .slice a2 l2 cap2] 53)).alloc (.cells #[.bool false, .slice none 0 0] 53)).alloc (.cells #[.bool false, .slice none 0 0] 53)).alloc (.cells (madeCells #[.int .i64 0] l) 3))).alloc (.cells #[] 3)
  have k4 := ((Kept.refl ((((w.alloc (.cells #[.bool false, .slice a l cap] 53)).alloc (.cells #[.bool false, .slice a2 l2 cap2] 53)).alloc (.cells #[.bool false, .slice none 0 0] 53)).alloc (.cells #[.bool false, .slice none 0 0] 53))).alloc (.cells (madeCells #[.int .i64 0] l) 3)).trans k5
  have k3 := ((Kept.refl (((w.alloc (.cells #[.bool false, .slice a l cap] 53)).alloc (.cells #[.bool false, .slice a2 l2 cap2] 53)).alloc (.cells #[.bool false, .slice none 0 0] 53))).alloc (.cells #[.bool false, .slice none 0 0] 53)).trans k4
  have k2 := ((Kept.refl ((w.alloc (.cells #[.bool false, .slice a l cap] 53)).alloc (.cells #[.bool false, .slice a2 l2 cap2] 53))).alloc (.cells #[.bool false, .slice none 0 0] 53)).trans k3
  have k1 := ((Kept.refl (w.alloc (.cells #[.bool false, .slice a l cap] 53))).alloc (.cells #[.bool false, .slice a2 l2 cap2] 53)).trans k2
  have hK0 := ((Kept.refl w).alloc (.cells #[.bool false, .slice a l cap] 53)).trans k1
  have hZ0 := k1.row hA0
  have hY0 := k2.row hA1
  have hR00 := k3.row hA2
  have hR10 := k4.row hA3
  have hQ0 := (k5.row hA4).congr (g := fun j => .int .i64 ((fun _ : Nat => (0 : Int)) j)) (fun j _ => rfl)
  go_enter Tryz.func91, Tryz.ntmps91
  go_wp2_with fail
  generalize ((((((w.alloc (.cells #[.bool false, .slice a l cap] 53)).alloc (.cells #[.bool false, .slice a2 l2 cap2] 53)).alloc (.cells #[.bool false, .slice none 0 0] 53)).alloc (.cells #[.bool false, .slice none 0 0] 53)).alloc (.cells (madeCells #[.int .i64 0] l) 3)).alloc (.cells #[] 3)) = W at *
  obtain ⟨b0, HB0⟩ : ∃ o0, Hid (o0 = w.heap.size + 1 + 1 + 1 + 1 + 1) := ⟨_, rfl⟩
  obtain ⟨o0, HO0⟩ : ∃ o0, Hid (o0 = w.heap.size + 1 + 1 + 1 + 1) := ⟨_, rfl⟩
  obtain ⟨r1, HR1⟩ : ∃ o0, Hid (o0 = w.heap.size + 1 + 1 + 1) := ⟨_, rfl⟩
  obtain ⟨r0, HR0⟩ : ∃ o0, Hid (o0 = w.heap.size + 1 + 1) := ⟨_, rfl⟩
  obtain ⟨z1, HZ1⟩ : ∃ o0, Hid (o0 = w.heap.size + 1) := ⟨_, rfl⟩
  obtain ⟨z0, HZ0⟩ : ∃ o0, Hid (o0 = w.heap.size) := ⟨_, rfl⟩
  rw [← HB0.out] at hA5 ⊢
  rw [← HO0.out] at hQ0 ⊢
  rw [← HR1.out] at hR10 ⊢
  rw [← HR0.out] at hR00 ⊢
  rw [← HZ1.out] at hY0 ⊢
  rw [← HZ0.out] at hZ0 ⊢
  have how : w.heap.size ≤ o0 := by rw [HO0.out]; omega
  have hrw : w.heap.size ≤ r0 := by rw [HR0.out]; omega
  have hrw1 : w.heap.size ≤ r1 := by rw [HR1.out]; omega
  have hzo : z0 ≠ o0 := by rw [HO0.out, HZ0.out]; omega
  have hyo : z1 ≠ o0 := by rw [HO0.out, HZ1.out]; omega
  have hro : r0 ≠ o0 := by rw [HO0.out, HR0.out]; omega
  have hro1 : r1 ≠ o0 := by rw [HO0.out, HR1.out]; omega
  have hrr : r0 ≠ r1 := by rw [HR1.out, HR0.out]; omega
  have hR20 : Hid (RestAt2 o0 W (.slice (some ⟨b0, 0, none⟩) 0 0) 0 (fun _ => 0)) := ⟨b0, by rw [HB0.out, HO0.out]; omega, hA5, ⟨fun i h => by omega, fun h => by omega⟩, by omega⟩
  have hDI0 : Hid (DivIn l 0 y D (fun _ => 0) (valZ (fun _ => 0) 0)) := ⟨fun j _ => ⟨by omega, by omega⟩, by simp [hiV, valZ], by simp [valZ]; exact hy0⟩
  clear hA0 hA1 hA2 hA3 hA4 hA5 hmk k1 k2 k3 k4 k5 HB0 HO0 HR1 HR0 HZ1 HZ0
  go_loopg [7, 8] l (fun g s7 s8 wr => ∃ (t n : Nat) (R Q : Nat → Int), t ≤ l ∧ g = l - t ∧ s8 = .int .i64 ((l : Int) - 1 - t) ∧ Kept w wr ∧ wr.rowIs z0 53 2 (bx (.bool false) (.slice a l cap)) ∧ wr.rowIs z1 53 2 (bx (.bool false) (.slice a2 l2 cap2)) ∧ wr.rowIs r0 53 2 (bx (.bool false) (.slice none 0 0)) ∧ wr.rowIs r1 53 2 (bx (.bool false) (.slice none 0 0)) ∧ wr.rowIs o0 3 l (fun j => .int .i64 (Q j)) ∧ Hid (RestAt2 o0 wr s7 n R) ∧ Hid (DivIn l t y D Q (valZ R n)))
  case atStart => exact ⟨0, 0, fun _ => 0, fun _ => 0, Nat.zero_le _, rfl, by go_num, hK0, hZ0, hY0, hR00, hR10, hQ0, hR20.out, hDI0.out⟩
  case round =>
    clear hK0 hZ0 hY0 hR00 hR10 hQ0 hR20 hDI0
    obtain ⟨t, n, R, Q, ht, rfl, rfl, hK, hZ, hY, hR0, hR1, hQr, hRest, hDI⟩ := hrel
    obtain ⟨base, hbase, hRO, hRL, hn1000⟩ := hRest.out
    clear hRest
    obtain ⟨ra0, rcap, rfl, hrcap, hrnil, _, hrg⟩ := own_form hRO
    by_cases hlt : t < l
    · obtain ⟨c, hcc⟩ : ∃ c, c = l - 1 - t := ⟨_, rfl⟩
      have ec : (l : Int) - 1 - (t : Int) = (c : Int) := by omega
      obtain rfl := ha (by omega)
      have t1 := hK.cellSome (HC.out c (by omega))
      have hdc := HL.out.1 c (by omega)
      obtain ⟨x', HXD⟩ : ∃ x', Hid (x' = D c) := ⟨_, rfl⟩
      rw [← HXD.out] at t1 hdc
      have HXDD : Hid (D (l - 1 - t) = x') := by show _ = _; rw [← hcc, HXD.out]
      have hRC : Hid (∀ j, j < n → ∀ ad, ra0 = some ad → wr.cell? (ad.add j) = some (.int .i64 (R j))) := fun j hj ad e => by
        obtain ⟨g, e2, _⟩ := hrg (by omega)
        subst e2
        cases e
        rw [add_at, Nat.zero_add]
        exact ints_cell hRO hj
      obtain ⟨XR, HXR'⟩ : ∃ XR, Hid (XR = x' + 10000 * valZ R n) := ⟨_, rfl⟩
      have hrb := hDI.out.rest
      have HXR0 : Hid (0 ≤ XR) := by show _ ≤ _; rw [HXR'.out]; omega
      have HXR : Hid (XR < 10000 * y) := by show _ < _; rw [HXR'.out]; omega
      have HVC : Hid (valZ (consZ x' R) (n + 1) = XR) := by show _ = _; rw [valZ_cons, HXR'.out]
      have HDC : Hid (DigZ (consZ x' R) (n + 1)) := dig_cons hdc hRL.1
      have HBC : Hid (XR < bigN) := by show _ < _; have := HXR.out; have := HBY2.out; omega
      have HCC := Lib.hid hcc
      have HXRR := HXR'
      have s1 : (c : Int) < (l : Int) := by omega
      have s2 : (0 : Int) ≤ (c : Int) := by omega
      obtain ⟨z00, z01, _, _⟩ := bx_cells hZ
      have hL1 := ints_lit wr wr.heap.size wr.heap.size x' rfl (Nat.le_refl _)
      have hkl := (Kept.refl wr).alloc (.cells #[.int .i64 x'] 3)
      rw [ec]
      clear hcc ec hrb hrg hRO hRL hdc
      cases ra0 with
      | none =>
        obtain rfl := hrnil rfl
        obtain rfl : n = 0 := by omega
        go_wp2_with (first | (at_builtin; refine wpList_append_own_none rfl _ _ 27 rfl wr.heap.size 3 i0 1 Tryz.underlying27 hi _ _ _ rfl hL1 rfl ?_; generalize wr.alloc (.cells #[.int .i64 x'] 3) = w2 at *))
        have hk2 := hkl
        have hS4 : SlAt w2 (.slice (some ⟨wr.heap.size, 0, none⟩) 1 1) (0 + 1) (consZ x' R) := by
          have := SlAt.of_own hL1
          obtain ⟨q1, q2, q3, q4, q5, q6, q7⟩ := this
          exact ⟨q1, q2, q3, q4, q5, q6, q7.congr (fun i hi => by
            obtain rfl : i = 0 := (by omega)
            rfl)⟩
        clear hL1
        refine (lean_full _ false _ (0 + 1) (consZ x' R) hS4 HDC.out (by omega) (by rw [HVC.out]; exact HBC.out)).mono ?_
        rw [HVC.out]
        rintro e w3 ⟨mr, sr, n3, R3, rfl, hO3, hL3, hm3, hv3, hn3, hk3⟩
        obtain ⟨hmf, hv3n⟩ := pos_of (z := XR) hL3 hm3 hv3 HXR0.out
        clear hv3 hm3
        subst hmf
        obtain ⟨ra, rc, rfl, _⟩ := own_form hO3
        have hfl := zfield false ra n3 rc w3
        have hKw3 := hk2.trans hk3
        have hZ3 := hKw3.row hZ
        have hY3 := hKw3.row hY
        have hR03 := hKw3.row hR0
        have hR13 := hKw3.row hR1
        have hQ3 := hKw3.row hQr
        have hK3 := hK.trans hKw3
        have hob : o0 < w2.heap.size := Nat.lt_of_lt_of_le hQr.lt hk2.size
        have HO3 := Lib.hid hO3
        have HL3 := Lib.hid hL3
        have HV3 := Lib.hid hv3n
        have hS3 : Hid (SlAt w3 (.slice ra n3 rc) n3 R3) := SlAt.of_own hO3
        have hIn : Hid (0 * y ≤ XR ∧ XR < 10000 * y) := by show _ ∧ _; have := HXR.out; have := HXR0.out; omega
        clear hO3 hL3 hv3n hS4 hK hKw3 hZ hY hR0 hR1 hQr hk2 hk3 hkl
        go_wp2_with fail
        clear hfl
        go_loopg [9, 10] 10000 (fun g s9 s10 wi => ∃ lo hi : Int, g = (hi - lo).toNat ∧ s9 = .int .i64 lo ∧ s10 = .int .i64 hi ∧ 0 ≤ lo ∧ lo < hi ∧ hi ≤ 10000 ∧ Kept w3 wi ∧ Hid (lo * y ≤ XR ∧ XR < hi * y))
        case atStart => exact ⟨0, 10000, rfl, rfl, rfl, by omega, by omega, by omega, Kept.refl _, hIn.out⟩
        case round =>
          clear hIn
          obtain ⟨lo, hi', rfl, rfl, rfl, lo0, lohi, hi1, hki, hI⟩ := hrel
          by_cases hgo : 1 < hi' - lo
          · obtain ⟨M, HM⟩ : ∃ M, Hid (M = (lo + hi') / 2) := ⟨_, rfl⟩
            have hM1 : lo < M ∧ M < hi' := by rw [HM.out]; omega
            obtain ⟨hM1, hM2⟩ := hM1
            have t1 : Int.tdiv (lo + hi') 2 = M := by rw [HM.out]; exact Int.tdiv_eq_ediv_of_nonneg (by omega)
            obtain ⟨y0, y1, _, _⟩ := bx_cells (hki.row hY3)
            go_wp2_with fail
            refine (times_any _ _ l2 D2 M (HS2.out.kept (hK3.trans hki)) HL2.out (by omega) ⟨by omega, by omega⟩ HBY.out).mono ?_
            rintro e w4 ⟨v4, n4, O4, rfl, hS4, hL4, hv4, hn4, hk4⟩
            rw [HY2.out] at hv4
            obtain ⟨a4, c4, rfl⟩ := sl_pad hS4
            have HV4 := Lib.hid hv4
            have HS4 := Lib.hid hS4
            have HL4 := Lib.hid hL4
            clear hS4 hL4 hv4 t1 y0 y1
            go_wp2_with fail
            refine (sizes_any _ _ _ n4 n3 O4 R3 HS4.out.ints (((hS3.out).kept (hki.trans hk4)).ints) HL4.out HL3.out (by omega) (by omega)).mono ?_
            rw [HV4.out, HV3.out]
            rintro e w5 ⟨rfl, hq5⟩
            have hK5 := (hki.trans hk4).trans hq5.kept
            by_cases hc : y * M ≤ XR
            · have hcc : cmpI (y * M) XR ≤ 0 := cmpI_le hc
              have hI2 : Hid (M * y ≤ XR ∧ XR < hi' * y) := ⟨by rw [Int.mul_comm]; exact hc, hI.out.2⟩
              generalize cmpI (y * M) XR = C at *
              clear hc hI
              go_wp2_with fail
              go_roundg (hi' - M).toNat
              case measure => omega
              case rel => exact ⟨M, hi', rfl, rfl, rfl, by omega, by omega, by omega, hK5, hI2.out⟩
            · have hcc : ¬ cmpI (y * M) XR ≤ 0 := by rw [cmpI_gt (by omega)]; omega
              have hI2 : Hid (lo * y ≤ XR ∧ XR < M * y) := ⟨hI.out.1, by rw [Int.mul_comm]; omega⟩
              generalize cmpI (y * M) XR = C at *
              clear hc hI
              go_wp2_with fail
              go_roundg (M - lo).toNat
              case measure => omega
              case rel => exact ⟨lo, M, rfl, rfl, rfl, by omega, by omega, by omega, hK5, hI2.out⟩
          · obtain rfl : hi' = lo + 1 := by omega
            have hlo1 : lo < 10000 := by omega
            have hle : Hid (y * lo ≤ XR) := by show _ ≤ _; rw [Int.mul_comm]; exact hI.out.1
            have hrb : Hid (0 ≤ XR - y * lo ∧ XR - y * lo < y) := by
              have h1 := hI.out
              rw [Int.add_mul, Int.one_mul, Int.mul_comm lo y] at h1
              show _ ∧ _
              omega
            have hQ4 := hki.row hQ3
            have hZ4 := hki.row hZ3
            have hY4 := hki.row hY3
            have hR04 := hki.row hR03
            have hR14 := hki.row hR13
            have x0 := hQ4.cell (i := c) (by omega)
            have x1 := hQ4.frozen c
            have hO4 := own_kept HO3.out hki
            have hK4 := hK3.trans hki
            have s5 : ¬ (1 : Int) < lo + 1 - lo := by omega
            have hQ5 := (hQ4.set c (.int .i64 lo)).congr (g := fun j => .int .i64 ((fun j => if j = c then lo else Q j) j)) (fun j _ => by
              by_cases e : j = c
              · simp [e]
              · simp [e])
            have hZ5 := hZ4.setOther (a := ⟨o0, c, none⟩) hzo (.int .i64 lo)
            have hY5 := hY4.setOther (a := ⟨o0, c, none⟩) hyo (.int .i64 lo)
            have hR05 := hR04.setOther (a := ⟨o0, c, none⟩) hro (.int .i64 lo)
            have hR15 := hR14.setOther (a := ⟨o0, c, none⟩) hro1 (.int .i64 lo)
            have hK5 : Kept w (wr.setCell ⟨o0, c, none⟩ (.int .i64 lo)) := hK4.setCell how _
            have hO5 := own_keptX hO4 ((KeptX.refl (fun k => k = o0) wr).setIn c (.int .i64 lo)) (fun b h => by omega)
            have hS5 : Hid (SlAt (wr.setCell ⟨o0, c, none⟩ (.int .i64 lo)) (.slice ra n3 rc) n3 R3) := SlAt.of_own hO5
            obtain ⟨y0, y1, _, _⟩ := bx_cells hY5
            clear hQ4 hZ4 hY4 hR04 hR14 hO4 hK4 hO5 hI hki hgo lohi
            go_wp2_with fail
            generalize wr.setCell ⟨o0, c, none⟩ (.int .i64 lo) = W5 at *
            refine (times_any _ _ l2 D2 lo (HS2.out.kept hK5) HL2.out (by omega) ⟨by omega, by omega⟩ HBY.out).mono ?_
            rintro e w6 ⟨v6, n6, O6, rfl, hS6, hL6, hv6, hn6, hk6⟩
            rw [HY2.out] at hv6
            obtain ⟨a6, c6, rfl⟩ := sl_pad hS6
            have hln : n6 ≤ n3 := by
              rcases Nat.lt_or_ge n3 n6 with h | h
              · have := lean_len HL3.out.1 hL6 h
                have h2 := hle.out
                have h3 := HV3.out
                omega
              · exact h
            have hvle : valZ O6 n6 ≤ valZ R3 n3 := by rw [hv6, HV3.out]; exact hle.out
            have HV6 := Lib.hid hv6
            have HS6 := Lib.hid hS6
            have HL6 := Lib.hid hL6
            have HVL := Lib.hid hvle
            clear hS6 hL6 hv6 hvle x0 x1 y0 y1
            go_wp2_with fail
            refine (less_any _ _ _ n3 n6 R3 O6 ((hS5.out.kept hk6).ints) HS6.out.ints HL3.out.1 HL6.out.1 (by omega) hln HVL.out).mono ?_
            rintro e w7 ⟨v7, n7, O7, rfl, hO7, hD7, hv7, hn7, hk7⟩
            rw [HV6.out, HV3.out] at hv7
            obtain ⟨a7, c7, rfl, _⟩ := own_form hO7
            have HS7 := Lib.hid (SlAt.of_own hO7)
            have HD7 := Lib.hid hD7
            have HV7 := Lib.hid hv7
            clear hO7 hD7 hv7
            go_wp2_with fail
            refine (lean_full _ false _ n7 O7 HS7.out HD7.out (by omega) (by rw [HV7.out]; have := hrb.out; have := HBY2.out; omega)).mono ?_
            rw [HV7.out]
            rintro e w8 ⟨m8, s8, n8, R8, rfl, hO8, hL8, hm8, hv8, hn8, hk8⟩
            obtain ⟨hmf, hv8n⟩ := pos_of (z := XR - y * lo) hL8 hm8 hv8 hrb.out.1
            clear hv8 hm8
            subst hmf
            obtain ⟨ra8, rc8, rfl, _⟩ := own_form hO8
            have hfl := zfield false ra8 n8 rc8 w8
            have hk58 := (hk6.trans hk7).trans hk8
            have hob8 : o0 < w7.heap.size := Nat.lt_of_lt_of_le hQ5.lt (hk6.trans hk7).size
            have hfin : Hid (DivIn l (t + 1) y D (fun j => if j = c then lo else Q j) (valZ R8 n8)) := by
              have hst := hDI.out.step (lo := lo) hlt (by have := HCC.out; omega) ⟨lo0, hlo1⟩ (r' := valZ R8 n8) (by rw [hv8n]; exact hrb.out) (by
                have h1 := HXDD.out
                have h2 := HXRR.out
                rw [hv8n, h1, Int.mul_comm lo y]
                omega)
              rw [show l - 1 - t = c by have := HCC.out; omega] at hst
              exact hst
            have hec : (c : Int) - 1 = (l : Int) - 1 - ((t + 1 : Nat) : Int) := by have := HCC.out; omega
            have HEC := Lib.hid hec
            have hrel9 : Hid (RestAt2 o0 w8 (.slice ra8 n8 rc8) n8 R8) := ⟨_, hob8, hO8, hL8, hn8⟩
            clear hO8 hL8 hv8n hec hDI
            go_wp2_with fail
            go_roundg (l - (t + 1))
            case measure => omega
            case rel => exact ⟨t + 1, n8, R8, fun j => if j = c then lo else Q j, by omega, rfl, by rw [← HEC.out], hK5.trans hk58, hk58.row hZ5, hk58.row hY5, hk58.row hR05, hk58.row hR15, hk58.row hQ5, hrel9.out, hfin.out⟩
      | some ad =>
        go_wp2_with (first | (at_builtin; refine wpList_append_own _ rfl _ _ 27 rfl wr.heap.size 3 i0 (.int .i64 0) 1 8 Tryz.underlying27 hi hz0 hz1 hz2 rfl (by decide) _ _ _ rfl hL1 ad n rcap (ints R n) rfl (by simp [ints]) ?c1 ?c2 ?c3 ?c4 ?c5 ?_))
        case c1 => exact fun j u h => by obtain ⟨h1, rfl⟩ := ints_get h; exact hkl.cellSome (hRC.out j h1 _ rfl)
        case c2 => intro u hu; simp [ints] at hu; obtain ⟨i, _, rfl⟩ := hu; rfl
        case c3 => unfold maxLen; omega
        case c4 => omega
        intro v' w2 hO3 hgr _
        have hX2 := grew_X hgr hL1
        have hk2 : Kept wr w2 := hkl.step hX2 (fun i hi => hi)
        have hO4 : w2.ownsRow wr.heap.size 3 1 v' (n + 1) (ints (consZ x' R) (n + 1)) := by rw [ints_cons, Nat.add_comm n 1]; simpa using hO3
        obtain ⟨va, vc, rfl, _⟩ := own_form hO4
        have hS4 := SlAt.of_own hO4
        clear hO3 hX2 hgr hO4 hL1
        go_wp2_with fail
        refine (lean_full _ false _ (n + 1) (consZ x' R) hS4 HDC.out (by omega) (by rw [HVC.out]; exact HBC.out)).mono ?_
        rw [HVC.out]
        rintro e w3 ⟨mr, sr, n3, R3, rfl, hO3, hL3, hm3, hv3, hn3, hk3⟩
        obtain ⟨hmf, hv3n⟩ := pos_of (z := XR) hL3 hm3 hv3 HXR0.out
        clear hv3 hm3
        subst hmf
        obtain ⟨ra, rc, rfl, _⟩ := own_form hO3
        have hfl := zfield false ra n3 rc w3
        have hKw3 := hk2.trans hk3
        have hZ3 := hKw3.row hZ
        have hY3 := hKw3.row hY
        have hR03 := hKw3.row hR0
        have hR13 := hKw3.row hR1
        have hQ3 := hKw3.row hQr
        have hK3 := hK.trans hKw3
        have hob : o0 < w2.heap.size := Nat.lt_of_lt_of_le hQr.lt hk2.size
        have HO3 := Lib.hid hO3
        have HL3 := Lib.hid hL3
        have HV3 := Lib.hid hv3n
        have hS3 : Hid (SlAt w3 (.slice ra n3 rc) n3 R3) := SlAt.of_own hO3
        have hIn : Hid (0 * y ≤ XR ∧ XR < 10000 * y) := by show _ ∧ _; have := HXR.out; have := HXR0.out; omega
        clear hO3 hL3 hv3n hS4 hK hKw3 hZ hY hR0 hR1 hQr hk2 hk3 hkl
        go_wp2_with fail
        clear hfl
        go_loopg [9, 10] 10000 (fun g s9 s10 wi => ∃ lo hi : Int, g = (hi - lo).toNat ∧ s9 = .int .i64 lo ∧ s10 = .int .i64 hi ∧ 0 ≤ lo ∧ lo < hi ∧ hi ≤ 10000 ∧ Kept w3 wi ∧ Hid (lo * y ≤ XR ∧ XR < hi * y))
        case atStart => exact ⟨0, 10000, rfl, rfl, rfl, by omega, by omega, by omega, Kept.refl _, hIn.out⟩
        case round =>
          clear hIn
          obtain ⟨lo, hi', rfl, rfl, rfl, lo0, lohi, hi1, hki, hI⟩ := hrel
          by_cases hgo : 1 < hi' - lo
          · obtain ⟨M, HM⟩ : ∃ M, Hid (M = (lo + hi') / 2) := ⟨_, rfl⟩
            have hM1 : lo < M ∧ M < hi' := by rw [HM.out]; omega
            obtain ⟨hM1, hM2⟩ := hM1
            have t1 : Int.tdiv (lo + hi') 2 = M := by rw [HM.out]; exact Int.tdiv_eq_ediv_of_nonneg (by omega)
            obtain ⟨y0, y1, _, _⟩ := bx_cells (hki.row hY3)
            go_wp2_with fail
            refine (times_any _ _ l2 D2 M (HS2.out.kept (hK3.trans hki)) HL2.out (by omega) ⟨by omega, by omega⟩ HBY.out).mono ?_
            rintro e w4 ⟨v4, n4, O4, rfl, hS4, hL4, hv4, hn4, hk4⟩
            rw [HY2.out] at hv4
            obtain ⟨a4, c4, rfl⟩ := sl_pad hS4
            have HV4 := Lib.hid hv4
            have HS4 := Lib.hid hS4
            have HL4 := Lib.hid hL4
            clear hS4 hL4 hv4 t1 y0 y1
            go_wp2_with fail
            refine (sizes_any _ _ _ n4 n3 O4 R3 HS4.out.ints (((hS3.out).kept (hki.trans hk4)).ints) HL4.out HL3.out (by omega) (by omega)).mono ?_
            rw [HV4.out, HV3.out]
            rintro e w5 ⟨rfl, hq5⟩
            have hK5 := (hki.trans hk4).trans hq5.kept
            by_cases hc : y * M ≤ XR
            · have hcc : cmpI (y * M) XR ≤ 0 := cmpI_le hc
              have hI2 : Hid (M * y ≤ XR ∧ XR < hi' * y) := ⟨by rw [Int.mul_comm]; exact hc, hI.out.2⟩
              generalize cmpI (y * M) XR = C at *
              clear hc hI
              go_wp2_with fail
              go_roundg (hi' - M).toNat
              case measure => omega
              case rel => exact ⟨M, hi', rfl, rfl, rfl, by omega, by omega, by omega, hK5, hI2.out⟩
            · have hcc : ¬ cmpI (y * M) XR ≤ 0 := by rw [cmpI_gt (by omega)]; omega
              have hI2 : Hid (lo * y ≤ XR ∧ XR < M * y) := ⟨hI.out.1, by rw [Int.mul_comm]; omega⟩
              generalize cmpI (y * M) XR = C at *
              clear hc hI
              go_wp2_with fail
              go_roundg (M - lo).toNat
              case measure => omega
              case rel => exact ⟨lo, M, rfl, rfl, rfl, by omega, by omega, by omega, hK5, hI2.out⟩
          · obtain rfl : hi' = lo + 1 := by omega
            have hlo1 : lo < 10000 := by omega
            have hle : Hid (y * lo ≤ XR) := by show _ ≤ _; rw [Int.mul_comm]; exact hI.out.1
            have hrb : Hid (0 ≤ XR - y * lo ∧ XR - y * lo < y) := by
              have h1 := hI.out
              rw [Int.add_mul, Int.one_mul, Int.mul_comm lo y] at h1
              show _ ∧ _
              omega
            have hQ4 := hki.row hQ3
            have hZ4 := hki.row hZ3
            have hY4 := hki.row hY3
            have hR04 := hki.row hR03
            have hR14 := hki.row hR13
            have x0 := hQ4.cell (i := c) (by omega)
            have x1 := hQ4.frozen c
            have hO4 := own_kept HO3.out hki
            have hK4 := hK3.trans hki
            have s5 : ¬ (1 : Int) < lo + 1 - lo := by omega
            have hQ5 := (hQ4.set c (.int .i64 lo)).congr (g := fun j => .int .i64 ((fun j => if j = c then lo else Q j) j)) (fun j _ => by
              by_cases e : j = c
              · simp [e]
              · simp [e])
            have hZ5 := hZ4.setOther (a := ⟨o0, c, none⟩) hzo (.int .i64 lo)
            have hY5 := hY4.setOther (a := ⟨o0, c, none⟩) hyo (.int .i64 lo)
            have hR05 := hR04.setOther (a := ⟨o0, c, none⟩) hro (.int .i64 lo)
            have hR15 := hR14.setOther (a := ⟨o0, c, none⟩) hro1 (.int .i64 lo)
            have hK5 : Kept w (wr.setCell ⟨o0, c, none⟩ (.int .i64 lo)) := hK4.setCell how _
            have hO5 := own_keptX hO4 ((KeptX.refl (fun k => k = o0) wr).setIn c (.int .i64 lo)) (fun b h => by omega)
            have hS5 : Hid (SlAt (wr.setCell ⟨o0, c, none⟩ (.int .i64 lo)) (.slice ra n3 rc) n3 R3) := SlAt.of_own hO5
            obtain ⟨y0, y1, _, _⟩ := bx_cells hY5
            clear hQ4 hZ4 hY4 hR04 hR14 hO4 hK4 hO5 hI hki hgo lohi
            go_wp2_with fail
            generalize wr.setCell ⟨o0, c, none⟩ (.int .i64 lo) = W5 at *
            refine (times_any _ _ l2 D2 lo (HS2.out.kept hK5) HL2.out (by omega) ⟨by omega, by omega⟩ HBY.out).mono ?_
            rintro e w6 ⟨v6, n6, O6, rfl, hS6, hL6, hv6, hn6, hk6⟩
            rw [HY2.out] at hv6
            obtain ⟨a6, c6, rfl⟩ := sl_pad hS6
            have hln : n6 ≤ n3 := by
              rcases Nat.lt_or_ge n3 n6 with h | h
              · have := lean_len HL3.out.1 hL6 h
                have h2 := hle.out
                have h3 := HV3.out
                omega
              · exact h
            have hvle : valZ O6 n6 ≤ valZ R3 n3 := by rw [hv6, HV3.out]; exact hle.out
            have HV6 := Lib.hid hv6
            have HS6 := Lib.hid hS6
            have HL6 := Lib.hid hL6
            have HVL := Lib.hid hvle
            clear hS6 hL6 hv6 hvle x0 x1 y0 y1
            go_wp2_with fail
            refine (less_any _ _ _ n3 n6 R3 O6 ((hS5.out.kept hk6).ints) HS6.out.ints HL3.out.1 HL6.out.1 (by omega) hln HVL.out).mono ?_
            rintro e w7 ⟨v7, n7, O7, rfl, hO7, hD7, hv7, hn7, hk7⟩
            rw [HV6.out, HV3.out] at hv7
            obtain ⟨a7, c7, rfl, _⟩ := own_form hO7
            have HS7 := Lib.hid (SlAt.of_own hO7)
            have HD7 := Lib.hid hD7
            have HV7 := Lib.hid hv7
            clear hO7 hD7 hv7
            go_wp2_with fail
            refine (lean_full _ false _ n7 O7 HS7.out HD7.out (by omega) (by rw [HV7.out]; have := hrb.out; have := HBY2.out; omega)).mono ?_
            rw [HV7.out]
            rintro e w8 ⟨m8, s8, n8, R8, rfl, hO8, hL8, hm8, hv8, hn8, hk8⟩
            obtain ⟨hmf, hv8n⟩ := pos_of (z := XR - y * lo) hL8 hm8 hv8 hrb.out.1
            clear hv8 hm8
            subst hmf
            obtain ⟨ra8, rc8, rfl, _⟩ := own_form hO8
            have hfl := zfield false ra8 n8 rc8 w8
            have hk58 := (hk6.trans hk7).trans hk8
            have hob8 : o0 < w7.heap.size := Nat.lt_of_lt_of_le hQ5.lt (hk6.trans hk7).size
            have hfin : Hid (DivIn l (t + 1) y D (fun j => if j = c then lo else Q j) (valZ R8 n8)) := by
              have hst := hDI.out.step (lo := lo) hlt (by have := HCC.out; omega) ⟨lo0, hlo1⟩ (r' := valZ R8 n8) (by rw [hv8n]; exact hrb.out) (by
                have h1 := HXDD.out
                have h2 := HXRR.out
                rw [hv8n, h1, Int.mul_comm lo y]
                omega)
              rw [show l - 1 - t = c by have := HCC.out; omega] at hst
              exact hst
            have hec : (c : Int) - 1 = (l : Int) - 1 - ((t + 1 : Nat) : Int) := by have := HCC.out; omega
            have HEC := Lib.hid hec
            have hrel9 : Hid (RestAt2 o0 w8 (.slice ra8 n8 rc8) n8 R8) := ⟨_, hob8, hO8, hL8, hn8⟩
            clear hO8 hL8 hv8n hec hDI
            go_wp2_with fail
            go_roundg (l - (t + 1))
            case measure => omega
            case rel => exact ⟨t + 1, n8, R8, fun j => if j = c then lo else Q j, by omega, rfl, by rw [← HEC.out], hK5.trans hk58, hk58.row hZ5, hk58.row hY5, hk58.row hR05, hk58.row hR15, hk58.row hQ5, hrel9.out, hfin.out⟩
    · obtain rfl : t = l := by omega
      have ec : (t : Int) - 1 - (t : Int) = -1 := by omega
      rw [ec]
      have hfin := hDI.out.val
      rw [hiV_all, hiV_all, HVX.out] at hfin
      have hrr2 := hDI.out.rest
      have huq := (Int.ediv_emod_unique (a := x) (b := y) (q := valZ Q t) (r := valZ R n) hy0).2 ⟨by rw [Int.add_comm, Int.mul_comm y]; exact hfin, hrr2.1, hrr2.2⟩
      have hqv := valZ_bd (show DigZ Q t from hDI.out.dig)
      have hqx : valZ Q t ≤ x := by
        have : valZ Q t * 1 ≤ valZ Q t * y := Int.mul_le_mul_of_nonneg_left (by omega) hqv.1
        omega
      have HE1 := Lib.hid huq.1
      have HE2 := Lib.hid huq.2
      have hSO : SlAt wr (.slice (some ⟨o0, 0, none⟩) t t) t Q := ⟨_, t, rfl, Nat.le_refl _, (fun h => by cases h), (by unfold maxLen; omega), CellsAt.of_row hQr⟩
      have HSO := Lib.hid hSO
      have HQB : Hid (valZ Q t < bigN) := by show _ < _; have := HXB.out; omega
      have HRB : Hid (valZ R n < bigN) := by show _ < _; have := HBY2.out; omega
      have HQD := Lib.hid (show DigZ Q t from hDI.out.dig)
      have hRS : Hid (SlAt wr (.slice ra0 n rcap) n R) := SlAt.of_own hRO
      have HRD := Lib.hid hRL.1
      obtain ⟨zz0, zz1, _, _⟩ := bx_cells hZ
      clear ec hfin hrr2 huq hqv hqx hSO hDI hRO hRL hrg hQr
      go_wp2_with fail
      refine (lean_ty _ false _ t Q HSO.out HQD.out (by omega) HQB.out).mono ?_
      rintro e w5 ⟨v5, rfl, hz5, hty5, hk5⟩
      obtain ⟨m5, a5, l5, c5, rfl⟩ := hz5.shape
      have HZ5 := Lib.hid hz5
      have HTY5 := Lib.hid hty5
      clear hty5 hz5 zz0 zz1
      go_wp2_with fail
      refine (lean_ty _ false _ n R (hRS.out.kept hk5) HRD.out (by omega) HRB.out).mono ?_
      rintro e w6 ⟨v6, rfl, hz6, hty6, hk6⟩
      obtain ⟨m6, a6, l6, c6, rfl⟩ := hz6.shape
      have HZ6 := Lib.hid hz6
      have hkk := hk5.trans hk6
      have hk9 : Kept w6 ((w6.alloc (.cells #[.bool m5, .slice a5 l5 c5] 53)).alloc (.cells #[.bool m6, .slice a6 l6 c6] 53)) := ((Kept.refl w6).alloc _).alloc _
      have hk99 := hkk.trans hk9
      have hZ9 := hk99.row hZ
      have hR09 := hk99.row hR0
      have hR19 := hk99.row hR1
      have hKF := hK.trans hk99
      have HZ59 := Lib.hid ((HZ5.out.kept hk6).kept hk9)
      have HZ69 := Lib.hid (hz6.kept hk9)
      have HTY59 := Lib.hid ((HTY5.out.kept hk6).kept hk9)
      have HTY69 := Lib.hid (hty6.kept hk9)
      clear hty6 HTY5
      obtain ⟨y0, y1, _, _⟩ := bx_cells hZ9
      obtain ⟨p0, p1, p2, p3⟩ := bx_cells hR09
      obtain ⟨q0, q1, q2, q3⟩ := bx_cells hR19
      have HR09 := Lib.hid hR09
      have HR0lt : Hid (r0 < w6.heap.size) := (hkk.row hR0).lt
      have HR1lt : Hid (r1 < w6.heap.size) := (hkk.row hR1).lt
      have HR19 := Lib.hid hR19
      clear hz6 HZ6 HZ5 hkk hZ hR0 hR1 hK hY hR09 hR19 hZ9
      go_wp2_with fail
      have hT5 := Kept.row ((Kept.refl _).alloc (.cells #[.bool m6, .slice a6 l6 c6] 53)) (box_row w6 (.bool m5) (.slice a5 l5 c5) 53 w6.heap.size rfl)
      have hT6 := box_row (w6.alloc (.cells #[.bool m5, .slice a5 l5 c5] 53)) (.bool m6) (.slice a6 l6 c6) 53 (w6.heap.size + 1) (by simp)
      have hl0 : r0 < w6.heap.size := by rcases Nat.lt_or_ge r0 w6.heap.size with h | h; exact h; exact absurd (HR0lt.out) (by omega)
      have hl1 : r1 < w6.heap.size := by rcases Nat.lt_or_ge r1 w6.heap.size with h | h; exact h; exact absurd (HR1lt.out) (by omega)
      generalize ((w6.alloc (.cells #[.bool m5, .slice a5 l5 c5] 53)).alloc (.cells #[.bool m6, .slice a6 l6 c6] 53)) = W9 at *
      obtain ⟨z6, HZZ6⟩ : ∃ z, Hid (z = w6.heap.size + 1) := ⟨_, rfl⟩
      obtain ⟨z5, HZZ5⟩ : ∃ z, Hid (z = w6.heap.size) := ⟨_, rfl⟩
      rw [← HZZ6.out] at hT6 ⊢
      rw [← HZZ5.out] at hT5 ⊢
      have n1 : r0 ≠ z5 := by rw [HZZ5.out]; omega
      have n2 : r0 ≠ z6 := by rw [HZZ6.out]; omega
      have n3 : r1 ≠ z5 := by rw [HZZ5.out]; omega
      have n4 : r1 ≠ z6 := by rw [HZZ6.out]; omega
      obtain ⟨b0', b1', _, _⟩ := bx_cells hT5
      obtain ⟨b2', b3', _, _⟩ := bx_cells hT6
      clear hT5 hT6 hl0 hl1 hk9 hk99
      go_region
      have hX1 : KeptX (fun k => k = r0) W9 ((W9.setCell ⟨r0, 0, none⟩ (.bool m5)).setCell ⟨r0, 1, none⟩ (.slice a5 l5 c5)) := ((KeptX.refl (fun k => k = r0) W9).setIn 0 _).setIn 1 _
      have hX2 : KeptX (fun k => k = r1) ((W9.setCell ⟨r0, 0, none⟩ (.bool m5)).setCell ⟨r0, 1, none⟩ (.slice a5 l5 c5)) ((((W9.setCell ⟨r0, 0, none⟩ (.bool m5)).setCell ⟨r0, 1, none⟩ (.slice a5 l5 c5)).setCell ⟨r1, 0, none⟩ (.bool m6)).setCell ⟨r1, 1, none⟩ (.slice a6 l6 c6)) := ((KeptX.refl (fun k => k = r1) ((W9.setCell ⟨r0, 0, none⟩ (.bool m5)).setCell ⟨r0, 1, none⟩ (.slice a5 l5 c5))).setIn 0 _).setIn 1 _
      have hr1 := (HR19.out.setOther (a := ⟨r0, 0, none⟩) (Ne.symm hrr) (.bool m5)).setOther (a := ⟨r0, 1, none⟩) (Ne.symm hrr) (.slice a5 l5 c5)
      have hA := bx_set1 (bx_set0 HR09.out (.bool m5)) (.slice a5 l5 c5)
      have hA2 := (hA.setOther (a := ⟨r1, 0, none⟩) hrr (.bool m6)).setOther (a := ⟨r1, 1, none⟩) hrr (.slice a6 l6 c6)
      have hB2 := bx_set1 (bx_set0 hr1 (.bool m6)) (.slice a6 l6 c6)
      have hdr : Kept ((((W9.setCell ⟨r0, 0, none⟩ (.bool m5)).setCell ⟨r0, 1, none⟩ (.slice a5 l5 c5)).setCell ⟨r1, 0, none⟩ (.bool m6)).setCell ⟨r1, 1, none⟩ (.slice a6 l6 c6)) ((((W9.setCell ⟨r0, 0, none⟩ (.bool m5)).setCell ⟨r0, 1, none⟩ (.slice a5 l5 c5)).setCell ⟨r1, 0, none⟩ (.bool m6)).setCell ⟨r1, 1, none⟩ (.slice a6 l6 c6)).drew := (Kept.refl _).drew
      have hq1 := Lib.hid (((HZ59.out.keptBox hX1 HR09.out).keptBox hX2 hr1).kept hdr)
      have hq2 := Lib.hid (((HZ69.out.keptBox hX1 HR09.out).keptBox hX2 hr1).kept hdr)
      have hty1 := Lib.hid (((HTY59.out.keptX hX1 HR09.out (by decide)).keptX hX2 hr1 (by decide)).kept hdr)
      have hty2 := Lib.hid (((HTY69.out.keptX hX1 HR09.out (by decide)).keptX hX2 hr1 (by decide)).kept hdr)
      have hKFF : Kept w ((((W9.setCell ⟨r0, 0, none⟩ (.bool m5)).setCell ⟨r0, 1, none⟩ (.slice a5 l5 c5)).setCell ⟨r1, 0, none⟩ (.bool m6)).setCell ⟨r1, 1, none⟩ (.slice a6 l6 c6)).drew := ((((hKF.setCell hrw _).setCell hrw _).setCell hrw1 _).setCell hrw1 _).drew
      obtain ⟨g0, g1, _, _⟩ := bx_cells (hdr.row hA2)
      obtain ⟨g2, g3, _, _⟩ := bx_cells (hdr.row hB2)
      clear hX1 hX2 hr1 hA hA2 hB2 hdr
      generalize ((((W9.setCell ⟨r0, 0, none⟩ (.bool m5)).setCell ⟨r0, 1, none⟩ (.slice a5 l5 c5)).setCell ⟨r1, 0, none⟩ (.bool m6)).setCell ⟨r1, 1, none⟩ (.slice a6 l6 c6)).drew = WF at *
      go_wp2_with fail
      exact bodyPost_ret (v := .tuple #[.agg #[.bool m5, .slice a5 l5 c5], .agg #[.bool m6, .slice a6 l6 c6]]) (by simp [results, Tryz.results91, go_sem, g0, g1, g2, g3]) rfl ⟨_, _, rfl, by rw [HE1.out]; exact hq1.out, by rw [HE2.out]; exact hq2.out, hty1.out, hty2.out, hKFF⟩
theorem DivMod_any (w : World) (u v : Value) (x y : Int) (hX : ZAt w u x) (hY : ZAt w v y) (hx0 : 0 ≤ x) (hy0 : 0 < y) (hB : y * 10000 < bigN) (hxB : x < bigN) :
    Calls Tryz.prog 91 #[u, v] w (DivPost w (x / y) (x % y)) :=
  (DivMod_ty w u v x y hX hY hx0 hy0 hB hxB).mono fun _ _ ⟨u, v, h1, h2, h3, _, _, h4⟩ => ⟨u, v, h1, h2, h3, h4⟩
set_option maxRecDepth 100000 in
set_option maxHeartbeats 4000000 in
theorem Abs_any (w : World) (v : Value) (z y : Int) (hZ : ZAt w v z) (hy : y = (z.natAbs : Int)) :
    Calls Tryz.prog 94 #[v] w (ZPost w y) := by
  obtain ⟨m, sv, l, D, rfl, hS, hL, hm, hv, hl⟩ := hZ
  have HS := Lib.hid hS
  have HL := Lib.hid hL
  obtain ⟨a, cap, rfl, _⟩ := hS
  have hb := valZ_bd hL.1
  have hz : Hid (∀ w', Kept w w' → ZAt w' (.agg #[.bool false, .slice a l cap]) y) := fun w' k => ⟨false, _, l, D, rfl, HS.out.kept k, HL.out, (fun h => by cases h), by rw [hy, hv]; cases m <;> simp [sgnZ] <;> omega, hl⟩
  clear hL hy hv hb
  go_enter Tryz.func94, Tryz.ntmps94
  go_wp2_with fail
  exact bodyPost_ret (v := .agg #[.bool false, .slice a l cap]) (by simp [results, Tryz.results94, go_sem]) rfl ⟨_, rfl, hz.out _ (((Kept.refl w).alloc _).alloc _), ((Kept.refl w).alloc _).alloc _⟩
end Go.Proofs.YtlnlddnjalfamaaGreatDoor.Num
