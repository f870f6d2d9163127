/-
  The reference's numbers of any size: Add.
-/
import Derived.Test.YtomnjcjipdnnfaaNe
namespace Go.Proofs.Ytomnjcjipdnnfaa
open Go.RowKit Go.Deep

set_option maxRecDepth 100000 in
set_option maxHeartbeats 8000000 in
theorem Add_any (w : World) (u v : Value) (x y : Int) (hX : ZAt w u x) (hY : ZAt w v y) (hB : Big (x + y)) :
    Calls Try.prog 63 #[u, v] w (ZPost w (x + y)) := by
  obtain ⟨m, sv, l, D, rfl, hS, hL, hm, rfl, hl⟩ := hX
  obtain ⟨m2, sv2, l2, D2, rfl, hS2, hL2, hm2, rfl, hl2⟩ := hY
  have HS := Lib.hid hS
  have HL := Lib.hid hL
  have HS2 := Lib.hid hS2
  have HL2 := Lib.hid hL2
  obtain ⟨a, cap, rfl, _⟩ := hS
  obtain ⟨a2, cap2, rfl, _⟩ := hS2
  have hb1 := valZ_bd hL.1
  have hb2 := valZ_bd hL2.1
  clear hL hL2
  by_cases hmm : m = m2
  · obtain ⟨Z, HZZ⟩ : ∃ Z, Hid (Z = sgnZ m (valZ D l) + sgnZ m2 (valZ D2 l2)) := ⟨_, rfl⟩
    have hsum : Hid (sgnZ m (valZ D l + valZ D2 l2) = Z) := by show _ = _; rw [HZZ.out, hmm]; cases m2 <;> simp [sgnZ] <;> omega
    have hbig : Hid (valZ D l + valZ D2 l2 < bigN) := by
      rw [← HZZ.out] at hB
      have := hsum.out
      unfold Big at hB
      show _ < _
      cases m <;> simp [sgnZ] at this <;> omega
    rw [← HZZ.out]
    have PL := Lib.hid (fun (W : World) (hk : Kept w W) => plus_any W _ _ l l2 D D2 ((HS.out.kept hk).ints) ((HS2.out.kept hk).ints) HL.out.1 HL2.out.1 (by omega) (by omega))
    have e1 : (m == m2) = true := by simp [hmm]
    have HMM := Lib.hid hmm
    clear hb1 hb2 hB hm hm2 hmm
    go_enter Try.func63, Try.ntmps63
    go_wp2_with fail
    have hA0 := box_row w (.bool m) (.slice a l cap) 60 w.heap.size rfl
    have hA1 := box_row (w.alloc (.cells #[.bool m, .slice a l cap] 60)) (.bool m2) (.slice a2 l2 cap2) 60 (w.heap.size + 1) (by simp)
    have hA2 := box_row ((w.alloc (.cells #[.bool m, .slice a l cap] 60)).alloc (.cells #[.bool m2, .slice a2 l2 cap2] 60)) (.bool false) (.slice none 0 0) 60 (w.heap.size + 1 + 1) (by simp)
    have hB0 := (((Kept.refl _).alloc (.cells #[.bool m2, .slice a2 l2 cap2] 60)).alloc (.cells #[.bool false, .slice none 0 0] 60)).row hA0
    have hB1 := ((Kept.refl _).alloc (.cells #[.bool false, .slice none 0 0] 60)).row hA1
    have hKwW : Kept w (((w.alloc (.cells #[.bool m, .slice a l cap] 60)).alloc (.cells #[.bool m2, .slice a2 l2 cap2] 60)).alloc (.cells #[.bool false, .slice none 0 0] 60)) := (((Kept.refl w).alloc _).alloc _).alloc _
    generalize (((w.alloc (.cells #[.bool m, .slice a l cap] 60)).alloc (.cells #[.bool m2, .slice a2 l2 cap2] 60)).alloc (.cells #[.bool false, .slice none 0 0] 60)) = W at *
    obtain ⟨r0, HR0⟩ : ∃ r0, Hid (r0 = w.heap.size + 1 + 1) := ⟨_, rfl⟩
    obtain ⟨z1, HZZ1⟩ : ∃ z1, Hid (z1 = w.heap.size + 1) := ⟨_, rfl⟩
    obtain ⟨z0, HZZ0⟩ : ∃ z0, Hid (z0 = w.heap.size) := ⟨_, rfl⟩
    rw [← HR0.out] at hA2 ⊢
    rw [← HZZ1.out] at hB1 ⊢
    rw [← HZZ0.out] at hB0 ⊢
    have hrw : w.heap.size ≤ r0 := by rw [HR0.out]; omega
    have hzr : z0 ≠ r0 := by rw [HR0.out, HZZ0.out]; omega
    have hyr : z1 ≠ r0 := by rw [HR0.out, HZZ1.out]; omega
    have HRr := Lib.hid hA2
    have HZ0 := Lib.hid hB0
    have HZ1 := Lib.hid hB1
    obtain ⟨k0, k1, _, _⟩ := bx_cells hB0
    obtain ⟨l0, l1, _, _⟩ := bx_cells hB1
    clear hA0 hA1 hA2 hB0 hB1
    go_wp2_with fail
    refine wp_region_held_drew (S := (fun w' => w'.cell? ⟨z0, 0, none⟩ = some (.bool m) ∧ w'.cell? ⟨z0, 1, none⟩ = some (.slice a l cap) ∧ w'.cell? ⟨z1, 0, none⟩ = some (.bool m2) ∧ w'.cell? ⟨z1, 1, none⟩ = some (.slice a2 l2 cap2) ∧ Kept w w')) (by kernel_rfl) ?_ (fun hHeld => ?_)
    · (try dsimp only)
      exact ⟨Kept.cellSome (w := W) (by repeat (first | assumption | exact Kept.refl _ | apply Kept.drew | apply Kept.drewN | apply Kept.alloc | refine Kept.trans ?_ (by assumption))) k0, Kept.cellSome (w := W) (by repeat (first | assumption | exact Kept.refl _ | apply Kept.drew | apply Kept.drewN | apply Kept.alloc | refine Kept.trans ?_ (by assumption))) k1, Kept.cellSome (w := W) (by repeat (first | assumption | exact Kept.refl _ | apply Kept.drew | apply Kept.drewN | apply Kept.alloc | refine Kept.trans ?_ (by assumption))) l0, Kept.cellSome (w := W) (by repeat (first | assumption | exact Kept.refl _ | apply Kept.drew | apply Kept.drewN | apply Kept.alloc | refine Kept.trans ?_ (by assumption))) l1, hKwW.trans (by repeat (first | assumption | exact Kept.refl _ | apply Kept.drew | apply Kept.drewN | apply Kept.alloc | refine Kept.trans ?_ (by assumption)))⟩
    refine wpAnyH_take (i := 0) (oi := { dst := some 10, op := Go.Op.fieldAddr 60 (Go.Operand.tmp 2) 0, type := 0, pos := "big.go:99", after := #[], guard := none }) (v := ?v1) rfl (by kernel_rfl) (by kernel_rfl) (by kernel_rfl) (fun _ _ _ h => h) (Or.inl ⟨by rfl, ?hy1⟩) (by assumption) ?rs1
    case hy1 =>
      intro w hSw
      (try dsimp only at hSw)
      go_simp
      try with_reducible rfl
    (try simp only [Act.put, List.setIfInBounds_toArray, List.set_cons_zero, List.set_cons_succ])
    refine wpAnyH_take (i := 1) (oi := { dst := some 11, op := Go.Op.load 4 (Go.Operand.tmp 10), type := 4, pos := "big.go:99", after := #[{ on := 0, ground := Go.Ground.data }], guard := none }) (v := ?v2) rfl (by kernel_rfl) (by kernel_rfl) (by kernel_rfl) (fun _ _ _ h => h) (Or.inl ⟨by rfl, ?hy2⟩) (by assumption) ?rs2
    case hy2 =>
      intro w hSw
      (try dsimp only at hSw)
      go_simp
      try with_reducible rfl
    (try simp only [Act.put, List.setIfInBounds_toArray, List.set_cons_zero, List.set_cons_succ])
    refine wpAnyH_take (i := 2) (oi := { dst := some 12, op := Go.Op.fieldAddr 60 (Go.Operand.tmp 2) 1, type := 0, pos := "big.go:99", after := #[], guard := none }) (v := ?v3) rfl (by kernel_rfl) (by kernel_rfl) (by kernel_rfl) (fun _ _ _ h => h) (Or.inl ⟨by rfl, ?hy3⟩) (by assumption) ?rs3
    case hy3 =>
      intro w hSw
      (try dsimp only at hSw)
      go_simp
      try with_reducible rfl
    (try simp only [Act.put, List.setIfInBounds_toArray, List.set_cons_zero, List.set_cons_succ])
    refine wpAnyH_take (i := 3) (oi := { dst := some 13, op := Go.Op.load 27 (Go.Operand.tmp 12), type := 27, pos := "big.go:99", after := #[{ on := 2, ground := Go.Ground.data }], guard := none }) (v := ?v4) rfl (by kernel_rfl) (by kernel_rfl) (by kernel_rfl) (fun _ _ _ h => h) (Or.inl ⟨by rfl, ?hy4⟩) (by assumption) ?rs4
    case hy4 =>
      intro w hSw
      (try dsimp only at hSw)
      go_simp
      try with_reducible rfl
    (try simp only [Act.put, List.setIfInBounds_toArray, List.set_cons_zero, List.set_cons_succ])
    refine wpAnyH_take (i := 4) (oi := { dst := some 14, op := Go.Op.fieldAddr 60 (Go.Operand.tmp 3) 1, type := 0, pos := "big.go:99", after := #[], guard := none }) (v := ?v5) rfl (by kernel_rfl) (by kernel_rfl) (by kernel_rfl) (fun _ _ _ h => h) (Or.inl ⟨by rfl, ?hy5⟩) (by assumption) ?rs5
    case hy5 =>
      intro w hSw
      (try dsimp only at hSw)
      go_simp
      try with_reducible rfl
    (try simp only [Act.put, List.setIfInBounds_toArray, List.set_cons_zero, List.set_cons_succ])
    refine wpAnyH_take (i := 5) (oi := { dst := some 15, op := Go.Op.load 27 (Go.Operand.tmp 14), type := 27, pos := "big.go:99", after := #[{ on := 4, ground := Go.Ground.data }], guard := none }) (v := ?v6) rfl (by kernel_rfl) (by kernel_rfl) (by kernel_rfl) (fun _ _ _ h => h) (Or.inl ⟨by rfl, ?hy6⟩) (by assumption) ?rs6
    case hy6 =>
      intro w hSw
      (try dsimp only at hSw)
      go_simp
      try with_reducible rfl
    (try simp only [Act.put, List.setIfInBounds_toArray, List.set_cons_zero, List.set_cons_succ])
    refine wpAnyH_ready (rs := [6]) (by kernel_rfl) (by simp) ?_
    refine AllReadyH.cons (o := { dst := some 16, op := Go.Op.call { callee := Go.Callee.value (Go.Operand.func 85), args := #[Go.Operand.tmp 13, Go.Operand.tmp 15], argTypes := #[27, 27] }, type := 27, pos := "big.go:99", after := #[{ on := 3, ground := Go.Ground.data }, { on := 5, ground := Go.Ground.data }], guard := none }) rfl (fun K2 hK2 => ?_) AllReadyH.nil
    go_simp
    (go_at_call 85; refine (PL.out _ (hKwW.trans (by repeat (first | assumption | exact Kept.refl _ | apply Kept.drew | apply Kept.drewN | apply Kept.alloc | refine Kept.trans ?_ (by assumption))))).mono ?_; rintro e w5 ⟨v5, n5, O5, rfl, hO5, hD5, hV5, hn5, hk5⟩; have hS5 := SlAt.of_own hO5; obtain ⟨va5, vc5, rfl, _⟩ := own_form hO5)
    go_wp2_with fail
    refine hK2.out _ _ ?_ (fun hHeld => ?_)
    · (try dsimp only)
      exact ⟨Kept.cellSome (w := W) (by repeat (first | assumption | exact Kept.refl _ | apply Kept.drew | apply Kept.drewN | apply Kept.alloc | refine Kept.trans ?_ (by assumption))) k0, Kept.cellSome (w := W) (by repeat (first | assumption | exact Kept.refl _ | apply Kept.drew | apply Kept.drewN | apply Kept.alloc | refine Kept.trans ?_ (by assumption))) k1, Kept.cellSome (w := W) (by repeat (first | assumption | exact Kept.refl _ | apply Kept.drew | apply Kept.drewN | apply Kept.alloc | refine Kept.trans ?_ (by assumption))) l0, Kept.cellSome (w := W) (by repeat (first | assumption | exact Kept.refl _ | apply Kept.drew | apply Kept.drewN | apply Kept.alloc | refine Kept.trans ?_ (by assumption))) l1, hKwW.trans (by repeat (first | assumption | exact Kept.refl _ | apply Kept.drew | apply Kept.drewN | apply Kept.alloc | refine Kept.trans ?_ (by assumption)))⟩
    clear hK2 K2
    (try simp only [Act.put, List.setIfInBounds_toArray, List.set_cons_zero, List.set_cons_succ])
    refine wpAnyH_take (i := 7) (oi := { dst := some 17, op := Go.Op.build 60 #[(0, Go.Operand.tmp 11), (1, Go.Operand.tmp 16)], type := 60, pos := "big.go:99", after := #[{ on := 1, ground := Go.Ground.data }, { on := 6, ground := Go.Ground.data }], guard := none }) (v := ?v7) rfl (by kernel_rfl) (by kernel_rfl) (by kernel_rfl) (fun _ _ _ h => h) (Or.inl ⟨by rfl, ?hy7⟩) (by assumption) ?rs7
    case hy7 =>
      intro w hSw
      (try dsimp only at hSw)
      go_simp
      try with_reducible rfl
    (try simp only [Act.put, List.setIfInBounds_toArray, List.set_cons_zero, List.set_cons_succ])
    refine wpAnyH_ready (rs := [8]) (by kernel_rfl) (by simp) ?_
    refine AllReadyH.cons (o := { dst := some 18, op := Go.Op.call { callee := Go.Callee.value (Go.Operand.func 84), args := #[Go.Operand.tmp 17], argTypes := #[60] }, type := 60, pos := "big.go:99", after := #[{ on := 7, ground := Go.Ground.data }, { on := 6, ground := Go.Ground.chain }], guard := none }) rfl (fun K2 hK2 => ?_) AllReadyH.nil
    go_simp
    (go_at_call 84; refine (lean_any _ m _ n5 O5 (hS5.kept (by repeat (first | assumption | exact Kept.refl _ | apply Kept.drew | apply Kept.drewN | apply Kept.alloc | refine Kept.trans ?_ (by assumption)))) hD5 (by omega) (by rw [hV5]; exact hbig.out)).mono ?_; rintro e w6 ⟨v6, rfl, hz6, hk6⟩; obtain ⟨mr, ar, nr, cr, rfl⟩ := hz6.shape)
    go_wp2_with fail
    refine hK2.out _ _ ?_ (fun hHeld => ?_)
    · (try dsimp only)
      exact ⟨Kept.cellSome (w := W) (by repeat (first | assumption | exact Kept.refl _ | apply Kept.drew | apply Kept.drewN | apply Kept.alloc | refine Kept.trans ?_ (by assumption))) k0, Kept.cellSome (w := W) (by repeat (first | assumption | exact Kept.refl _ | apply Kept.drew | apply Kept.drewN | apply Kept.alloc | refine Kept.trans ?_ (by assumption))) k1, Kept.cellSome (w := W) (by repeat (first | assumption | exact Kept.refl _ | apply Kept.drew | apply Kept.drewN | apply Kept.alloc | refine Kept.trans ?_ (by assumption))) l0, Kept.cellSome (w := W) (by repeat (first | assumption | exact Kept.refl _ | apply Kept.drew | apply Kept.drewN | apply Kept.alloc | refine Kept.trans ?_ (by assumption))) l1, hKwW.trans (by repeat (first | assumption | exact Kept.refl _ | apply Kept.drew | apply Kept.drewN | apply Kept.alloc | refine Kept.trans ?_ (by assumption)))⟩
    clear hK2 K2
    (try simp only [Act.put, List.setIfInBounds_toArray, List.set_cons_zero, List.set_cons_succ])
    have hKW6 : Kept W w6 := (by repeat (first | assumption | exact Kept.refl _ | apply Kept.drew | apply Kept.drewN | apply Kept.alloc | refine Kept.trans ?_ (by assumption)))
    have hR6 := hKW6.row HRr.out
    have hZ6 := hKW6.row HZ0.out
    have hY6 := hKW6.row HZ1.out
    obtain ⟨f0, f1, f2, f3⟩ := bx_cells hR6
    have hRF := bx_set1 (bx_set0 hR6 (.bool mr)) (.slice ar nr cr)
    have hZF := (hZ6.setOther (a := ⟨r0, 0, none⟩) hzr (.bool mr)).setOther (a := ⟨r0, 1, none⟩) hzr (.slice ar nr cr)
    have hYF := (hY6.setOther (a := ⟨r0, 0, none⟩) hyr (.bool mr)).setOther (a := ⟨r0, 1, none⟩) hyr (.slice ar nr cr)
    have hKF : Kept w ((w6.setCell ⟨r0, 0, none⟩ (.bool mr)).setCell ⟨r0, 1, none⟩ (.slice ar nr cr)) := ((hKwW.trans hKW6).setCell hrw _).setCell hrw _
    have hX : KeptX (fun k => k = r0) w6 ((w6.setCell ⟨r0, 0, none⟩ (.bool mr)).setCell ⟨r0, 1, none⟩ (.slice ar nr cr)) := ((KeptX.refl (fun k => k = r0) w6).setIn 0 _).setIn 1 _
    rw [hV5] at hz6
    have hz7 := hz6.keptBox hX hR6
    rw [hsum.out] at hz7
    have HZ7 := Lib.hid hz7
    obtain ⟨g0, g1, _, _⟩ := bx_cells hRF
    obtain ⟨q0, q1, _, _⟩ := bx_cells hZF
    obtain ⟨q2, q3, _, _⟩ := bx_cells hYF
    clear hR6 hZ6 hY6 hRF hZF hYF hX hz6 hz7 hO5 hD5 hV5 hS5
    refine wpAnyH_ready (rs := [9]) (by kernel_rfl) (by simp) ?_
    refine AllReadyH.cons (o := { dst := none, op := Go.Op.store 60 (Go.Operand.tmp 4) (Go.Operand.tmp 18), type := 0, pos := "big.go:99", after := #[{ on := 8, ground := Go.Ground.data }, { on := 8, ground := Go.Ground.chain }, { on := 0, ground := Go.Ground.phase }, { on := 1, ground := Go.Ground.phase }, { on := 2, ground := Go.Ground.phase }, { on := 3, ground := Go.Ground.phase }, { on := 4, ground := Go.Ground.phase }, { on := 5, ground := Go.Ground.phase }, { on := 6, ground := Go.Ground.phase }, { on := 7, ground := Go.Ground.phase }, { on := 8, ground := Go.Ground.phase }], guard := none }) rfl (fun K2 hK2 => ?_) AllReadyH.nil
    go_simp
    refine hK2.out _ _ ?_ (fun hHeld => ?_)
    · (try dsimp only)
      exact ⟨q0, q1, q2, q3, hKF⟩
    generalize ((w6.setCell ⟨r0, 0, none⟩ (.bool mr)).setCell ⟨r0, 1, none⟩ (.slice ar nr cr)) = WF at *
    clear hK2 K2
    (try simp only [Act.put, List.setIfInBounds_toArray, List.set_cons_zero, List.set_cons_succ])
    refine wpAnyH_done (by kernel_rfl) ?_ _
    go_wp2_with fail
    exact bodyPost_ret (v := .agg #[.bool mr, .slice ar nr cr]) (by simp [results, Try.results63, go_sem, g0, g1]) rfl ⟨_, rfl, HZ7.out, hKF⟩
  · have e1 : (m == m2) = false := by simpa using hmm
    have hm2v : m2 = !m := by cases m <;> cases m2 <;> simp at hmm ⊢
    obtain ⟨Z, HZZ⟩ : ∃ Z, Hid (Z = sgnZ m (valZ D l) + sgnZ m2 (valZ D2 l2)) := ⟨_, rfl⟩
    have SZ := Lib.hid (fun (W : World) (hk : Kept w W) => sizes_any W _ _ l l2 D D2 ((HS.out.kept hk).ints) ((HS2.out.kept hk).ints) HL.out HL2.out (by omega) (by omega))
    have hp1 : (10000 : Int) ^ l ≤ bigN := pw_le hl
    have hp2 : (10000 : Int) ^ l2 ≤ bigN := pw_le hl2
    rw [← HZZ.out]
    obtain ⟨C, HCC⟩ : ∃ C, Hid (C = cmpI (valZ D l) (valZ D2 l2)) := ⟨_, rfl⟩
    rw [← HCC.out] at SZ
    have HMM := Lib.hid hmm
    by_cases hle : valZ D2 l2 ≤ valZ D l
    · have hC : 0 ≤ C := by
        rw [HCC.out]; unfold cmpI; rw [if_neg (by omega)]; split <;> omega
      have hll : l2 ≤ l := by
        rcases Nat.lt_or_ge l l2 with h | h
        · have := lean_len HL.out.1 HL2.out h; omega
        · exact h
      have hsum : Hid (sgnZ m (valZ D l - valZ D2 l2) = Z) := by show _ = _; rw [HZZ.out, hm2v]; cases m <;> simp [sgnZ] <;> omega
      have hbig : Hid (valZ D l - valZ D2 l2 < bigN) := by show _ < _; omega
      have PL := Lib.hid (fun (W : World) (hk : Kept w W) => less_any W _ _ l l2 D D2 ((HS.out.kept hk).ints) ((HS2.out.kept hk).ints) HL.out.1 HL2.out.1 (by omega) hll hle)
      clear hb1 hb2 hB hm hm2 hmm hm2v hp1 hp2 hle hll
      go_enter Try.func63, Try.ntmps63
      go_wp2_with fail
      have hA0 := box_row w (.bool m) (.slice a l cap) 60 w.heap.size rfl
      have hA1 := box_row (w.alloc (.cells #[.bool m, .slice a l cap] 60)) (.bool m2) (.slice a2 l2 cap2) 60 (w.heap.size + 1) (by simp)
      have hA2 := box_row ((w.alloc (.cells #[.bool m, .slice a l cap] 60)).alloc (.cells #[.bool m2, .slice a2 l2 cap2] 60)) (.bool false) (.slice none 0 0) 60 (w.heap.size + 1 + 1) (by simp)
      have hB0 := (((Kept.refl _).alloc (.cells #[.bool m2, .slice a2 l2 cap2] 60)).alloc (.cells #[.bool false, .slice none 0 0] 60)).row hA0
      have hB1 := ((Kept.refl _).alloc (.cells #[.bool false, .slice none 0 0] 60)).row hA1
      have hKwW : Kept w (((w.alloc (.cells #[.bool m, .slice a l cap] 60)).alloc (.cells #[.bool m2, .slice a2 l2 cap2] 60)).alloc (.cells #[.bool false, .slice none 0 0] 60)) := (((Kept.refl w).alloc _).alloc _).alloc _
      generalize (((w.alloc (.cells #[.bool m, .slice a l cap] 60)).alloc (.cells #[.bool m2, .slice a2 l2 cap2] 60)).alloc (.cells #[.bool false, .slice none 0 0] 60)) = W at *
      obtain ⟨r0, HR0⟩ : ∃ r0, Hid (r0 = w.heap.size + 1 + 1) := ⟨_, rfl⟩
      obtain ⟨z1, HZZ1⟩ : ∃ z1, Hid (z1 = w.heap.size + 1) := ⟨_, rfl⟩
      obtain ⟨z0, HZZ0⟩ : ∃ z0, Hid (z0 = w.heap.size) := ⟨_, rfl⟩
      rw [← HR0.out] at hA2 ⊢
      rw [← HZZ1.out] at hB1 ⊢
      rw [← HZZ0.out] at hB0 ⊢
      have hrw : w.heap.size ≤ r0 := by rw [HR0.out]; omega
      have hzr : z0 ≠ r0 := by rw [HR0.out, HZZ0.out]; omega
      have hyr : z1 ≠ r0 := by rw [HR0.out, HZZ1.out]; omega
      have HRr := Lib.hid hA2
      have HZ0 := Lib.hid hB0
      have HZ1 := Lib.hid hB1
      obtain ⟨k0, k1, _, _⟩ := bx_cells hB0
      obtain ⟨l0, l1, _, _⟩ := bx_cells hB1
      clear hA0 hA1 hA2 hB0 hB1
      go_wp2_with fail
      refine (SZ.out _ (hKwW.trans (by repeat (first | assumption | exact Kept.refl _ | apply Kept.drew | apply Kept.drewN | apply Kept.alloc | refine Kept.trans ?_ (by assumption))))).mono ?_
      rintro e w3 ⟨rfl, hq3⟩
      have hk3 := hq3.kept
      go_wp2_with fail
      refine wp_region_held_drew (S := (fun w' => w'.cell? ⟨z0, 0, none⟩ = some (.bool m) ∧ w'.cell? ⟨z0, 1, none⟩ = some (.slice a l cap) ∧ w'.cell? ⟨z1, 0, none⟩ = some (.bool m2) ∧ w'.cell? ⟨z1, 1, none⟩ = some (.slice a2 l2 cap2) ∧ Kept w w')) (by kernel_rfl) ?_ (fun hHeld => ?_)
      · (try dsimp only)
        exact ⟨Kept.cellSome (w := W) (by repeat (first | assumption | exact Kept.refl _ | apply Kept.drew | apply Kept.drewN | apply Kept.alloc | refine Kept.trans ?_ (by assumption))) k0, Kept.cellSome (w := W) (by repeat (first | assumption | exact Kept.refl _ | apply Kept.drew | apply Kept.drewN | apply Kept.alloc | refine Kept.trans ?_ (by assumption))) k1, Kept.cellSome (w := W) (by repeat (first | assumption | exact Kept.refl _ | apply Kept.drew | apply Kept.drewN | apply Kept.alloc | refine Kept.trans ?_ (by assumption))) l0, Kept.cellSome (w := W) (by repeat (first | assumption | exact Kept.refl _ | apply Kept.drew | apply Kept.drewN | apply Kept.alloc | refine Kept.trans ?_ (by assumption))) l1, hKwW.trans (by repeat (first | assumption | exact Kept.refl _ | apply Kept.drew | apply Kept.drewN | apply Kept.alloc | refine Kept.trans ?_ (by assumption)))⟩
      refine wpAnyH_take (i := 0) (oi := { dst := some 25, op := Go.Op.fieldAddr 60 (Go.Operand.tmp 2) 0, type := 0, pos := "big.go:102", after := #[], guard := none }) (v := ?v8) rfl (by kernel_rfl) (by kernel_rfl) (by kernel_rfl) (fun _ _ _ h => h) (Or.inl ⟨by rfl, ?hy8⟩) (by assumption) ?rs8
      case hy8 =>
        intro w hSw
        (try dsimp only at hSw)
        go_simp
        try with_reducible rfl
      (try simp only [Act.put, List.setIfInBounds_toArray, List.set_cons_zero, List.set_cons_succ])
      refine wpAnyH_take (i := 1) (oi := { dst := some 26, op := Go.Op.load 4 (Go.Operand.tmp 25), type := 4, pos := "big.go:102", after := #[{ on := 0, ground := Go.Ground.data }], guard := none }) (v := ?v9) rfl (by kernel_rfl) (by kernel_rfl) (by kernel_rfl) (fun _ _ _ h => h) (Or.inl ⟨by rfl, ?hy9⟩) (by assumption) ?rs9
      case hy9 =>
        intro w hSw
        (try dsimp only at hSw)
        go_simp
        try with_reducible rfl
      (try simp only [Act.put, List.setIfInBounds_toArray, List.set_cons_zero, List.set_cons_succ])
      refine wpAnyH_take (i := 2) (oi := { dst := some 27, op := Go.Op.fieldAddr 60 (Go.Operand.tmp 2) 1, type := 0, pos := "big.go:102", after := #[], guard := none }) (v := ?v10) rfl (by kernel_rfl) (by kernel_rfl) (by kernel_rfl) (fun _ _ _ h => h) (Or.inl ⟨by rfl, ?hy10⟩) (by assumption) ?rs10
      case hy10 =>
        intro w hSw
        (try dsimp only at hSw)
        go_simp
        try with_reducible rfl
      (try simp only [Act.put, List.setIfInBounds_toArray, List.set_cons_zero, List.set_cons_succ])
      refine wpAnyH_take (i := 3) (oi := { dst := some 28, op := Go.Op.load 27 (Go.Operand.tmp 27), type := 27, pos := "big.go:102", after := #[{ on := 2, ground := Go.Ground.data }], guard := none }) (v := ?v11) rfl (by kernel_rfl) (by kernel_rfl) (by kernel_rfl) (fun _ _ _ h => h) (Or.inl ⟨by rfl, ?hy11⟩) (by assumption) ?rs11
      case hy11 =>
        intro w hSw
        (try dsimp only at hSw)
        go_simp
        try with_reducible rfl
      (try simp only [Act.put, List.setIfInBounds_toArray, List.set_cons_zero, List.set_cons_succ])
      refine wpAnyH_take (i := 4) (oi := { dst := some 29, op := Go.Op.fieldAddr 60 (Go.Operand.tmp 3) 1, type := 0, pos := "big.go:102", after := #[], guard := none }) (v := ?v12) rfl (by kernel_rfl) (by kernel_rfl) (by kernel_rfl) (fun _ _ _ h => h) (Or.inl ⟨by rfl, ?hy12⟩) (by assumption) ?rs12
      case hy12 =>
        intro w hSw
        (try dsimp only at hSw)
        go_simp
        try with_reducible rfl
      (try simp only [Act.put, List.setIfInBounds_toArray, List.set_cons_zero, List.set_cons_succ])
      refine wpAnyH_take (i := 5) (oi := { dst := some 30, op := Go.Op.load 27 (Go.Operand.tmp 29), type := 27, pos := "big.go:102", after := #[{ on := 4, ground := Go.Ground.data }], guard := none }) (v := ?v13) rfl (by kernel_rfl) (by kernel_rfl) (by kernel_rfl) (fun _ _ _ h => h) (Or.inl ⟨by rfl, ?hy13⟩) (by assumption) ?rs13
      case hy13 =>
        intro w hSw
        (try dsimp only at hSw)
        go_simp
        try with_reducible rfl
      (try simp only [Act.put, List.setIfInBounds_toArray, List.set_cons_zero, List.set_cons_succ])
      refine wpAnyH_ready (rs := [6]) (by kernel_rfl) (by simp) ?_
      refine AllReadyH.cons (o := { dst := some 31, op := Go.Op.call { callee := Go.Callee.value (Go.Operand.func 87), args := #[Go.Operand.tmp 28, Go.Operand.tmp 30], argTypes := #[27, 27] }, type := 27, pos := "big.go:102", after := #[{ on := 3, ground := Go.Ground.data }, { on := 5, ground := Go.Ground.data }], guard := none }) rfl (fun K2 hK2 => ?_) AllReadyH.nil
      go_simp
      (go_at_call 87; refine (PL.out _ (hKwW.trans (by repeat (first | assumption | exact Kept.refl _ | apply Kept.drew | apply Kept.drewN | apply Kept.alloc | refine Kept.trans ?_ (by assumption))))).mono ?_; rintro e w5 ⟨v5, n5, O5, rfl, hO5, hD5, hV5, hn5, hk5⟩; have hS5 := SlAt.of_own hO5; obtain ⟨va5, vc5, rfl, _⟩ := own_form hO5)
      go_wp2_with fail
      refine hK2.out _ _ ?_ (fun hHeld => ?_)
      · (try dsimp only)
        exact ⟨Kept.cellSome (w := W) (by repeat (first | assumption | exact Kept.refl _ | apply Kept.drew | apply Kept.drewN | apply Kept.alloc | refine Kept.trans ?_ (by assumption))) k0, Kept.cellSome (w := W) (by repeat (first | assumption | exact Kept.refl _ | apply Kept.drew | apply Kept.drewN | apply Kept.alloc | refine Kept.trans ?_ (by assumption))) k1, Kept.cellSome (w := W) (by repeat (first | assumption | exact Kept.refl _ | apply Kept.drew | apply Kept.drewN | apply Kept.alloc | refine Kept.trans ?_ (by assumption))) l0, Kept.cellSome (w := W) (by repeat (first | assumption | exact Kept.refl _ | apply Kept.drew | apply Kept.drewN | apply Kept.alloc | refine Kept.trans ?_ (by assumption))) l1, hKwW.trans (by repeat (first | assumption | exact Kept.refl _ | apply Kept.drew | apply Kept.drewN | apply Kept.alloc | refine Kept.trans ?_ (by assumption)))⟩
      clear hK2 K2
      (try simp only [Act.put, List.setIfInBounds_toArray, List.set_cons_zero, List.set_cons_succ])
      refine wpAnyH_take (i := 7) (oi := { dst := some 32, op := Go.Op.build 60 #[(0, Go.Operand.tmp 26), (1, Go.Operand.tmp 31)], type := 60, pos := "big.go:102", after := #[{ on := 1, ground := Go.Ground.data }, { on := 6, ground := Go.Ground.data }], guard := none }) (v := ?v14) rfl (by kernel_rfl) (by kernel_rfl) (by kernel_rfl) (fun _ _ _ h => h) (Or.inl ⟨by rfl, ?hy14⟩) (by assumption) ?rs14
      case hy14 =>
        intro w hSw
        (try dsimp only at hSw)
        go_simp
        try with_reducible rfl
      (try simp only [Act.put, List.setIfInBounds_toArray, List.set_cons_zero, List.set_cons_succ])
      refine wpAnyH_ready (rs := [8]) (by kernel_rfl) (by simp) ?_
      refine AllReadyH.cons (o := { dst := some 33, op := Go.Op.call { callee := Go.Callee.value (Go.Operand.func 84), args := #[Go.Operand.tmp 32], argTypes := #[60] }, type := 60, pos := "big.go:102", after := #[{ on := 7, ground := Go.Ground.data }, { on := 6, ground := Go.Ground.chain }], guard := none }) rfl (fun K2 hK2 => ?_) AllReadyH.nil
      go_simp
      (go_at_call 84; refine (lean_any _ m _ n5 O5 (hS5.kept (by repeat (first | assumption | exact Kept.refl _ | apply Kept.drew | apply Kept.drewN | apply Kept.alloc | refine Kept.trans ?_ (by assumption)))) hD5 (by omega) (by rw [hV5]; exact hbig.out)).mono ?_; rintro e w6 ⟨v6, rfl, hz6, hk6⟩; obtain ⟨mr, ar, nr, cr, rfl⟩ := hz6.shape)
      go_wp2_with fail
      refine hK2.out _ _ ?_ (fun hHeld => ?_)
      · (try dsimp only)
        exact ⟨Kept.cellSome (w := W) (by repeat (first | assumption | exact Kept.refl _ | apply Kept.drew | apply Kept.drewN | apply Kept.alloc | refine Kept.trans ?_ (by assumption))) k0, Kept.cellSome (w := W) (by repeat (first | assumption | exact Kept.refl _ | apply Kept.drew | apply Kept.drewN | apply Kept.alloc | refine Kept.trans ?_ (by assumption))) k1, Kept.cellSome (w := W) (by repeat (first | assumption | exact Kept.refl _ | apply Kept.drew | apply Kept.drewN | apply Kept.alloc | refine Kept.trans ?_ (by assumption))) l0, Kept.cellSome (w := W) (by repeat (first | assumption | exact Kept.refl _ | apply Kept.drew | apply Kept.drewN | apply Kept.alloc | refine Kept.trans ?_ (by assumption))) l1, hKwW.trans (by repeat (first | assumption | exact Kept.refl _ | apply Kept.drew | apply Kept.drewN | apply Kept.alloc | refine Kept.trans ?_ (by assumption)))⟩
      clear hK2 K2
      (try simp only [Act.put, List.setIfInBounds_toArray, List.set_cons_zero, List.set_cons_succ])
      have hKW6 : Kept W w6 := (by repeat (first | assumption | exact Kept.refl _ | apply Kept.drew | apply Kept.drewN | apply Kept.alloc | refine Kept.trans ?_ (by assumption)))
      have hR6 := hKW6.row HRr.out
      have hZ6 := hKW6.row HZ0.out
      have hY6 := hKW6.row HZ1.out
      obtain ⟨f0, f1, f2, f3⟩ := bx_cells hR6
      have hRF := bx_set1 (bx_set0 hR6 (.bool mr)) (.slice ar nr cr)
      have hZF := (hZ6.setOther (a := ⟨r0, 0, none⟩) hzr (.bool mr)).setOther (a := ⟨r0, 1, none⟩) hzr (.slice ar nr cr)
      have hYF := (hY6.setOther (a := ⟨r0, 0, none⟩) hyr (.bool mr)).setOther (a := ⟨r0, 1, none⟩) hyr (.slice ar nr cr)
      have hKF : Kept w ((w6.setCell ⟨r0, 0, none⟩ (.bool mr)).setCell ⟨r0, 1, none⟩ (.slice ar nr cr)) := ((hKwW.trans hKW6).setCell hrw _).setCell hrw _
      have hX : KeptX (fun k => k = r0) w6 ((w6.setCell ⟨r0, 0, none⟩ (.bool mr)).setCell ⟨r0, 1, none⟩ (.slice ar nr cr)) := ((KeptX.refl (fun k => k = r0) w6).setIn 0 _).setIn 1 _
      rw [hV5] at hz6
      have hz7 := hz6.keptBox hX hR6
      rw [hsum.out] at hz7
      have HZ7 := Lib.hid hz7
      obtain ⟨g0, g1, _, _⟩ := bx_cells hRF
      obtain ⟨q0, q1, _, _⟩ := bx_cells hZF
      obtain ⟨q2, q3, _, _⟩ := bx_cells hYF
      clear hR6 hZ6 hY6 hRF hZF hYF hX hz6 hz7 hO5 hD5 hV5 hS5
      refine wpAnyH_ready (rs := [9]) (by kernel_rfl) (by simp) ?_
      refine AllReadyH.cons (o := { dst := none, op := Go.Op.store 60 (Go.Operand.tmp 4) (Go.Operand.tmp 33), type := 0, pos := "big.go:102", after := #[{ on := 8, ground := Go.Ground.data }, { on := 8, ground := Go.Ground.chain }, { on := 0, ground := Go.Ground.phase }, { on := 1, ground := Go.Ground.phase }, { on := 2, ground := Go.Ground.phase }, { on := 3, ground := Go.Ground.phase }, { on := 4, ground := Go.Ground.phase }, { on := 5, ground := Go.Ground.phase }, { on := 6, ground := Go.Ground.phase }, { on := 7, ground := Go.Ground.phase }, { on := 8, ground := Go.Ground.phase }], guard := none }) rfl (fun K2 hK2 => ?_) AllReadyH.nil
      go_simp
      refine hK2.out _ _ ?_ (fun hHeld => ?_)
      · (try dsimp only)
        exact ⟨q0, q1, q2, q3, hKF⟩
      generalize ((w6.setCell ⟨r0, 0, none⟩ (.bool mr)).setCell ⟨r0, 1, none⟩ (.slice ar nr cr)) = WF at *
      clear hK2 K2
      (try simp only [Act.put, List.setIfInBounds_toArray, List.set_cons_zero, List.set_cons_succ])
      refine wpAnyH_done (by kernel_rfl) ?_ _
      go_wp2_with fail
      exact bodyPost_ret (v := .agg #[.bool mr, .slice ar nr cr]) (by simp [results, Try.results63, go_sem, g0, g1]) rfl ⟨_, rfl, HZ7.out, hKF⟩
    · have hC : ¬ 0 ≤ C := by
        rw [HCC.out]; unfold cmpI; rw [if_pos (by omega)]; omega
      have hll : l ≤ l2 := by
        rcases Nat.lt_or_ge l2 l with h | h
        · have := lean_len HL2.out.1 HL.out h; omega
        · exact h
      have hsum : Hid (sgnZ m2 (valZ D2 l2 - valZ D l) = Z) := by show _ = _; rw [HZZ.out, hm2v]; cases m <;> simp [sgnZ] <;> omega
      have hbig : Hid (valZ D2 l2 - valZ D l < bigN) := by show _ < _; omega
      have PL := Lib.hid (fun (W : World) (hk : Kept w W) => less_any W _ _ l2 l D2 D ((HS2.out.kept hk).ints) ((HS.out.kept hk).ints) HL2.out.1 HL.out.1 (by omega) hll (by omega))
      clear hb1 hb2 hB hm hm2 hmm hm2v hp1 hp2 hle hll
      go_enter Try.func63, Try.ntmps63
      go_wp2_with fail
      have hA0 := box_row w (.bool m) (.slice a l cap) 60 w.heap.size rfl
      have hA1 := box_row (w.alloc (.cells #[.bool m, .slice a l cap] 60)) (.bool m2) (.slice a2 l2 cap2) 60 (w.heap.size + 1) (by simp)
      have hA2 := box_row ((w.alloc (.cells #[.bool m, .slice a l cap] 60)).alloc (.cells #[.bool m2, .slice a2 l2 cap2] 60)) (.bool false) (.slice none 0 0) 60 (w.heap.size + 1 + 1) (by simp)
      have hB0 := (((Kept.refl _).alloc (.cells #[.bool m2, .slice a2 l2 cap2] 60)).alloc (.cells #[.bool false, .slice none 0 0] 60)).row hA0
      have hB1 := ((Kept.refl _).alloc (.cells #[.bool false, .slice none 0 0] 60)).row hA1
      have hKwW : Kept w (((w.alloc (.cells #[.bool m, .slice a l cap] 60)).alloc (.cells #[.bool m2, .slice a2 l2 cap2] 60)).alloc (.cells #[.bool false, .slice none 0 0] 60)) := (((Kept.refl w).alloc _).alloc _).alloc _
      generalize (((w.alloc (.cells #[.bool m, .slice a l cap] 60)).alloc (.cells #[.bool m2, .slice a2 l2 cap2] 60)).alloc (.cells #[.bool false, .slice none 0 0] 60)) = W at *
      obtain ⟨r0, HR0⟩ : ∃ r0, Hid (r0 = w.heap.size + 1 + 1) := ⟨_, rfl⟩
      obtain ⟨z1, HZZ1⟩ : ∃ z1, Hid (z1 = w.heap.size + 1) := ⟨_, rfl⟩
      obtain ⟨z0, HZZ0⟩ : ∃ z0, Hid (z0 = w.heap.size) := ⟨_, rfl⟩
      rw [← HR0.out] at hA2 ⊢
      rw [← HZZ1.out] at hB1 ⊢
      rw [← HZZ0.out] at hB0 ⊢
      have hrw : w.heap.size ≤ r0 := by rw [HR0.out]; omega
      have hzr : z0 ≠ r0 := by rw [HR0.out, HZZ0.out]; omega
      have hyr : z1 ≠ r0 := by rw [HR0.out, HZZ1.out]; omega
      have HRr := Lib.hid hA2
      have HZ0 := Lib.hid hB0
      have HZ1 := Lib.hid hB1
      obtain ⟨k0, k1, _, _⟩ := bx_cells hB0
      obtain ⟨l0, l1, _, _⟩ := bx_cells hB1
      clear hA0 hA1 hA2 hB0 hB1
      go_wp2_with fail
      refine (SZ.out _ (hKwW.trans (by repeat (first | assumption | exact Kept.refl _ | apply Kept.drew | apply Kept.drewN | apply Kept.alloc | refine Kept.trans ?_ (by assumption))))).mono ?_
      rintro e w3 ⟨rfl, hq3⟩
      have hk3 := hq3.kept
      go_wp2_with fail
      refine wp_region_held_drew (S := (fun w' => w'.cell? ⟨z0, 0, none⟩ = some (.bool m) ∧ w'.cell? ⟨z0, 1, none⟩ = some (.slice a l cap) ∧ w'.cell? ⟨z1, 0, none⟩ = some (.bool m2) ∧ w'.cell? ⟨z1, 1, none⟩ = some (.slice a2 l2 cap2) ∧ Kept w w')) (by kernel_rfl) ?_ (fun hHeld => ?_)
      · (try dsimp only)
        exact ⟨Kept.cellSome (w := W) (by repeat (first | assumption | exact Kept.refl _ | apply Kept.drew | apply Kept.drewN | apply Kept.alloc | refine Kept.trans ?_ (by assumption))) k0, Kept.cellSome (w := W) (by repeat (first | assumption | exact Kept.refl _ | apply Kept.drew | apply Kept.drewN | apply Kept.alloc | refine Kept.trans ?_ (by assumption))) k1, Kept.cellSome (w := W) (by repeat (first | assumption | exact Kept.refl _ | apply Kept.drew | apply Kept.drewN | apply Kept.alloc | refine Kept.trans ?_ (by assumption))) l0, Kept.cellSome (w := W) (by repeat (first | assumption | exact Kept.refl _ | apply Kept.drew | apply Kept.drewN | apply Kept.alloc | refine Kept.trans ?_ (by assumption))) l1, hKwW.trans (by repeat (first | assumption | exact Kept.refl _ | apply Kept.drew | apply Kept.drewN | apply Kept.alloc | refine Kept.trans ?_ (by assumption)))⟩
      refine wpAnyH_take (i := 0) (oi := { dst := some 34, op := Go.Op.fieldAddr 60 (Go.Operand.tmp 3) 0, type := 0, pos := "big.go:104", after := #[], guard := none }) (v := ?v15) rfl (by kernel_rfl) (by kernel_rfl) (by kernel_rfl) (fun _ _ _ h => h) (Or.inl ⟨by rfl, ?hy15⟩) (by assumption) ?rs15
      case hy15 =>
        intro w hSw
        (try dsimp only at hSw)
        go_simp
        try with_reducible rfl
      (try simp only [Act.put, List.setIfInBounds_toArray, List.set_cons_zero, List.set_cons_succ])
      refine wpAnyH_take (i := 1) (oi := { dst := some 35, op := Go.Op.load 4 (Go.Operand.tmp 34), type := 4, pos := "big.go:104", after := #[{ on := 0, ground := Go.Ground.data }], guard := none }) (v := ?v16) rfl (by kernel_rfl) (by kernel_rfl) (by kernel_rfl) (fun _ _ _ h => h) (Or.inl ⟨by rfl, ?hy16⟩) (by assumption) ?rs16
      case hy16 =>
        intro w hSw
        (try dsimp only at hSw)
        go_simp
        try with_reducible rfl
      (try simp only [Act.put, List.setIfInBounds_toArray, List.set_cons_zero, List.set_cons_succ])
      refine wpAnyH_take (i := 2) (oi := { dst := some 36, op := Go.Op.fieldAddr 60 (Go.Operand.tmp 3) 1, type := 0, pos := "big.go:104", after := #[], guard := none }) (v := ?v17) rfl (by kernel_rfl) (by kernel_rfl) (by kernel_rfl) (fun _ _ _ h => h) (Or.inl ⟨by rfl, ?hy17⟩) (by assumption) ?rs17
      case hy17 =>
        intro w hSw
        (try dsimp only at hSw)
        go_simp
        try with_reducible rfl
      (try simp only [Act.put, List.setIfInBounds_toArray, List.set_cons_zero, List.set_cons_succ])
      refine wpAnyH_take (i := 3) (oi := { dst := some 37, op := Go.Op.load 27 (Go.Operand.tmp 36), type := 27, pos := "big.go:104", after := #[{ on := 2, ground := Go.Ground.data }], guard := none }) (v := ?v18) rfl (by kernel_rfl) (by kernel_rfl) (by kernel_rfl) (fun _ _ _ h => h) (Or.inl ⟨by rfl, ?hy18⟩) (by assumption) ?rs18
      case hy18 =>
        intro w hSw
        (try dsimp only at hSw)
        go_simp
        try with_reducible rfl
      (try simp only [Act.put, List.setIfInBounds_toArray, List.set_cons_zero, List.set_cons_succ])
      refine wpAnyH_take (i := 4) (oi := { dst := some 38, op := Go.Op.fieldAddr 60 (Go.Operand.tmp 2) 1, type := 0, pos := "big.go:104", after := #[], guard := none }) (v := ?v19) rfl (by kernel_rfl) (by kernel_rfl) (by kernel_rfl) (fun _ _ _ h => h) (Or.inl ⟨by rfl, ?hy19⟩) (by assumption) ?rs19
      case hy19 =>
        intro w hSw
        (try dsimp only at hSw)
        go_simp
        try with_reducible rfl
      (try simp only [Act.put, List.setIfInBounds_toArray, List.set_cons_zero, List.set_cons_succ])
      refine wpAnyH_take (i := 5) (oi := { dst := some 39, op := Go.Op.load 27 (Go.Operand.tmp 38), type := 27, pos := "big.go:104", after := #[{ on := 4, ground := Go.Ground.data }], guard := none }) (v := ?v20) rfl (by kernel_rfl) (by kernel_rfl) (by kernel_rfl) (fun _ _ _ h => h) (Or.inl ⟨by rfl, ?hy20⟩) (by assumption) ?rs20
      case hy20 =>
        intro w hSw
        (try dsimp only at hSw)
        go_simp
        try with_reducible rfl
      (try simp only [Act.put, List.setIfInBounds_toArray, List.set_cons_zero, List.set_cons_succ])
      refine wpAnyH_ready (rs := [6]) (by kernel_rfl) (by simp) ?_
      refine AllReadyH.cons (o := { dst := some 40, op := Go.Op.call { callee := Go.Callee.value (Go.Operand.func 87), args := #[Go.Operand.tmp 37, Go.Operand.tmp 39], argTypes := #[27, 27] }, type := 27, pos := "big.go:104", after := #[{ on := 3, ground := Go.Ground.data }, { on := 5, ground := Go.Ground.data }], guard := none }) rfl (fun K2 hK2 => ?_) AllReadyH.nil
      go_simp
      (go_at_call 87; refine (PL.out _ (hKwW.trans (by repeat (first | assumption | exact Kept.refl _ | apply Kept.drew | apply Kept.drewN | apply Kept.alloc | refine Kept.trans ?_ (by assumption))))).mono ?_; rintro e w5 ⟨v5, n5, O5, rfl, hO5, hD5, hV5, hn5, hk5⟩; have hS5 := SlAt.of_own hO5; obtain ⟨va5, vc5, rfl, _⟩ := own_form hO5)
      go_wp2_with fail
      refine hK2.out _ _ ?_ (fun hHeld => ?_)
      · (try dsimp only)
        exact ⟨Kept.cellSome (w := W) (by repeat (first | assumption | exact Kept.refl _ | apply Kept.drew | apply Kept.drewN | apply Kept.alloc | refine Kept.trans ?_ (by assumption))) k0, Kept.cellSome (w := W) (by repeat (first | assumption | exact Kept.refl _ | apply Kept.drew | apply Kept.drewN | apply Kept.alloc | refine Kept.trans ?_ (by assumption))) k1, Kept.cellSome (w := W) (by repeat (first | assumption | exact Kept.refl _ | apply Kept.drew | apply Kept.drewN | apply Kept.alloc | refine Kept.trans ?_ (by assumption))) l0, Kept.cellSome (w := W) (by repeat (first | assumption | exact Kept.refl _ | apply Kept.drew | apply Kept.drewN | apply Kept.alloc | refine Kept.trans ?_ (by assumption))) l1, hKwW.trans (by repeat (first | assumption | exact Kept.refl _ | apply Kept.drew | apply Kept.drewN | apply Kept.alloc | refine Kept.trans ?_ (by assumption)))⟩
      clear hK2 K2
      (try simp only [Act.put, List.setIfInBounds_toArray, List.set_cons_zero, List.set_cons_succ])
      refine wpAnyH_take (i := 7) (oi := { dst := some 41, op := Go.Op.build 60 #[(0, Go.Operand.tmp 35), (1, Go.Operand.tmp 40)], type := 60, pos := "big.go:104", after := #[{ on := 1, ground := Go.Ground.data }, { on := 6, ground := Go.Ground.data }], guard := none }) (v := ?v21) rfl (by kernel_rfl) (by kernel_rfl) (by kernel_rfl) (fun _ _ _ h => h) (Or.inl ⟨by rfl, ?hy21⟩) (by assumption) ?rs21
      case hy21 =>
        intro w hSw
        (try dsimp only at hSw)
        go_simp
        try with_reducible rfl
      (try simp only [Act.put, List.setIfInBounds_toArray, List.set_cons_zero, List.set_cons_succ])
      refine wpAnyH_ready (rs := [8]) (by kernel_rfl) (by simp) ?_
      refine AllReadyH.cons (o := { dst := some 42, op := Go.Op.call { callee := Go.Callee.value (Go.Operand.func 84), args := #[Go.Operand.tmp 41], argTypes := #[60] }, type := 60, pos := "big.go:104", after := #[{ on := 7, ground := Go.Ground.data }, { on := 6, ground := Go.Ground.chain }], guard := none }) rfl (fun K2 hK2 => ?_) AllReadyH.nil
      go_simp
      (go_at_call 84; refine (lean_any _ m2 _ n5 O5 (hS5.kept (by repeat (first | assumption | exact Kept.refl _ | apply Kept.drew | apply Kept.drewN | apply Kept.alloc | refine Kept.trans ?_ (by assumption)))) hD5 (by omega) (by rw [hV5]; exact hbig.out)).mono ?_; rintro e w6 ⟨v6, rfl, hz6, hk6⟩; obtain ⟨mr, ar, nr, cr, rfl⟩ := hz6.shape)
      go_wp2_with fail
      refine hK2.out _ _ ?_ (fun hHeld => ?_)
      · (try dsimp only)
        exact ⟨Kept.cellSome (w := W) (by repeat (first | assumption | exact Kept.refl _ | apply Kept.drew | apply Kept.drewN | apply Kept.alloc | refine Kept.trans ?_ (by assumption))) k0, Kept.cellSome (w := W) (by repeat (first | assumption | exact Kept.refl _ | apply Kept.drew | apply Kept.drewN | apply Kept.alloc | refine Kept.trans ?_ (by assumption))) k1, Kept.cellSome (w := W) (by repeat (first | assumption | exact Kept.refl _ | apply Kept.drew | apply Kept.drewN | apply Kept.alloc | refine Kept.trans ?_ (by assumption))) l0, Kept.cellSome (w := W) (by repeat (first | assumption | exact Kept.refl _ | apply Kept.drew | apply Kept.drewN | apply Kept.alloc | refine Kept.trans ?_ (by assumption))) l1, hKwW.trans (by repeat (first | assumption | exact Kept.refl _ | apply Kept.drew | apply Kept.drewN | apply Kept.alloc | refine Kept.trans ?_ (by assumption)))⟩
      clear hK2 K2
      (try simp only [Act.put, List.setIfInBounds_toArray, List.set_cons_zero, List.set_cons_succ])
      have hKW6 : Kept W w6 := (by repeat (first | assumption | exact Kept.refl _ | apply Kept.drew | apply Kept.drewN | apply Kept.alloc | refine Kept.trans ?_ (by assumption)))
      have hR6 := hKW6.row HRr.out
      have hZ6 := hKW6.row HZ0.out
      have hY6 := hKW6.row HZ1.out
      obtain ⟨f0, f1, f2, f3⟩ := bx_cells hR6
      have hRF := bx_set1 (bx_set0 hR6 (.bool mr)) (.slice ar nr cr)
      have hZF := (hZ6.setOther (a := ⟨r0, 0, none⟩) hzr (.bool mr)).setOther (a := ⟨r0, 1, none⟩) hzr (.slice ar nr cr)
      have hYF := (hY6.setOther (a := ⟨r0, 0, none⟩) hyr (.bool mr)).setOther (a := ⟨r0, 1, none⟩) hyr (.slice ar nr cr)
      have hKF : Kept w ((w6.setCell ⟨r0, 0, none⟩ (.bool mr)).setCell ⟨r0, 1, none⟩ (.slice ar nr cr)) := ((hKwW.trans hKW6).setCell hrw _).setCell hrw _
      have hX : KeptX (fun k => k = r0) w6 ((w6.setCell ⟨r0, 0, none⟩ (.bool mr)).setCell ⟨r0, 1, none⟩ (.slice ar nr cr)) := ((KeptX.refl (fun k => k = r0) w6).setIn 0 _).setIn 1 _
      rw [hV5] at hz6
      have hz7 := hz6.keptBox hX hR6
      rw [hsum.out] at hz7
      have HZ7 := Lib.hid hz7
      obtain ⟨g0, g1, _, _⟩ := bx_cells hRF
      obtain ⟨q0, q1, _, _⟩ := bx_cells hZF
      obtain ⟨q2, q3, _, _⟩ := bx_cells hYF
      clear hR6 hZ6 hY6 hRF hZF hYF hX hz6 hz7 hO5 hD5 hV5 hS5
      refine wpAnyH_ready (rs := [9]) (by kernel_rfl) (by simp) ?_
      refine AllReadyH.cons (o := { dst := none, op := Go.Op.store 60 (Go.Operand.tmp 4) (Go.Operand.tmp 42), type := 0, pos := "big.go:104", after := #[{ on := 8, ground := Go.Ground.data }, { on := 8, ground := Go.Ground.chain }, { on := 0, ground := Go.Ground.phase }, { on := 1, ground := Go.Ground.phase }, { on := 2, ground := Go.Ground.phase }, { on := 3, ground := Go.Ground.phase }, { on := 4, ground := Go.Ground.phase }, { on := 5, ground := Go.Ground.phase }, { on := 6, ground := Go.Ground.phase }, { on := 7, ground := Go.Ground.phase }, { on := 8, ground := Go.Ground.phase }], guard := none }) rfl (fun K2 hK2 => ?_) AllReadyH.nil
      go_simp
      refine hK2.out _ _ ?_ (fun hHeld => ?_)
      · (try dsimp only)
        exact ⟨q0, q1, q2, q3, hKF⟩
      generalize ((w6.setCell ⟨r0, 0, none⟩ (.bool mr)).setCell ⟨r0, 1, none⟩ (.slice ar nr cr)) = WF at *
      clear hK2 K2
      (try simp only [Act.put, List.setIfInBounds_toArray, List.set_cons_zero, List.set_cons_succ])
      refine wpAnyH_done (by kernel_rfl) ?_ _
      go_wp2_with fail
      exact bodyPost_ret (v := .agg #[.bool mr, .slice ar nr cr]) (by simp [results, Try.results63, go_sem, g0, g1]) rfl ⟨_, rfl, HZ7.out, hKF⟩
end Go.Proofs.Ytomnjcjipdnnfaa
