/-
  The reference's Num and Is, of fractions above 0.
-/
import Derived.Test.YthigeafojekclaaDoorUg
import Derived.Test.YthigeafojekclaaDoorQs
namespace Go.Proofs.YthigeafojekclaaDoor.Num
open Go.RowKit Go.Deep

theorem fig_any (w : World) (v : Value) (x : Int) (hZ : ZAt w v x) (hx : 0 < x) : Calls Tryd.prog 46 #[v] w (FigPost w x) := by
  obtain ⟨m, a, l, c, rfl⟩ := hZ.shape
  obtain ⟨rfl, n, D, hS, hL, hv, hn⟩ := hZ.pos (by omega)
  have h0 : 0 < n := by
    rcases Nat.eq_zero_or_pos n with h | h
    · subst h; simp [valZ] at hv; omega
    · exact h
  have := figures_pos w _ n D false hS hL hn h0
  rwa [hv] at this
theorem dec_one : DecL [49] 1 := ⟨fun b hb => by simp at hb; subst hb; decide, by simp [decV], by simp, by simp⟩
set_option maxRecDepth 100000 in
set_option maxHeartbeats 8000000 in
theorem NumF_any (w : World) (v : Value) (x y : Int) (lx ly : List UInt8) (hX : QAt w v x y) (hg : (Int.gcd x y : Int) = 1) (hx0 : 0 < x) (hx1 : x < 10 ^ 60) (hy0 : 0 < y) (hy1 : y < 10 ^ 60) (hlx : DecL lx x) (hly : DecL ly y) (hcx : lx.length ≤ 100) (hcy : ly.length ≤ 100) :
    Calls Tryd.prog 31 #[v] w fun e w' => e = .returned (.tuple #[.string (if y = 1 then strL lx else strL lx ++ (⟨#[47]⟩ ++ strL ly)), .bool true]) ∧ Kept w w' := by
  obtain ⟨TT, HTT⟩ : ∃ TT, Hid (TT = if y = 1 then strL lx else strL lx ++ (⟨#[47]⟩ ++ strL ly)) := ⟨_, rfl⟩
  rw [← HTT.out]
  have hbn : (10 : Int) ^ 60 * 10000 < bigN := by
    have h1 : (10000 : Int) ^ 20 ≤ bigN := pw_le (by omega)
    omega
  obtain ⟨m0, a0, l0, c0, m1, a1, l1, c1, rfl, _, _⟩ := hX.shape
  have hl := Lowest_any
  have HX := Lib.hid hX
  have hb0 := box_row4 w (.bool m0) (.slice a0 l0 c0) (.bool m1) (.slice a1 l1 c1) 39 w.heap.size rfl
  have hk0 : Kept w (w.alloc (.cells #[.bool m0, .slice a0 l0 c0, .bool m1, .slice a1 l1 c1] 39)) := (Kept.refl w).alloc _
  clear hX hl
  go_enter Tryd.func31, Tryd.ntmps31
  go_wp2_with fail
  obtain ⟨z0, HZ0⟩ : ∃ z, Hid (z = w.heap.size) := ⟨_, rfl⟩
  rw [← HZ0.out] at hb0 ⊢
  have hzw : w.heap.size ≤ z0 := by rw [HZ0.out]; exact Nat.le_refl _
  generalize w.alloc (.cells #[.bool m0, .slice a0 l0 c0, .bool m1, .slice a1 l1 c1] 39) = W0 at *
  clear HZ0
  refine (Lowest_any _ _ x y (HX.out.kept hk0) (by omega) (by omega) (by omega) (by omega)).mono ?_
  rw [hg, Int.ediv_one, Int.ediv_one]
  rintro e w3 ⟨v3, rfl, hq3, hk3⟩
  obtain ⟨mm, a, l, c, mm2, a2, l2, c2, rfl, hn3, hd3⟩ := hq3.shape
  obtain ⟨rfl, _⟩ := hn3.pos (by omega)
  obtain ⟨rfl, _⟩ := hd3.pos (by omega)
  have hb3 := hk3.row hb0
  obtain ⟨f0, f1, f2, f3, f4, f5, f6, f7⟩ := bx4_cells hb3
  have hX3 : KeptX (fun k => k = z0) w3 ((((w3.setCell ⟨z0, 0, none⟩ (.bool false)).setCell ⟨z0, 1, none⟩ (.slice a l c)).setCell ⟨z0, 2, none⟩ (.bool false)).setCell ⟨z0, 3, none⟩ (.slice a2 l2 c2)) := ((((KeptX.refl (fun k => k = z0) w3).setIn 0 _).setIn 1 _).setIn 2 _).setIn 3 _
  have HN := Lib.hid (hn3.keptBoxN hX3 hb3 (bx4_noint _ _ _ _ _ _ _ _))
  have HD := Lib.hid (hd3.keptBoxN hX3 hb3 (bx4_noint _ _ _ _ _ _ _ _))
  have hKw : Kept w ((((w3.setCell ⟨z0, 0, none⟩ (.bool false)).setCell ⟨z0, 1, none⟩ (.slice a l c)).setCell ⟨z0, 2, none⟩ (.bool false)).setCell ⟨z0, 3, none⟩ (.slice a2 l2 c2)) := (((((hk0.trans hk3).setCell hzw _).setCell hzw _).setCell hzw _).setCell hzw _)
  obtain ⟨p0, p1, p2, p3, _⟩ := bx4_cells (bx4_set hb3 (.bool false) (.slice a l c) (.bool false) (.slice a2 l2 c2))
  clear hb3 hb0 hX3 hq3 hn3 hd3 hk0 hk3
  go_wp2_with fail
  generalize ((((w3.setCell ⟨z0, 0, none⟩ (.bool false)).setCell ⟨z0, 1, none⟩ (.slice a l c)).setCell ⟨z0, 2, none⟩ (.bool false)).setCell ⟨z0, 3, none⟩ (.slice a2 l2 c2)) = W at *
  clear f0 f1 f2 f3 f4 f5 f6 f7
  try go_wp2_with fail
  refine wp_region_held_drew (S := (fun w' => w'.cell? ⟨z0, 0, none⟩ = some (.bool false) ∧ w'.cell? ⟨z0, 1, none⟩ = some (.slice a l c) ∧ w'.cell? ⟨z0, 2, none⟩ = some (.bool false) ∧ w'.cell? ⟨z0, 3, none⟩ = some (.slice a2 l2 c2) ∧ Kept w w')) (by kernel_rfl) ?_ (fun hHeld => ?_)
  · (try dsimp only)
    exact ⟨Kept.cellSome (w := W) (by repeat (first | assumption | exact Kept.refl _ | apply Kept.drew | apply Kept.drewN | apply Kept.alloc | refine Kept.trans ?_ (by assumption))) p0, Kept.cellSome (w := W) (by repeat (first | assumption | exact Kept.refl _ | apply Kept.drew | apply Kept.drewN | apply Kept.alloc | refine Kept.trans ?_ (by assumption))) p1, Kept.cellSome (w := W) (by repeat (first | assumption | exact Kept.refl _ | apply Kept.drew | apply Kept.drewN | apply Kept.alloc | refine Kept.trans ?_ (by assumption))) p2, Kept.cellSome (w := W) (by repeat (first | assumption | exact Kept.refl _ | apply Kept.drew | apply Kept.drewN | apply Kept.alloc | refine Kept.trans ?_ (by assumption))) p3, hKw.trans (by repeat (first | assumption | exact Kept.refl _ | apply Kept.drew | apply Kept.drewN | apply Kept.alloc | refine Kept.trans ?_ (by assumption)))⟩
  refine wpAnyH_take (i := 0) (oi := { dst := some 8, op := Go.Op.fieldAddr 39 (Go.Operand.tmp 1) 0, type := 0, pos := "num.go:97", after := #[], guard := none }) (v := ?v22) rfl (by kernel_rfl) (by kernel_rfl) (by kernel_rfl) (fun _ _ _ h => h) (Or.inl ⟨by rfl, ?hy22⟩) (by assumption) ?rs22
  case hy22 =>
    intro w hSw
    (try dsimp only at hSw)
    go_simp
    try with_reducible rfl
  (try simp only [Act.put, List.setIfInBounds_toArray, List.set_cons_zero, List.set_cons_succ])
  refine wpAnyH_take (i := 1) (oi := { dst := some 9, op := Go.Op.load 37 (Go.Operand.tmp 8), type := 37, pos := "num.go:97", after := #[{ on := 0, ground := Go.Ground.data }], guard := none }) (v := ?v23) rfl (by kernel_rfl) (by kernel_rfl) (by kernel_rfl) (fun _ _ _ h => h) (Or.inl ⟨by rfl, ?hy23⟩) (by assumption) ?rs23
  case hy23 =>
    intro w hSw
    (try dsimp only at hSw)
    go_simp
    try with_reducible rfl
  (try simp only [Act.put, List.setIfInBounds_toArray, List.set_cons_zero, List.set_cons_succ])
  refine wpAnyH_take (i := 4) (oi := { dst := some 12, op := Go.Op.fieldAddr 39 (Go.Operand.tmp 1) 1, type := 0, pos := "num.go:97", after := #[], guard := none }) (v := ?v24) rfl (by kernel_rfl) (by kernel_rfl) (by kernel_rfl) (fun _ _ _ h => h) (Or.inl ⟨by rfl, ?hy24⟩) (by assumption) ?rs24
  case hy24 =>
    intro w hSw
    (try dsimp only at hSw)
    go_simp
    try with_reducible rfl
  (try simp only [Act.put, List.setIfInBounds_toArray, List.set_cons_zero, List.set_cons_succ])
  refine wpAnyH_take (i := 5) (oi := { dst := some 13, op := Go.Op.load 37 (Go.Operand.tmp 12), type := 37, pos := "num.go:97", after := #[{ on := 4, ground := Go.Ground.data }], guard := none }) (v := ?v25) rfl (by kernel_rfl) (by kernel_rfl) (by kernel_rfl) (fun _ _ _ h => h) (Or.inl ⟨by rfl, ?hy25⟩) (by assumption) ?rs25
  case hy25 =>
    intro w hSw
    (try dsimp only at hSw)
    go_simp
    try with_reducible rfl
  (try simp only [Act.put, List.setIfInBounds_toArray, List.set_cons_zero, List.set_cons_succ])
  refine wpAnyH_ready (rs := [2]) (by kernel_rfl) (by simp) ?_
  refine AllReadyH.cons (o := { dst := some 10, op := Go.Op.call { callee := Go.Callee.value (Go.Operand.func 47), args := #[Go.Operand.tmp 9], argTypes := #[37] }, type := 37, pos := "num.go:97", after := #[{ on := 1, ground := Go.Ground.data }], guard := none }) rfl (fun K2 hK2 => ?_) AllReadyH.nil
  go_simp
  (go_at_call 47; refine (Abs_any _ _ x x (HN.out.kept (by repeat (first | assumption | exact Kept.refl _ | apply Kept.drew | apply Kept.drewN | apply Kept.alloc | refine Kept.trans ?_ (by assumption)))) (by omega)).mono ?_; rintro e w5 ⟨v5, rfl, hz5, hk5⟩; obtain ⟨m5, a5, l5, c5, rfl⟩ := hz5.shape)
  go_wp2_with fail
  refine hK2.out _ _ ?_ (fun hHeld => ?_)
  · (try dsimp only)
    exact ⟨Kept.cellSome (w := W) (by repeat (first | assumption | exact Kept.refl _ | apply Kept.drew | apply Kept.drewN | apply Kept.alloc | refine Kept.trans ?_ (by assumption))) p0, Kept.cellSome (w := W) (by repeat (first | assumption | exact Kept.refl _ | apply Kept.drew | apply Kept.drewN | apply Kept.alloc | refine Kept.trans ?_ (by assumption))) p1, Kept.cellSome (w := W) (by repeat (first | assumption | exact Kept.refl _ | apply Kept.drew | apply Kept.drewN | apply Kept.alloc | refine Kept.trans ?_ (by assumption))) p2, Kept.cellSome (w := W) (by repeat (first | assumption | exact Kept.refl _ | apply Kept.drew | apply Kept.drewN | apply Kept.alloc | refine Kept.trans ?_ (by assumption))) p3, hKw.trans (by repeat (first | assumption | exact Kept.refl _ | apply Kept.drew | apply Kept.drewN | apply Kept.alloc | refine Kept.trans ?_ (by assumption)))⟩
  clear hK2 K2
  (try simp only [Act.put, List.setIfInBounds_toArray, List.set_cons_zero, List.set_cons_succ])
  refine wpAnyH_ready (rs := [3]) (by kernel_rfl) (by simp) ?_
  refine AllReadyH.cons (o := { dst := some 11, op := Go.Op.call { callee := Go.Callee.value (Go.Operand.func 46), args := #[Go.Operand.tmp 10], argTypes := #[37] }, type := 9, pos := "num.go:97", after := #[{ on := 2, ground := Go.Ground.data }, { on := 2, ground := Go.Ground.chain }], guard := none }) rfl (fun K2 hK2 => ?_) AllReadyH.nil
  go_simp
  (go_at_call 46; refine (fig_any _ _ x (hz5.kept (by repeat (first | assumption | exact Kept.refl _ | apply Kept.drew | apply Kept.drewN | apply Kept.alloc | refine Kept.trans ?_ (by assumption)))) hx0).mono ?_; rintro e w6 ⟨s6, rfl, hf6, hk6⟩)
  go_wp2_with fail
  refine hK2.out _ _ ?_ (fun hHeld => ?_)
  · (try dsimp only)
    exact ⟨Kept.cellSome (w := W) (by repeat (first | assumption | exact Kept.refl _ | apply Kept.drew | apply Kept.drewN | apply Kept.alloc | refine Kept.trans ?_ (by assumption))) p0, Kept.cellSome (w := W) (by repeat (first | assumption | exact Kept.refl _ | apply Kept.drew | apply Kept.drewN | apply Kept.alloc | refine Kept.trans ?_ (by assumption))) p1, Kept.cellSome (w := W) (by repeat (first | assumption | exact Kept.refl _ | apply Kept.drew | apply Kept.drewN | apply Kept.alloc | refine Kept.trans ?_ (by assumption))) p2, Kept.cellSome (w := W) (by repeat (first | assumption | exact Kept.refl _ | apply Kept.drew | apply Kept.drewN | apply Kept.alloc | refine Kept.trans ?_ (by assumption))) p3, hKw.trans (by repeat (first | assumption | exact Kept.refl _ | apply Kept.drew | apply Kept.drewN | apply Kept.alloc | refine Kept.trans ?_ (by assumption)))⟩
  clear hK2 K2
  (try simp only [Act.put, List.setIfInBounds_toArray, List.set_cons_zero, List.set_cons_succ])
  refine wpAnyH_ready (rs := [6]) (by kernel_rfl) (by simp) ?_
  refine AllReadyH.cons (o := { dst := some 14, op := Go.Op.call { callee := Go.Callee.value (Go.Operand.func 46), args := #[Go.Operand.tmp 13], argTypes := #[37] }, type := 9, pos := "num.go:97", after := #[{ on := 5, ground := Go.Ground.data }, { on := 3, ground := Go.Ground.chain }], guard := none }) rfl (fun K2 hK2 => ?_) AllReadyH.nil
  go_simp
  (go_at_call 46; refine (fig_any _ _ y (HD.out.kept (by repeat (first | assumption | exact Kept.refl _ | apply Kept.drew | apply Kept.drewN | apply Kept.alloc | refine Kept.trans ?_ (by assumption)))) (by omega)).mono ?_; rintro e w7 ⟨s7, rfl, hf7, hk7⟩)
  go_wp2_with fail
  refine hK2.out _ _ ?_ (fun hHeld => ?_)
  · (try dsimp only)
    exact ⟨Kept.cellSome (w := W) (by repeat (first | assumption | exact Kept.refl _ | apply Kept.drew | apply Kept.drewN | apply Kept.alloc | refine Kept.trans ?_ (by assumption))) p0, Kept.cellSome (w := W) (by repeat (first | assumption | exact Kept.refl _ | apply Kept.drew | apply Kept.drewN | apply Kept.alloc | refine Kept.trans ?_ (by assumption))) p1, Kept.cellSome (w := W) (by repeat (first | assumption | exact Kept.refl _ | apply Kept.drew | apply Kept.drewN | apply Kept.alloc | refine Kept.trans ?_ (by assumption))) p2, Kept.cellSome (w := W) (by repeat (first | assumption | exact Kept.refl _ | apply Kept.drew | apply Kept.drewN | apply Kept.alloc | refine Kept.trans ?_ (by assumption))) p3, hKw.trans (by repeat (first | assumption | exact Kept.refl _ | apply Kept.drew | apply Kept.drewN | apply Kept.alloc | refine Kept.trans ?_ (by assumption)))⟩
  clear hK2 K2
  (try simp only [Act.put, List.setIfInBounds_toArray, List.set_cons_zero, List.set_cons_succ])
  refine wpAnyH_take (i := 7) (oi := { dst := some 4, op := Go.Op.assign (Go.Operand.tmp 11), type := 9, pos := "num.go:97", after := #[{ on := 3, ground := Go.Ground.data }, { on := 6, ground := Go.Ground.chain }, { on := 0, ground := Go.Ground.phase }, { on := 1, ground := Go.Ground.phase }, { on := 2, ground := Go.Ground.phase }, { on := 3, ground := Go.Ground.phase }, { on := 4, ground := Go.Ground.textOnly Go.Departure.lateStores }, { on := 5, ground := Go.Ground.textOnly Go.Departure.lateStores }, { on := 6, ground := Go.Ground.textOnly Go.Departure.lateStoresUnsure }], guard := none }) (v := ?v26) rfl (by kernel_rfl) (by kernel_rfl) (by kernel_rfl) (fun _ _ _ h => h) (Or.inl ⟨by rfl, ?hy26⟩) (by assumption) ?rs26
  case hy26 =>
    intro w hSw
    (try dsimp only at hSw)
    go_simp
    try with_reducible rfl
  (try simp only [Act.put, List.setIfInBounds_toArray, List.set_cons_zero, List.set_cons_succ])
  refine wpAnyH_take (i := 8) (oi := { dst := some 5, op := Go.Op.assign (Go.Operand.tmp 14), type := 9, pos := "num.go:97", after := #[{ on := 6, ground := Go.Ground.data }, { on := 7, ground := Go.Ground.chain }, { on := 0, ground := Go.Ground.phase }, { on := 1, ground := Go.Ground.phase }, { on := 2, ground := Go.Ground.phase }, { on := 3, ground := Go.Ground.phase }, { on := 4, ground := Go.Ground.phase }, { on := 5, ground := Go.Ground.phase }, { on := 6, ground := Go.Ground.phase }, { on := 7, ground := Go.Ground.phase }], guard := none }) (v := ?v27) rfl (by kernel_rfl) (by kernel_rfl) (by kernel_rfl) (fun _ _ _ h => h) (Or.inl ⟨by rfl, ?hy27⟩) (by assumption) ?rs27
  case hy27 =>
    intro w hSw
    (try dsimp only at hSw)
    go_simp
    try with_reducible rfl
  (try simp only [Act.put, List.setIfInBounds_toArray, List.set_cons_zero, List.set_cons_succ])
  refine wpAnyH_done (by kernel_rfl) ?_ _
  have y0 := Kept.cellSome (w := W) (show Kept W w7 from (by repeat (first | assumption | exact Kept.refl _ | apply Kept.drew | apply Kept.drewN | apply Kept.alloc | refine Kept.trans ?_ (by assumption)))) p0
  have hKF : Kept w w7 := hKw.trans (by repeat (first | assumption | exact Kept.refl _ | apply Kept.drew | apply Kept.drewN | apply Kept.alloc | refine Kept.trans ?_ (by assumption)))
  obtain rfl := hf6.same hlx
  obtain rfl := hf7.same hly
  have n6 : (strL s6).size = s6.length := strL_size s6
  have n7 : (strL s7).size = s7.length := strL_size s7
  have c6' : ¬ (4000 : Int) < (s6.length : Int) := by omega
  have c7' : ¬ (4000 : Int) < (s7.length : Int) := by omega
  by_cases hy : y = 1
  · subst hy
    have HT1 : Hid (TT = strL s6) := by show _ = _; rw [HTT.out, if_pos rfl]
    clear HTT
    have e7 : strL s7 = ⟨#[49]⟩ := by rw [hf7.same dec_one]; rfl
    have n8 : (⟨#[49]⟩ : ByteArray).size = 1 := rfl
    have c8' : ¬ (4000 : Int) < (1 : Int) := by omega
    rw [e7] at n7
    rw [e7]
    clear hf6 hf7 e7
    go_wp2_with fail
    go_ret2
    exact ⟨by rw [HT1.out]; rfl, hKF⟩
  · have hne : ((strL s7).toList == (⟨#[49]⟩ : ByteArray).toList) = false := by
      refine beq_no (fun e => hy ?_)
      have h2 : s7 = [49] := by
        have e2 : (strL s7).data.toList = [49] := by rw [e]
        simpa [strL] using e2
      rw [h2] at hf7
      have h3 := hf7.2.1
      have h4 := dec_one.2.1
      rw [h4] at h3
      exact h3.symm
    have e49 : (⟨#[49]⟩ : ByteArray).toList = [49] := by rw [Lib.toList_data]
    have hne2 := hne
    rw [e49] at hne2
    clear e49
    have HT2 : Hid (TT = strL s6 ++ (⟨#[47]⟩ ++ strL s7)) := by show _ = _; rw [HTT.out, if_neg hy]
    clear HTT
    have q1 : ¬ 9223372036854775807 < 1 + s7.length := by omega
    have q2 : ¬ 9223372036854775807 < s6.length + (1 + s7.length) := by omega
    clear hf6 hf7
    generalize strL s7 = S7 at *
    generalize strL s6 = S6 at *
    go_wp2_with fail
    go_ret2
    exact ⟨by rw [HT2.out]; rfl, hKF⟩
set_option maxRecDepth 100000 in
set_option maxHeartbeats 4000000 in
theorem IsF_any (w : World) (v : Value) (x y : Int) (lx ly : List UInt8) (hX : QAt w v x y) (hg : (Int.gcd x y : Int) = 1) (hx0 : 0 < x) (hx1 : x < 10 ^ 60) (hy0 : 0 < y) (hy1 : y < 10 ^ 60) (hlx : DecL lx x) (hly : DecL ly y) (hcx : lx.length ≤ 100) (hcy : ly.length ≤ 100) :
    Calls Tryd.prog 15 #[.string (if y = 1 then strL lx else strL lx ++ (⟨#[47]⟩ ++ strL ly)), v] w fun e w' => e = .returned (.bool true) ∧ Kept w w' := by
  have NF := Lib.hid (fun W h => NumF_any W v x y lx ly h hg hx0 hx1 hy0 hy1 hlx hly hcx hcy)
  obtain ⟨m0, a0, l0, c0, m1, a1, l1, c1, rfl, _, _⟩ := hX.shape
  have HX := Lib.hid hX
  have hk0 : Kept w (w.alloc (.cells #[.bool m0, .slice a0 l0 c0, .bool m1, .slice a1 l1 c1] 39)) := (Kept.refl w).alloc _
  clear hX
  generalize (if y = 1 then strL lx else strL lx ++ (⟨#[47]⟩ ++ strL ly)) = T at *
  have hTT : (T.toList == T.toList) = true := by simp
  go_enter Tryd.func15, Tryd.ntmps15
  go_wp2_with fail
  refine (NF.out _ (HX.out.kept hk0)).mono ?_
  rintro e w3 ⟨rfl, hk3⟩
  go_wp2_with fail
  go_ret
  exact ⟨rfl, hk0.trans hk3⟩
theorem coprime_div {x y g : Int} (hx : 0 < x) (hy : 0 < y) (hg : g = (Int.gcd x y : Int)) : (Int.gcd (x / g) (y / g) : Int) = 1 := by
  obtain ⟨a, rfl⟩ : ∃ a : Nat, x = a := ⟨x.toNat, by omega⟩
  obtain ⟨b, rfl⟩ : ∃ b : Nat, y = b := ⟨y.toNat, by omega⟩
  rw [hg]
  show ((Int.gcd ((a : Int) / ((Nat.gcd a b : Nat) : Int)) ((b : Int) / ((Nat.gcd a b : Nat) : Int)) : Nat) : Int) = 1
  have h1 : (a : Int) / ((Nat.gcd a b : Nat) : Int) = ((a / Nat.gcd a b : Nat) : Int) := by simp
  have h2 : (b : Int) / ((Nat.gcd a b : Nat) : Int) = ((b / Nat.gcd a b : Nat) : Int) := by simp
  rw [h1, h2]
  show ((Nat.gcd (a / Nat.gcd a b) (b / Nat.gcd a b) : Nat) : Int) = 1
  have h3 : 0 < Nat.gcd a b := Nat.gcd_pos_of_pos_left _ (by omega)
  rw [Nat.gcd_div (Nat.gcd_dvd_left a b) (Nat.gcd_dvd_right a b), Nat.div_self h3]
  rfl
end Go.Proofs.YthigeafojekclaaDoor.Num
