/-
  The reference's Num and Is, of whole numbers above 0.
-/
import Derived.Test.YtomnjcjipdnnfaaNz
namespace Go.Proofs.Ytomnjcjipdnnfaa
open Go.RowKit Go.Deep

theorem fig_any (w : World) (v : Value) (x : Int) (hZ : ZAt w v x) (hx : 0 < x) : Calls Try.prog 82 #[v] w (FigPost w x) := by
  obtain ⟨m, a, l, c, rfl⟩ := hZ.shape
  obtain ⟨rfl, n, D, hS, hL, hv, hn⟩ := hZ.pos (by omega)
  have h0 : 0 < n := by
    rcases Nat.eq_zero_or_pos n with h | h
    · subst h; simp [valZ] at hv; omega
    · exact h
  have := figures_pos w _ n D false hS hL hn h0
  rwa [hv] at this
/-- the decimal digits of a number above 0 -/
noncomputable def dstr (x : Int) : ByteArray := if h : 0 < x ∧ x < 10 ^ 60 then strL (Classical.choose (dec_ex 60 x h.1 h.2)) else ⟨#[]⟩
theorem dstr_spec {x : Int} (h0 : 0 < x) (h1 : x < 10 ^ 60) : ∃ l, dstr x = strL l ∧ DecL l x ∧ l.length ≤ 60 := by
  have hs := Classical.choose_spec (dec_ex 60 x h0 h1)
  refine ⟨Classical.choose (dec_ex 60 x h0 h1), by unfold dstr; rw [dif_pos ⟨h0, h1⟩], ⟨hs.1, hs.2.1, hs.2.2.1, by omega⟩, hs.2.2.2⟩
theorem dstr_of {x : Int} (h0 : 0 < x) (h1 : x < 10 ^ 60) {l : List UInt8} (h : DecL l x) : strL l = dstr x := by
  obtain ⟨r, e, hr, _⟩ := dstr_spec h0 h1
  rw [e, h.same hr]
theorem dstr_of2 {x : Int} (h0 : 0 < x) (h1 : x < 10 ^ 60) {l : List UInt8} (hd : DecD l) (hv : decV l = x) (hh : l.head?.map (fun b => b.toNat) ≠ some 48) : strL l = dstr x := by
  obtain ⟨r, e, hr, _⟩ := dstr_spec h0 h1
  rw [e, dec_uniq l.length l r rfl hd hr.1 hh hr.2.2.1 (by rw [hv, hr.2.1])]
theorem plus_dstr (w : World) (x y : Int) (hx : 0 < x) (hy : 0 < y) (h : x + y < 10 ^ 60) : Calls Try.prog 80 #[.string (dstr x), .string (dstr y)] w fun e w' => e = .returned (.string (dstr (x + y))) ∧ Kept w w' := by
  obtain ⟨p, e1, hp, hpn⟩ := dstr_spec hx (by omega)
  obtain ⟨q, e2, hq, hqn⟩ := dstr_spec hy (by omega)
  rw [e1, e2]
  refine (plus_dec w p q x y hp hq hx hy (by omega) (by omega)).mono ?_
  rintro e w' ⟨l, rfl, h1, h2, h3, hk⟩
  exact ⟨by rw [dstr_of2 (by omega) h h1 h2 h3], hk⟩
theorem dec_one : DecL [49] 1 := ⟨fun b hb => by simp at hb; subst hb; decide, by simp [decV], by simp, by simp⟩
theorem dstr_one : dstr 1 = ⟨#[49]⟩ := (dstr_of (by omega) (by omega) dec_one).symm
set_option maxRecDepth 100000 in
set_option maxHeartbeats 8000000 in
theorem Num_any (w : World) (v : Value) (x : Int) (hX : QAt w v x 1) (hx0 : 0 < x) (hx1 : x < 10 ^ 60) :
    Calls Try.prog 62 #[v] w fun e w' => e = .returned (.tuple #[.string (dstr x), .bool true]) ∧ Kept w w' := by
  have hg : (Int.gcd x 1 : Int) = 1 := by simp
  have hbn : (10 : Int) ^ 60 * 10000 < bigN := by
    have h1 : (10000 : Int) ^ 20 ≤ bigN := pw_le (by omega)
    omega
  obtain ⟨m0, a0, l0, c0, m1, a1, l1, c1, rfl, _, _⟩ := hX.shape
  have hl := Lowest_any
  have HX := Lib.hid hX
  have hb0 := box_row4 w (.bool m0) (.slice a0 l0 c0) (.bool m1) (.slice a1 l1 c1) 64 w.heap.size rfl
  have hk0 : Kept w (w.alloc (.cells #[.bool m0, .slice a0 l0 c0, .bool m1, .slice a1 l1 c1] 64)) := (Kept.refl w).alloc _
  clear hX hl
  go_enter Try.func62, Try.ntmps62
  go_wp2_with fail
  obtain ⟨z0, HZ0⟩ : ∃ z, Hid (z = w.heap.size) := ⟨_, rfl⟩
  rw [← HZ0.out] at hb0 ⊢
  have hzw : w.heap.size ≤ z0 := by rw [HZ0.out]; exact Nat.le_refl _
  generalize w.alloc (.cells #[.bool m0, .slice a0 l0 c0, .bool m1, .slice a1 l1 c1] 64) = W0 at *
  clear HZ0
  refine (Lowest_any _ _ x 1 (HX.out.kept hk0) (by omega) (by omega) (by omega) (by omega)).mono ?_
  rw [hg, Int.ediv_one, Int.ediv_one]
  rintro e w3 ⟨v3, rfl, hq3, hk3⟩
  obtain ⟨mm, a, l, c, mm2, a2, l2, c2, rfl, hn3, hd3⟩ := hq3.shape
  obtain ⟨rfl, _⟩ := hn3.pos (by omega)
  obtain ⟨rfl, _⟩ := hd3.pos (by omega)
  have hb3 := hk3.row hb0
  obtain ⟨f0, f1, f2, f3, f4, f5, f6, f7⟩ := bx4_cells hb3
  have hX3 : KeptX (fun k => k = z0) w3 ((((w3.setCell ⟨z0, 0, none⟩ (.bool false)).setCell ⟨z0, 1, none⟩ (.slice a l c)).setCell ⟨z0, 2, none⟩ (.bool false)).setCell ⟨z0, 3, none⟩ (.slice a2 l2 c2)) := ((((KeptX.refl (fun k => k = z0) w3).setIn 0 _).setIn 1 _).setIn 2 _).setIn 3 _
  have HN := Lib.hid (hn3.keptBoxN hX3 hb3 (bx4_noint _ _ _ _ _ _ _ _))
  have HD := Lib.hid (hd3.keptBoxN hX3 hb3 (bx4_noint _ _ _ _ _ _ _ _))
  have hKw : Kept w ((((w3.setCell ⟨z0, 0, none⟩ (.bool false)).setCell ⟨z0, 1, none⟩ (.slice a l c)).setCell ⟨z0, 2, none⟩ (.bool false)).setCell ⟨z0, 3, none⟩ (.slice a2 l2 c2)) := (((((hk0.trans hk3).setCell hzw _).setCell hzw _).setCell hzw _).setCell hzw _)
  obtain ⟨p0, p1, p2, p3, _⟩ := bx4_cells (bx4_set hb3 (.bool false) (.slice a l c) (.bool false) (.slice a2 l2 c2))
  clear hb3 hb0 hX3 hq3 hn3 hd3 hk0 hk3
  go_wp2_with fail
  generalize ((((w3.setCell ⟨z0, 0, none⟩ (.bool false)).setCell ⟨z0, 1, none⟩ (.slice a l c)).setCell ⟨z0, 2, none⟩ (.bool false)).setCell ⟨z0, 3, none⟩ (.slice a2 l2 c2)) = W at *
  clear f0 f1 f2 f3 f4 f5 f6 f7
  try go_wp2_with fail
  refine wp_region_held_drew (S := (fun w' => w'.cell? ⟨z0, 0, none⟩ = some (.bool false) ∧ w'.cell? ⟨z0, 1, none⟩ = some (.slice a l c) ∧ w'.cell? ⟨z0, 2, none⟩ = some (.bool false) ∧ w'.cell? ⟨z0, 3, none⟩ = some (.slice a2 l2 c2) ∧ Kept w w')) (by kernel_rfl) ?_ (fun hHeld => ?_)
  · (try dsimp only)
    exact ⟨Kept.cellSome (w := W) (by repeat (first | assumption | exact Kept.refl _ | apply Kept.drew | apply Kept.drewN | apply Kept.alloc | refine Kept.trans ?_ (by assumption))) p0, Kept.cellSome (w := W) (by repeat (first | assumption | exact Kept.refl _ | apply Kept.drew | apply Kept.drewN | apply Kept.alloc | refine Kept.trans ?_ (by assumption))) p1, Kept.cellSome (w := W) (by repeat (first | assumption | exact Kept.refl _ | apply Kept.drew | apply Kept.drewN | apply Kept.alloc | refine Kept.trans ?_ (by assumption))) p2, Kept.cellSome (w := W) (by repeat (first | assumption | exact Kept.refl _ | apply Kept.drew | apply Kept.drewN | apply Kept.alloc | refine Kept.trans ?_ (by assumption))) p3, hKw.trans (by repeat (first | assumption | exact Kept.refl _ | apply Kept.drew | apply Kept.drewN | apply Kept.alloc | refine Kept.trans ?_ (by assumption)))⟩
  refine wpAnyH_take (i := 0) (oi := { dst := some 8, op := Go.Op.fieldAddr 64 (Go.Operand.tmp 1) 0, type := 0, pos := "num.go:97", after := #[], guard := none }) (v := ?v22) rfl (by kernel_rfl) (by kernel_rfl) (by kernel_rfl) (fun _ _ _ h => h) (Or.inl ⟨by rfl, ?hy22⟩) (by assumption) ?rs22
  case hy22 =>
    intro w hSw
    (try dsimp only at hSw)
    go_simp
    try with_reducible rfl
  (try simp only [Act.put, List.setIfInBounds_toArray, List.set_cons_zero, List.set_cons_succ])
  refine wpAnyH_take (i := 1) (oi := { dst := some 9, op := Go.Op.load 60 (Go.Operand.tmp 8), type := 60, pos := "num.go:97", after := #[{ on := 0, ground := Go.Ground.data }], guard := none }) (v := ?v23) rfl (by kernel_rfl) (by kernel_rfl) (by kernel_rfl) (fun _ _ _ h => h) (Or.inl ⟨by rfl, ?hy23⟩) (by assumption) ?rs23
  case hy23 =>
    intro w hSw
    (try dsimp only at hSw)
    go_simp
    try with_reducible rfl
  (try simp only [Act.put, List.setIfInBounds_toArray, List.set_cons_zero, List.set_cons_succ])
  refine wpAnyH_take (i := 4) (oi := { dst := some 12, op := Go.Op.fieldAddr 64 (Go.Operand.tmp 1) 1, type := 0, pos := "num.go:97", after := #[], guard := none }) (v := ?v24) rfl (by kernel_rfl) (by kernel_rfl) (by kernel_rfl) (fun _ _ _ h => h) (Or.inl ⟨by rfl, ?hy24⟩) (by assumption) ?rs24
  case hy24 =>
    intro w hSw
    (try dsimp only at hSw)
    go_simp
    try with_reducible rfl
  (try simp only [Act.put, List.setIfInBounds_toArray, List.set_cons_zero, List.set_cons_succ])
  refine wpAnyH_take (i := 5) (oi := { dst := some 13, op := Go.Op.load 60 (Go.Operand.tmp 12), type := 60, pos := "num.go:97", after := #[{ on := 4, ground := Go.Ground.data }], guard := none }) (v := ?v25) rfl (by kernel_rfl) (by kernel_rfl) (by kernel_rfl) (fun _ _ _ h => h) (Or.inl ⟨by rfl, ?hy25⟩) (by assumption) ?rs25
  case hy25 =>
    intro w hSw
    (try dsimp only at hSw)
    go_simp
    try with_reducible rfl
  (try simp only [Act.put, List.setIfInBounds_toArray, List.set_cons_zero, List.set_cons_succ])
  refine wpAnyH_ready (rs := [2]) (by kernel_rfl) (by simp) ?_
  refine AllReadyH.cons (o := { dst := some 10, op := Go.Op.call { callee := Go.Callee.value (Go.Operand.func 83), args := #[Go.Operand.tmp 9], argTypes := #[60] }, type := 60, pos := "num.go:97", after := #[{ on := 1, ground := Go.Ground.data }], guard := none }) rfl (fun K2 hK2 => ?_) AllReadyH.nil
  go_simp
  (go_at_call 83; refine (Abs_any _ _ x x (HN.out.kept (by repeat (first | assumption | exact Kept.refl _ | apply Kept.drew | apply Kept.drewN | apply Kept.alloc | refine Kept.trans ?_ (by assumption)))) (by omega)).mono ?_; rintro e w5 ⟨v5, rfl, hz5, hk5⟩; obtain ⟨m5, a5, l5, c5, rfl⟩ := hz5.shape)
  go_wp2_with fail
  refine hK2.out _ _ ?_ (fun hHeld => ?_)
  · (try dsimp only)
    exact ⟨Kept.cellSome (w := W) (by repeat (first | assumption | exact Kept.refl _ | apply Kept.drew | apply Kept.drewN | apply Kept.alloc | refine Kept.trans ?_ (by assumption))) p0, Kept.cellSome (w := W) (by repeat (first | assumption | exact Kept.refl _ | apply Kept.drew | apply Kept.drewN | apply Kept.alloc | refine Kept.trans ?_ (by assumption))) p1, Kept.cellSome (w := W) (by repeat (first | assumption | exact Kept.refl _ | apply Kept.drew | apply Kept.drewN | apply Kept.alloc | refine Kept.trans ?_ (by assumption))) p2, Kept.cellSome (w := W) (by repeat (first | assumption | exact Kept.refl _ | apply Kept.drew | apply Kept.drewN | apply Kept.alloc | refine Kept.trans ?_ (by assumption))) p3, hKw.trans (by repeat (first | assumption | exact Kept.refl _ | apply Kept.drew | apply Kept.drewN | apply Kept.alloc | refine Kept.trans ?_ (by assumption)))⟩
  clear hK2 K2
  (try simp only [Act.put, List.setIfInBounds_toArray, List.set_cons_zero, List.set_cons_succ])
  refine wpAnyH_ready (rs := [3]) (by kernel_rfl) (by simp) ?_
  refine AllReadyH.cons (o := { dst := some 11, op := Go.Op.call { callee := Go.Callee.value (Go.Operand.func 82), args := #[Go.Operand.tmp 10], argTypes := #[60] }, type := 9, pos := "num.go:97", after := #[{ on := 2, ground := Go.Ground.data }, { on := 2, ground := Go.Ground.chain }], guard := none }) rfl (fun K2 hK2 => ?_) AllReadyH.nil
  go_simp
  (go_at_call 82; refine (fig_any _ _ x (hz5.kept (by repeat (first | assumption | exact Kept.refl _ | apply Kept.drew | apply Kept.drewN | apply Kept.alloc | refine Kept.trans ?_ (by assumption)))) hx0).mono ?_; rintro e w6 ⟨s6, rfl, hf6, hk6⟩)
  go_wp2_with fail
  refine hK2.out _ _ ?_ (fun hHeld => ?_)
  · (try dsimp only)
    exact ⟨Kept.cellSome (w := W) (by repeat (first | assumption | exact Kept.refl _ | apply Kept.drew | apply Kept.drewN | apply Kept.alloc | refine Kept.trans ?_ (by assumption))) p0, Kept.cellSome (w := W) (by repeat (first | assumption | exact Kept.refl _ | apply Kept.drew | apply Kept.drewN | apply Kept.alloc | refine Kept.trans ?_ (by assumption))) p1, Kept.cellSome (w := W) (by repeat (first | assumption | exact Kept.refl _ | apply Kept.drew | apply Kept.drewN | apply Kept.alloc | refine Kept.trans ?_ (by assumption))) p2, Kept.cellSome (w := W) (by repeat (first | assumption | exact Kept.refl _ | apply Kept.drew | apply Kept.drewN | apply Kept.alloc | refine Kept.trans ?_ (by assumption))) p3, hKw.trans (by repeat (first | assumption | exact Kept.refl _ | apply Kept.drew | apply Kept.drewN | apply Kept.alloc | refine Kept.trans ?_ (by assumption)))⟩
  clear hK2 K2
  (try simp only [Act.put, List.setIfInBounds_toArray, List.set_cons_zero, List.set_cons_succ])
  refine wpAnyH_ready (rs := [6]) (by kernel_rfl) (by simp) ?_
  refine AllReadyH.cons (o := { dst := some 14, op := Go.Op.call { callee := Go.Callee.value (Go.Operand.func 82), args := #[Go.Operand.tmp 13], argTypes := #[60] }, type := 9, pos := "num.go:97", after := #[{ on := 5, ground := Go.Ground.data }, { on := 3, ground := Go.Ground.chain }], guard := none }) rfl (fun K2 hK2 => ?_) AllReadyH.nil
  go_simp
  (go_at_call 82; refine (fig_any _ _ 1 (HD.out.kept (by repeat (first | assumption | exact Kept.refl _ | apply Kept.drew | apply Kept.drewN | apply Kept.alloc | refine Kept.trans ?_ (by assumption)))) (by omega)).mono ?_; rintro e w7 ⟨s7, rfl, hf7, hk7⟩)
  go_wp2_with fail
  refine hK2.out _ _ ?_ (fun hHeld => ?_)
  · (try dsimp only)
    exact ⟨Kept.cellSome (w := W) (by repeat (first | assumption | exact Kept.refl _ | apply Kept.drew | apply Kept.drewN | apply Kept.alloc | refine Kept.trans ?_ (by assumption))) p0, Kept.cellSome (w := W) (by repeat (first | assumption | exact Kept.refl _ | apply Kept.drew | apply Kept.drewN | apply Kept.alloc | refine Kept.trans ?_ (by assumption))) p1, Kept.cellSome (w := W) (by repeat (first | assumption | exact Kept.refl _ | apply Kept.drew | apply Kept.drewN | apply Kept.alloc | refine Kept.trans ?_ (by assumption))) p2, Kept.cellSome (w := W) (by repeat (first | assumption | exact Kept.refl _ | apply Kept.drew | apply Kept.drewN | apply Kept.alloc | refine Kept.trans ?_ (by assumption))) p3, hKw.trans (by repeat (first | assumption | exact Kept.refl _ | apply Kept.drew | apply Kept.drewN | apply Kept.alloc | refine Kept.trans ?_ (by assumption)))⟩
  clear hK2 K2
  (try simp only [Act.put, List.setIfInBounds_toArray, List.set_cons_zero, List.set_cons_succ])
  refine wpAnyH_take (i := 7) (oi := { dst := some 4, op := Go.Op.assign (Go.Operand.tmp 11), type := 9, pos := "num.go:97", after := #[{ on := 3, ground := Go.Ground.data }, { on := 6, ground := Go.Ground.chain }, { on := 0, ground := Go.Ground.phase }, { on := 1, ground := Go.Ground.phase }, { on := 2, ground := Go.Ground.phase }, { on := 3, ground := Go.Ground.phase }, { on := 4, ground := Go.Ground.textOnly Go.Departure.lateStores }, { on := 5, ground := Go.Ground.textOnly Go.Departure.lateStores }, { on := 6, ground := Go.Ground.textOnly Go.Departure.lateStoresUnsure }], guard := none }) (v := ?v26) rfl (by kernel_rfl) (by kernel_rfl) (by kernel_rfl) (fun _ _ _ h => h) (Or.inl ⟨by rfl, ?hy26⟩) (by assumption) ?rs26
  case hy26 =>
    intro w hSw
    (try dsimp only at hSw)
    go_simp
    try with_reducible rfl
  (try simp only [Act.put, List.setIfInBounds_toArray, List.set_cons_zero, List.set_cons_succ])
  refine wpAnyH_take (i := 8) (oi := { dst := some 5, op := Go.Op.assign (Go.Operand.tmp 14), type := 9, pos := "num.go:97", after := #[{ on := 6, ground := Go.Ground.data }, { on := 7, ground := Go.Ground.chain }, { on := 0, ground := Go.Ground.phase }, { on := 1, ground := Go.Ground.phase }, { on := 2, ground := Go.Ground.phase }, { on := 3, ground := Go.Ground.phase }, { on := 4, ground := Go.Ground.phase }, { on := 5, ground := Go.Ground.phase }, { on := 6, ground := Go.Ground.phase }, { on := 7, ground := Go.Ground.phase }], guard := none }) (v := ?v27) rfl (by kernel_rfl) (by kernel_rfl) (by kernel_rfl) (fun _ _ _ h => h) (Or.inl ⟨by rfl, ?hy27⟩) (by assumption) ?rs27
  case hy27 =>
    intro w hSw
    (try dsimp only at hSw)
    go_simp
    try with_reducible rfl
  (try simp only [Act.put, List.setIfInBounds_toArray, List.set_cons_zero, List.set_cons_succ])
  refine wpAnyH_done (by kernel_rfl) ?_ _
  have y0 := Kept.cellSome (w := W) (show Kept W w7 from (by repeat (first | assumption | exact Kept.refl _ | apply Kept.drew | apply Kept.drewN | apply Kept.alloc | refine Kept.trans ?_ (by assumption)))) p0
  have hKF : Kept w w7 := hKw.trans (by repeat (first | assumption | exact Kept.refl _ | apply Kept.drew | apply Kept.drewN | apply Kept.alloc | refine Kept.trans ?_ (by assumption)))
  have e7 : strL s7 = ⟨#[49]⟩ := by rw [hf7.same dec_one]; rfl
  have E6 := Lib.hid (dstr_of hx0 hx1 hf6)
  have l6 := hf6.2.2.2
  have n6 : (strL s6).size = s6.length := strL_size s6
  have c6' : ¬ (4000 : Int) < (s6.length : Int) := by omega
  have n7 : (⟨#[49]⟩ : ByteArray).size = 1 := rfl
  rw [e7]
  clear hf6 hf7 e7
  go_wp2_with fail
  go_ret2
  exact ⟨by rw [← E6.out]; rfl, hKF⟩
set_option maxRecDepth 100000 in
set_option maxHeartbeats 4000000 in
theorem Is_any (w : World) (v : Value) (x : Int) (hX : QAt w v x 1) (hx0 : 0 < x) (hx1 : x < 10 ^ 60) :
    Calls Try.prog 35 #[.string (dstr x), v] w fun e w' => e = .returned (.bool true) ∧ Kept w w' := by
  obtain ⟨m0, a0, l0, c0, m1, a1, l1, c1, rfl, _, _⟩ := hX.shape
  have HX := Lib.hid hX
  have hk0 : Kept w (w.alloc (.cells #[.bool m0, .slice a0 l0 c0, .bool m1, .slice a1 l1 c1] 64)) := (Kept.refl w).alloc _
  clear hX
  go_enter Try.func35, Try.ntmps35
  go_wp2_with fail
  refine (Num_any _ _ x (HX.out.kept hk0) hx0 hx1).mono ?_
  rintro e w3 ⟨rfl, hk3⟩
  go_wp2_with fail
  go_ret
  exact ⟨rfl, hk0.trans hk3⟩
end Go.Proofs.Ytomnjcjipdnnfaa
