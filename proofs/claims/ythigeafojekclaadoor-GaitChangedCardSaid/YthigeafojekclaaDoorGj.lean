/-
  Package gait: pairs of signs: opposite, changed, product.
-/
import Derived.Test.YthigeafojekclaaDoorGi
namespace Go.Proofs.YthigeafojekclaaDoor
open Go.RowKit Go.Deep Go.Shelf

theorem opposite_any (w : World) (x : Int) : Calls Tryd.prog 90 #[.int .u8 x] w fun e w' => e = .returned (.int .u8 (if x = 43 then 45 else 43)) ∧ w = w' := by
  by_cases h : x = 43
  · subst h
    go_enter Tryd.func90, Tryd.ntmps90
    go_wp2_with fail
    go_ret
    exact ⟨rfl, rfl⟩
  · have e1 : (x == 43) = false := by simpa using h
    rw [if_neg h]
    clear h
    go_enter Tryd.func90, Tryd.ntmps90
    go_wp2_with fail
    go_ret
    exact ⟨rfl, rfl⟩
abbrev pairV (a b : Int) : Value := .agg #[.int .u8 a, .int .u8 b]
def opp (x : Int) : Int := if x = 43 then 45 else 43
set_option maxRecDepth 100000 in
set_option maxHeartbeats 4000000 in
theorem pchanged_any (w : World) (a b : Int) : Calls Tryd.prog 80 #[pairV a b] w fun e w' => e = .returned (pairV (opp a) (opp b)) ∧ Kept w w' := by
  have OA := Lib.hid (fun W => show Calls Tryd.prog 90 #[.int .u8 a] W fun e w' => e = .returned (.int .u8 (opp a)) ∧ W = w' from opposite_any W a)
  have OB := Lib.hid (fun W => show Calls Tryd.prog 90 #[.int .u8 b] W fun e w' => e = .returned (.int .u8 (opp b)) ∧ W = w' from opposite_any W b)
  generalize opp a = oa at *
  generalize opp b = ob at *
  go_enter Tryd.func80, Tryd.ntmps80
  go_wp2_with fail
  go_region_with (first | (go_at_call 90; first | (refine (OA.out _).mono ?_; rintro e w1 ⟨rfl, rfl⟩) | (refine (OB.out _).mono ?_; rintro e w1 ⟨rfl, rfl⟩)))
  all_goals
    go_wp2_with fail
    exact bodyPost_ret (v := pairV oa ob) (by simp [results, Tryd.results80, go_sem, pairV]) rfl ⟨rfl, (by repeat (first | assumption | exact Kept.refl _ | apply Kept.drew | apply Kept.drewN | apply Kept.alloc | refine Kept.trans ?_ (by assumption)))⟩
theorem eq_pair (a b c d : Int) (W : World) : (Op.equalIn 10000 92 (.agg #[.int .u8 a, .int .u8 b]) (.agg #[.int .u8 c, .int .u8 d])).run Tryd.prog W = .ok (a == c && b == d) W := by
  have h : ∀ dd, (Op.equalIn (dd + 1 + 1) 92 (.agg #[.int .u8 a, .int .u8 b]) (.agg #[.int .u8 c, .int .u8 d])).run Tryd.prog W = .ok (a == c && b == d) W := by
    intro dd
    rw [Op.equalIn]
    simp only [Sem.run_bind, run_underlying Tryd.underlying92, Result.andThen_ok]
    rw [Tryd.sizeOf5]
    simp only [Result.andThen_ok, Std.Legacy.Range.forIn_eq_forIn_range', Std.Legacy.Range.size]
    have e : List.range' 0 ((2 - 0 + 1 - 1) / 1) 1 = [0, 1] := rfl
    rw [e]
    simp only [List.forIn_cons, List.forIn_nil, Sem.run_bind, Nat.zero_mul, Nat.one_mul]
    have p0 : ∀ x y W, (part 5 #[x, y] 0).run Tryd.prog W = .ok x W := fun x y W => by simp [part, Sem.run_bind, Tryd.isAgg5, Tryd.sizeOf5]
    have p1 : ∀ x y W, (part 5 #[x, y] 1).run Tryd.prog W = .ok y W := fun x y W => by simp [part, Sem.run_bind, Tryd.isAgg5, Tryd.sizeOf5]
    simp only [p0, Result.andThen_ok, run_equalIn_int _ dd 5 .u8 .u8 _ _ Tryd.underlying5]
    cases e1 : (a == c)
    · simp
    · simp only [Bool.not_true, Bool.false_eq_true, if_false, Sem.run_pure, Result.andThen_ok, Sem.run_bind, p1, run_equalIn_int _ dd 5 .u8 .u8 _ _ Tryd.underlying5]
      cases e2 : (b == d)
      · simp
      · simp
  exact h 9998
theorem pair_cells (w : World) (x y : Value) (t : TypeId) : (w.alloc (.cells #[x, y] t)).cell? ⟨w.heap.size, 0, none⟩ = some x ∧ (w.alloc (.cells #[x, y] t)).cell? ⟨w.heap.size, 1, none⟩ = some y := by
  constructor <;> (unfold World.cell?; dsimp only; rw [blk_alloc_new]; rfl)
/-- what two pairs of signs make -/
def prodP (a b c d : Int) : Int := if a = c ∧ b = d then 2 else if a = opp c ∧ b = opp d then -2 else 0
set_option maxRecDepth 100000 in
set_option maxHeartbeats 4000000 in
theorem pproduct_any (w : World) (a b c d : Int) : Calls Tryd.prog 67 #[pairV a b, pairV c d] w fun e w' => e = .returned (.int .i64 (prodP a b c d)) ∧ Kept w w' := by
  have PC := Lib.hid (fun W => pchanged_any W c d)
  have hp : Hid (prodP a b c d = if a = c ∧ b = d then 2 else if a = opp c ∧ b = opp d then -2 else 0) := rfl
  obtain ⟨oc, HOC⟩ : ∃ oc, Hid (oc = opp c) := ⟨_, rfl⟩
  obtain ⟨od, HOD⟩ : ∃ od, Hid (od = opp d) := ⟨_, rfl⟩
  rw [← HOC.out, ← HOD.out] at PC hp
  have bA : Kept w ((w.alloc (.cells #[.int .u8 a, .int .u8 b] 92)).alloc (.cells #[.int .u8 c, .int .u8 d] 92)) := ((Kept.refl w).alloc _).alloc _
  have bs := ((Kept.refl (w.alloc (.cells #[.int .u8 a, .int .u8 b] 92))).alloc (.cells #[.int .u8 c, .int .u8 d] 92))
  have b0 := bs.cellSome (pair_cells w (.int .u8 a) (.int .u8 b) 92).1
  have b1 := bs.cellSome (pair_cells w (.int .u8 a) (.int .u8 b) 92).2
  have b2 := (pair_cells (w.alloc (.cells #[.int .u8 a, .int .u8 b] 92)) (.int .u8 c) (.int .u8 d) 92).1
  have b3 := (pair_cells (w.alloc (.cells #[.int .u8 a, .int .u8 b] 92)) (.int .u8 c) (.int .u8 d) 92).2
  rw [World.size_alloc] at b2 b3
  clear bs
  have EQ1 : ∀ W, (Op.equalIn 10000 92 (.agg #[.int .u8 a, .int .u8 b]) (.agg #[.int .u8 c, .int .u8 d])).run Tryd.prog W = .ok (a == c && b == d) W := fun W => eq_pair a b c d W
  have EQ2 : ∀ W, (Op.equalIn 10000 92 (.agg #[.int .u8 a, .int .u8 b]) (.agg #[.int .u8 oc, .int .u8 od])).run Tryd.prog W = .ok (a == oc && b == od) W := fun W => eq_pair a b oc od W
  by_cases h1 : a = c ∧ b = d
  · have e1 : (a == c && b == d) = true := by simp [h1]
    rw [if_pos h1] at hp
    rw [e1] at EQ1
    clear h1 e1 EQ2 PC
    rw [hp.out]
    go_enter Tryd.func67, Tryd.ntmps67
    go_wp2_with fail
    go_ret
    exact ⟨rfl, (by repeat (first | assumption | exact Kept.refl _ | apply Kept.drew | apply Kept.drewN | apply Kept.alloc | refine Kept.trans ?_ (by assumption)))⟩
  · have e1 : (a == c && b == d) = false := by
      cases e : (a == c && b == d)
      · rfl
      · simp at e; exact absurd e h1
    rw [if_neg h1] at hp
    rw [e1] at EQ1
    clear h1 e1
    by_cases h2 : a = oc ∧ b = od
    · have e2 : (a == oc && b == od) = true := by simp [h2]
      rw [if_pos h2] at hp
      rw [e2] at EQ2
      clear h2 e2
      rw [hp.out]
      clear hp HOC HOD
      go_enter Tryd.func67, Tryd.ntmps67
      go_wp2_with fail
      generalize (w.alloc (.cells #[.int .u8 a, .int .u8 b] 92)).alloc (.cells #[.int .u8 c, .int .u8 d] 92) = W0 at *
      go_region_with (first | (go_at_call 80; refine (PC.out _).mono ?_; rintro e w1 ⟨rfl, hk1⟩; have hk2 : Kept W0 w1 := (by repeat (first | assumption | exact Kept.refl _ | apply Kept.drew | apply Kept.drewN | apply Kept.alloc | refine Kept.trans ?_ (by assumption))); have z0 := hk2.cellSome b0; have z1 := hk2.cellSome b1))
      all_goals
        go_wp2_with fail
        go_ret
        exact ⟨rfl, (by repeat (first | assumption | exact Kept.refl _ | apply Kept.drew | apply Kept.drewN | apply Kept.alloc | refine Kept.trans ?_ (by assumption)))⟩
    · have e2 : (a == oc && b == od) = false := by
        cases e : (a == oc && b == od)
        · rfl
        · simp at e; exact absurd e h2
      rw [if_neg h2] at hp
      rw [e2] at EQ2
      clear h2 e2
      rw [hp.out]
      clear hp HOC HOD
      go_enter Tryd.func67, Tryd.ntmps67
      go_wp2_with fail
      generalize (w.alloc (.cells #[.int .u8 a, .int .u8 b] 92)).alloc (.cells #[.int .u8 c, .int .u8 d] 92) = W0 at *
      go_region_with (first | (go_at_call 80; refine (PC.out _).mono ?_; rintro e w1 ⟨rfl, hk1⟩; have hk2 : Kept W0 w1 := (by repeat (first | assumption | exact Kept.refl _ | apply Kept.drew | apply Kept.drewN | apply Kept.alloc | refine Kept.trans ?_ (by assumption))); have z0 := hk2.cellSome b0; have z1 := hk2.cellSome b1))
      all_goals
        go_wp2_with fail
        go_ret
        exact ⟨rfl, (by repeat (first | assumption | exact Kept.refl _ | apply Kept.drew | apply Kept.drewN | apply Kept.alloc | refine Kept.trans ?_ (by assumption)))⟩
end Go.Proofs.YthigeafojekclaaDoor
