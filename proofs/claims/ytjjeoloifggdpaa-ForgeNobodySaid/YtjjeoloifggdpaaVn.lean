/-
  Package forge: isTree, waysTo.
-/
import Derived.Test.YtjjeoloifggdpaaVm
namespace Go.Proofs.Ytjjeoloifggdpaa
open Go.RowKit Go.Deep Go.Sort

/-- does each smith, but the first one, live beside one with a lower number? -/
def treeB (n : Nat) (X : Nat → Int) : Bool := decide (1 ≤ n ∧ n ≤ 8 ∧ X 0 = 0 ∧ ∀ i, i < n → 0 < i → 0 ≤ X i ∧ X i < (i : Int))
set_option maxRecDepth 100000 in
set_option maxHeartbeats 1000000 in
theorem isTree_any (w : World) (v : Value) (n : Nat) (X : Nat → Int) (h : IntsAt w v n X) (hn : n ≤ 1000000) : Calls Try.prog 41 #[v] w fun e w' => e = .returned (.bool (treeB n X)) ∧ w = w' := by
  obtain ⟨a, b, o, cap, rfl, ha, hc⟩ := h
  have HC := Lib.hid hc
  obtain ⟨z, HZ⟩ : ∃ z, Hid (z = treeB n X) := ⟨_, rfl⟩
  rw [← HZ.out]
  clear hc
  by_cases h1 : n < 1
  · have f1 : (n : Int) < 1 := by omega
    have hz : Hid (z = false) := by show _ = _; rw [HZ.out]; unfold treeB; exact decide_eq_false (by omega)
    go_enter Try.func41, Try.ntmps41
    go_wp2_with fail
    go_ret
    exact ⟨ret_bool hz.out.symm, rfl⟩
  · have f1 : ¬ (n : Int) < 1 := by omega
    by_cases h2 : n > 8
    · have f2 : (n : Int) > 8 := by omega
      have hz : Hid (z = false) := by show _ = _; rw [HZ.out]; unfold treeB; exact decide_eq_false (by omega)
      go_enter Try.func41, Try.ntmps41
      go_wp2_with fail
      go_ret
      exact ⟨ret_bool hz.out.symm, rfl⟩
    · have f2 : ¬ (n : Int) > 8 := by omega
      obtain rfl := ha (by omega)
      have t0 := HC.out 0 (by omega)
      have f3 : (0 : Int) < (n : Int) := by omega
      rw [Nat.add_zero] at t0
      (try dsimp only at t0)
      by_cases h3 : X 0 = 0
      · rw [h3] at t0
        go_enter Try.func41, Try.ntmps41
        go_wp2_with fail
        go_loopg [3] (n - 1) (fun g s3 wr => ∃ i : Nat, 1 ≤ i ∧ i ≤ n ∧ g = n - i ∧ s3 = .int .i64 i ∧ w = wr ∧ Hid (∀ j, j < i → 0 < j → 0 ≤ X j ∧ X j < (j : Int)))
        case atStart => exact ⟨1, by omega, by omega, rfl, rfl, rfl, Lib.hid fun j h1 h2 => by omega⟩
        case round =>
          obtain ⟨i, hi1, hi, rfl, rfl, rfl, HX⟩ := hrel
          by_cases hlt : i < n
          · have t1 := HC.out i hlt
            have s2 : (i : Int) < (n : Int) := by omega
            have s3 : (0 : Int) ≤ (i : Int) := by omega
            (try dsimp only at t1)
            by_cases h4 : X i < 0
            · have hz : Hid (z = false) := by
                show _ = _; rw [HZ.out]; unfold treeB; exact decide_eq_false (fun h => by have := (h.2.2.2 i hlt (by omega)).1; omega)
              generalize X i = x at *
              go_wp2_with fail
              go_ret
              exact ⟨ret_bool hz.out.symm, rfl⟩
            · by_cases h5 : X i ≥ (i : Int)
              · have hz : Hid (z = false) := by
                  show _ = _; rw [HZ.out]; unfold treeB; exact decide_eq_false (fun h => by have := (h.2.2.2 i hlt (by omega)).2; omega)
                generalize X i = x at *
                go_wp2_with fail
                go_ret
                exact ⟨ret_bool hz.out.symm, rfl⟩
              · have hno : Hid (∀ j, j < i + 1 → 0 < j → 0 ≤ X j ∧ X j < (j : Int)) := Lib.hid (fun j hj h0 => by
                  rcases (by omega : j < i ∨ j = i) with h6 | h6
                  · exact HX.out j h6 h0
                  · subst h6; omega)
                generalize X i = x at *
                go_wp2_with fail
                go_roundg (n - (i + 1))
                case measure => omega
                case rel => exact ⟨i + 1, by omega, by omega, rfl, by first | rfl | go_num, rfl, hno⟩
          · obtain rfl : i = n := by omega
            have s2 : ¬ (i : Int) < (i : Int) := by omega
            have hz : Hid (z = true) := by show _ = _; rw [HZ.out]; unfold treeB; exact decide_eq_true ⟨by omega, by omega, h3, HX.out⟩
            go_wp2_with fail
            go_ret
            exact ⟨ret_bool hz.out.symm, rfl⟩
      · have hz : Hid (z = false) := by show _ = _; rw [HZ.out]; unfold treeB; exact decide_eq_false (fun h => h3 h.2.2.1)
        have f4 : (X 0 != 0) = true := by simp [h3]
        generalize X 0 = x at *
        clear h3
        go_enter Try.func41, Try.ntmps41
        go_wp2_with fail
        go_ret
        exact ⟨ret_bool hz.out.symm, rfl⟩
/-- from smith i on towards smith 0 the ways lead back -/
def wayL (on : Nat → Nat) : Nat → Nat → (Nat → Nat) → Nat → Nat
  | 0, _, W => W
  | k + 1, i, W => if i = 0 then W else wayL on k (on i) (upd W (on i) i)
def waysT (on : Nat → Nat) (h : Nat) : Nat → Nat := wayL on h h (upd on h h)
theorem wayL_zero (on : Nat → Nat) (k : Nat) (W : Nat → Nat) : wayL on k 0 W = W := by cases k <;> simp [wayL]
theorem wayL_fuel {on : Nat → Nat} {n : Nat} (ht : ∀ i, i < n → 0 < i → on i < i) (i : Nat) : i < n → ∀ k W, i ≤ k → wayL on k i W = wayL on i i W := by
  induction i using Nat.strongRecOn with
  | _ i ih =>
    intro hi k W hk
    by_cases h0 : i = 0
    · subst h0; rw [wayL_zero, wayL_zero]
    · obtain ⟨j, rfl⟩ : ∃ j, i = j + 1 := ⟨i - 1, by omega⟩
      obtain ⟨k', rfl⟩ : ∃ k', k = k' + 1 := ⟨k - 1, by omega⟩
      have hon := ht (j + 1) hi (by omega)
      simp only [wayL]
      rw [if_neg (by omega), if_neg (by omega), ih _ hon (by omega) k' _ (by omega), ih _ hon (by omega) j _ (by omega)]
theorem wayL_step {on : Nat → Nat} {n : Nat} (ht : ∀ i, i < n → 0 < i → on i < i) {i : Nat} (hi : i < n) (h0 : 0 < i) (W : Nat → Nat) : wayL on i i W = wayL on (on i) (on i) (upd W (on i) i) := by
  obtain ⟨j, rfl⟩ : ∃ j, i = j + 1 := ⟨i - 1, by omega⟩
  have hon := ht (j + 1) hi (by omega)
  have e : wayL on (j + 1) (j + 1) W = wayL on j (on (j + 1)) (upd W (on (j + 1)) (j + 1)) := by
    simp only [wayL]; rw [if_neg (by omega)]
  rw [e, wayL_fuel ht _ (by omega) j _ (by omega)]
/-- a copy of numbers that came in -/
theorem clone_at (w : World) (v : Value) (n : Nat) (X : Nat → Nat) (h : CellsAt w v n (fun i => .int .i64 ((X i : Nat) : Int))) (h0 : 0 < n) (hl : n ≤ 1000000) :
    Calls Try.prog 42 #[v] w fun e w' => ∃ v', e = .returned v' ∧ w'.ownsRow w.heap.size 3 1 v' n (natsV ((List.range n).map X)) ∧ Kept w w' := by
  obtain ⟨i0, hi0, hz0, hz1, hz2⟩ := info_parts Try.info3
  obtain ⟨a, b, o, cap, rfl, ha, hc⟩ := h
  obtain rfl := ha h0
  have hln : (natsV ((List.range n).map X)).length = n := by rw [natsV_len]; simp
  refine Calls.mono (show Calls Try.prog 42 _ _ _ from AnyE.slices_Clone Try.laysCloI i0 (.int .i64 0) 1 8 hi0 hz0 hz1 hz2 rfl (by decide) (fun w => Try.sizeOf3 w) b o n cap (natsV ((List.range n).map X)) w (by omega) (by unfold maxLen; omega) (by omega) (fun j u hu => ?_) (fun u hu => ?_)) ?_
  · have hj : j < n := by have := (List.getElem?_eq_some_iff.1 hu).1; omega
    rw [hc j hj, ← hu]
    simp [natsV, natV, hj]
  · obtain ⟨x, _, rfl⟩ := List.mem_map.1 hu; rfl
  · rintro e w' ⟨v', rfl, hO, _, hb⟩
    exact ⟨v', rfl, hO, Kept.below hb⟩
/-- an owned row of numbers as a row -/
theorem own_row {w : World} {base n : Nat} {v : Value} {X : Nat → Nat} (h : w.ownsRow base 3 1 v n (natsV ((List.range n).map X))) (h0 : 0 < n) : ∃ g cap f, v = .slice (some ⟨g, 0, none⟩) n cap ∧ base ≤ g ∧ n ≤ cap ∧ w.rowIs g 3 cap f ∧ ∀ j, j < n → f j = .int .i64 ((X j : Nat) : Int) := by
  rcases h.2 with ⟨_, h1⟩ | ⟨g, cap, cur, rfl, hb, hg, hn, _, hs, ht⟩
  · omega
  · rw [Nat.mul_one] at hs ht
    refine ⟨g, cap, fun j => cur.getD j undef, rfl, hb, hn, ⟨cur, hg, hs, fun j hj => ?_⟩, fun j hj => ?_⟩
    · have : j < cur.size := by omega
      simp [Array.getD, this]
    · have hjc : j < cur.size := by omega
      have e1 : (cur.toList.take n)[j]? = (natsV ((List.range n).map X))[j]? := by rw [ht]
      rw [List.getElem?_take, if_pos hj, Array.getElem?_toList] at e1
      have e2 : (natsV ((List.range n).map X))[j]? = some (.int .i64 ((X j : Nat) : Int)) := by simp [natsV, natV, hj]
      rw [e2] at e1
      simp [Array.getD, hjc]
      rw [Array.getElem?_eq_getElem hjc] at e1
      exact Option.some.inj e1
/-- v is a row of these numbers -/
def WaysAt (w : World) (v : Value) (n : Nat) (F : Nat → Nat) : Prop := ∃ g cap f, v = .slice (some ⟨g, 0, none⟩) n cap ∧ n ≤ cap ∧ w.rowIs g 3 cap f ∧ ∀ j, j < n → f j = .int .i64 ((F j : Nat) : Int)
set_option maxRecDepth 100000 in
set_option maxHeartbeats 1000000 in
theorem waysTo_any (w : World) (v : Value) (n : Nat) (on : Nat → Nat) (h : Nat) (hV : CellsAt w v n (fun i => .int .i64 ((on i : Nat) : Int))) (hn : n ≤ 8) (hh : h < n) (h0 : on 0 = 0) (ht : ∀ i, i < n → 0 < i → on i < i) :
    Calls Try.prog 43 #[.int .i64 (h : Int), v] w fun e w' => ∃ v', e = .returned v' ∧ WaysAt w' v' n (waysT on h) ∧ Kept w w' := by
  have CL := Lib.hid (clone_at w v n on hV (by omega) (by omega))
  have HT := Lib.hid ht
  have HV := Lib.hid hV
  obtain ⟨a, b, o, cap, rfl, ha, hc⟩ := hV
  obtain rfl := ha (by omega)
  have HC := Lib.hid hc
  have s1 : (h : Int) < (n : Int) := by omega
  have s0 : (0 : Int) ≤ (h : Int) := by omega
  obtain ⟨F, HF⟩ : ∃ F, Hid (F = waysT on h) := ⟨_, rfl⟩
  rw [← HF.out]
  have h00 := Lib.hid h0
  clear hc ht h0 ha HV
  go_enter Try.func43, Try.ntmps43
  go_wp2_with (first | (go_at_call 42; refine CL.out.mono ?_; rintro e w1 ⟨v1, rfl, hO1, hk1⟩; obtain ⟨g, cap1, f1, rfl, hbg, hn1, hr1, hf1⟩ := own_row hO1 (by omega); have d1 := hr1.cell (show h < cap1 by omega); rw [hf1 h hh] at d1; have d2 := hr1.frozen h; clear hO1))
  have hr2 := hr1.set h (.int .i64 (h : Int))
  have hf2 : Hid (∀ j, j < n → (if j = h then Value.int .i64 (h : Int) else f1 j) = .int .i64 ((upd on h h j : Nat) : Int)) := Lib.hid (fun j hj => by
    unfold upd
    by_cases e : j = h
    · rw [if_pos e, if_pos e]
    · rw [if_neg e, if_neg e]; exact hf1 j hj)
  have hk2 : Kept w (w1.setCell ⟨g, h, none⟩ (.int .i64 (h : Int))) := hk1.setCell (p := ⟨g, h, none⟩) hbg _
  clear hr1 d1 d2 hf1
  generalize w1.setCell ⟨g, h, none⟩ (.int .i64 (h : Int)) = w2 at *
  go_loopg [6] (h + 1) (fun k s6 wr => ∃ (i : Nat) (W : Nat → Nat) (f : Nat → Value), i < n ∧ k = i + 1 ∧ s6 = .int .i64 i ∧ Kept w wr ∧ wr.rowIs g 3 cap1 f ∧ Hid (∀ j, j < n → f j = .int .i64 ((W j : Nat) : Int)) ∧ Hid (wayL on i i W = F))
  case atStart => exact ⟨h, upd on h h, _, hh, rfl, rfl, hk2, hr2, hf2, by show _ = _; rw [HF.out]; rfl⟩
  case round =>
    clear hr2 hk2 hf2
    obtain ⟨i, W, f, hi, rfl, rfl, hK, hr, hf, hW⟩ := hrel
    by_cases hp : 0 < i
    · have s2 : (i : Int) > 0 := by omega
      have s3 : (i : Int) < (n : Int) := by omega
      have s4 : (0 : Int) ≤ (i : Int) := by omega
      have t0 := hK.cellSome (HC.out i hi)
      (try dsimp only at t0)
      have hon := HT.out i hi hp
      have hst := wayL_step HT.out hi hp W
      have e1 := hr.cell (show on i < cap1 by omega)
      have e2 := hr.frozen (on i)
      rw [hf.out (on i) (by omega)] at e1
      have hr' := hr.set (on i) (.int .i64 (i : Int))
      have hf' : Hid (∀ j, j < n → (if j = on i then Value.int .i64 (i : Int) else f j) = .int .i64 ((upd W (on i) i j : Nat) : Int)) := Lib.hid (fun j hj => by
        unfold upd
        by_cases e : j = on i
        · rw [if_pos e, if_pos e]
        · rw [if_neg e, if_neg e]; exact hf.out j hj)
      have hW' : Hid (wayL on (on i) (on i) (upd W (on i) i) = F) := by show _ = _; rw [← hst]; exact hW.out
      have hK' : Kept w (wr.setCell ⟨g, on i, none⟩ (.int .i64 (i : Int))) := hK.setCell (p := ⟨g, on i, none⟩) hbg _
      have t1 := hK'.cellSome (HC.out i hi)
      (try dsimp only at t1)
      have s5 : ((on i : Nat) : Int) < (n : Int) := by omega
      have s6 : (0 : Int) ≤ ((on i : Nat) : Int) := by omega
      obtain ⟨y, HY⟩ : ∃ y, y = on i := ⟨_, rfl⟩
      rw [← HY] at t0 t1 e1 e2 hr' hf' hW' hK' s5 s6 hon
      clear hst hf hW HY
      go_wp2_with fail
      go_roundg (y + 1)
      case measure => omega
      case rel => exact ⟨y, _, _, by omega, rfl, rfl, hK', hr', hf', hW'⟩
    · obtain rfl : i = 0 := by omega
      have s2 : ¬ ((0 : Nat) : Int) > 0 := by omega
      have hfin : WaysAt wr (.slice (some ⟨g, 0, none⟩) n cap1) n F := by
        refine ⟨g, cap1, f, rfl, hn1, hr, fun j hj => ?_⟩
        rw [hf.out j hj, ← hW.out]; rfl
      have HFIN := Lib.hid hfin
      clear hr hf hW hfin
      go_wp2_with fail
      go_ret
      exact ⟨_, rfl, HFIN.out, hK⟩
end Go.Proofs.Ytjjeoloifggdpaa
