/-
  GaitTransforms.
-/
import Derived.Test.YtofgadehblpoiaaDoorZe
namespace Go.Proofs.YtofgadehblpoiaaDoor
open Go.RowKit Go.Deep Go.Shelf

theorem ints_at {f : Nat → Int} {k j : Nat} {u : Value} (h : (ints f k)[j]? = some u) : j < k ∧ u = .int .i64 (f j) := by
  unfold ints at h
  rw [List.getElem?_map] at h
  by_cases e : j < k
  · rw [List.getElem?_range e] at h
    exact ⟨e, by simpa using h.symm⟩
  · rw [List.getElem?_eq_none (by simpa using e)] at h; cases h
theorem same_refl (n : Nat) (f : Nat → Int) : same n f n f = true := by
  unfold same
  rw [decide_eq_true rfl, Bool.true_and, allN_true]
  exact fun i _ => beq_self_eq_true _
theorem own_ints_at {w : World} {base : Nat} {v : Value} {k : Nat} {f : Nat → Int} (h : w.ownsRow base 3 1 v k (ints f k)) : IntsAt w v k f := ints_own h
set_option maxRecDepth 100000 in
set_option maxHeartbeats 8000000 in
theorem transforms_any (w : World) (a : Option Addr) (l cap : Nat) (f : Nat → Int) (hL : IntsAt w (.slice a l cap) l f) (hl : l ≤ cap) (hnil : a = none → cap = 0) (hcap : cap ≤ maxLen) :
    Calls Tryd.prog 6 #[.slice a l cap] w (LivesPost w) := by
  obtain ⟨a', b, o, cap', e, ha, hc⟩ := hL
  cases e
  unfold maxLen at hcap
  obtain ⟨i0, hi, hz0, hz1, hz2⟩ := info_parts Tryd.info3
  have hO := own_zero w w.heap.size 3 (Nat.le_refl _)
  have hk0 : Kept w (w.alloc (.cells #[] 3)) := (Kept.refl w).alloc _
  have hs0 : w.heap.size ≤ (w.alloc (.cells #[] 3)).heap.size := by simp
  have LV := Lib.hid lives_any
  have TR := Lib.hid (fun W v m (h : IntsAt W v m f) (hm : m ≤ 1000000) => Transform_any W v m f h hm)
  unfold TrAns at TR
  cases a with
  | none =>
    obtain rfl := hnil rfl
    obtain rfl : l = 0 := by omega
    have hbc : trC 0 f = 2 := by unfold trC; rw [if_neg (by omega), if_pos (by decide)]
    have TRm := Lib.hid (fun W v (h : IntsAt W v 0 f) => TR.out W v 0 h (by omega))
    simp only [hbc, show ¬ (2 : Int) = 0 by decide, if_false] at TRm
    have RP := Lib.hid (fun W => rPower_any W 0 (by omega))
    rw [show pwr 0 = -1 by decide] at RP
    have hI0 : IntsAt (w.alloc (.cells #[] 3)) (.slice (some ⟨w.heap.size, 0, none⟩) 0 0) 0 f := ⟨_, _, 0, 0, rfl, fun _ => rfl, fun i hi => absurd hi (by omega)⟩
    go_enter Tryd.func6, Tryd.ntmps6
    go_wp2_with (first
      | (at_builtin; refine wpList_append_own_none rfl _ _ 23 rfl w.heap.size 3 i0 1 Tryd.underlying23 hi _ _ _ rfl hO rfl ?_)
      | (go_at_call 36; refine (TRm.out _ _ hI0).mono ?_; rintro e w3 ⟨hk3, rfl⟩)
      | (go_at_call 37; refine (RP.out _).mono ?_; rintro e w4 ⟨rfl, rfl⟩)
      | (go_at_call 20; refine (LV.out _).mono ?_; rintro e w5 ⟨rfl, hk5⟩))
    go_loopg [6, 7] 0 (fun g s6 s7 wr => g = 0 ∧ s6 = .int .i64 2 ∧ s7 = .int .i64 0 ∧ w3 = wr)
    case atStart => exact ⟨rfl, rfl, rfl, rfl⟩
    case round =>
      obtain ⟨rfl, rfl, rfl, rfl⟩ := hrel
      go_wp2_with (first
        | (go_at_call 20; refine (LV.out _).mono ?_; rintro e w5 ⟨rfl, hk5⟩))
      go_ret
      exact ⟨rfl, (hk0.trans hk3).trans hk5⟩
  | some ad =>
    have hcell : ∀ i, i < l → w.cell? (ad.add i) = some (.int .i64 (f i)) := fun i hi => by
      have e := ha (by omega)
      cases e
      rw [add_at]
      exact hc i hi
    obtain ⟨m, HM⟩ : ∃ m, Hid (m = min l 65) := ⟨_, rfl⟩
    have hml : m ≤ l := by rw [HM.out]; omega
    have hm65 : m ≤ 65 := by rw [HM.out]; omega
    have g2 : (m : Int) ≤ cap := by omega
    have g3 : (0 : Int) ≤ m := by omega
    have g4 : min (l : Int) 65 = (m : Int) := by rw [HM.out]; omega
    have g5 : IntKind.i64.wrap (m : Int) = (m : Int) := IntWalk.i64_in _ (by omega)
    clear ha hc HM
    by_cases h64 : 64 < m
    · have s1 : (64 : Int) < (m : Int) := by omega
      have hbc : trC m f = 3 := by unfold trC; rw [if_pos h64]
      have TRm := Lib.hid (fun W v (h : IntsAt W v m f) => TR.out W v m h (by omega))
      simp only [hbc, show ¬ (3 : Int) = 0 by decide, if_false] at TRm
      go_enter Tryd.func6, Tryd.ntmps6
      go_wp2_with (first | (at_builtin; refine wpList_append_own _ rfl _ _ 23 rfl w.heap.size 3 i0 (.int .i64 0) 1 8 Tryd.underlying23 hi hz0 hz1 hz2 rfl (by decide) _ _ _ rfl hO ad m cap (ints f m) rfl (by simp [ints]) ?c1 ?c2 ?c3 ?c4 ?c5 ?_))
      case c1 => exact fun j u h => by obtain ⟨h1, rfl⟩ := ints_at h; exact hk0.cellSome (hcell j (by omega))
      case c2 => intro u hu; simp [ints] at hu; obtain ⟨i, _, rfl⟩ := hu; rfl
      case c3 => unfold maxLen; omega
      case c4 => omega
      try (case c5 => first | (simp; done) | (simp; omega) | omega)
      intro v' w2 hO2 hgr _
      have hO2' : w2.ownsRow w.heap.size 3 1 v' m (ints f m) := by simpa using hO2
      have hk2 : Kept w w2 := hk0.step (grew_X hgr hO) (fun i hi => by omega)
      have hI2 := ints_own hO2'
      obtain ⟨va, vcap, rfl⟩ := own_shape hO2'
      clear hO2 hgr hO2' hcell
      go_wp2_with (first
        | (go_at_call 36; refine (TRm.out _ _ hI2).mono ?_; rintro e w3 ⟨hk3, rfl⟩)
        | (go_at_call 37; refine (RP.out _).mono ?_; rintro e w4 ⟨rfl, rfl⟩)
        | (go_at_call 20; refine (LV.out _).mono ?_; rintro e w5 ⟨rfl, hk5⟩))
      go_loopg [6, 7] 0 (fun g s6 s7 wr => g = 0 ∧ s6 = .int .i64 3 ∧ s7 = .int .i64 0 ∧ w3 = wr)
      case atStart => exact ⟨rfl, rfl, rfl, rfl⟩
      case round =>
        obtain ⟨rfl, rfl, rfl, rfl⟩ := hrel
        have hm0 : (0 : Int) < (m : Int) := by omega
        go_wp2_with (first
          | (go_at_call 20; refine (LV.out _).mono ?_; rintro e w5 ⟨rfl, hk5⟩))
        go_ret
        exact ⟨rfl, (hk2.trans hk3).trans hk5⟩
    · have s1 : ¬ (64 : Int) < (m : Int) := by omega
      have RP := Lib.hid (fun W => rPower_any W m (by omega))
      have TRm := Lib.hid (fun W v (h : IntsAt W v m f) => TR.out W v m h (by omega))
      by_cases hp : pwr m < 0
      · have hbc : trC m f = 2 := by unfold trC; rw [if_neg h64, if_pos hp]
        simp only [hbc, show ¬ (2 : Int) = 0 by decide, if_false] at TRm
        generalize pwr m = pw at *
        clear hbc
        go_enter Tryd.func6, Tryd.ntmps6
        go_wp2_with (first | (at_builtin; refine wpList_append_own _ rfl _ _ 23 rfl w.heap.size 3 i0 (.int .i64 0) 1 8 Tryd.underlying23 hi hz0 hz1 hz2 rfl (by decide) _ _ _ rfl hO ad m cap (ints f m) rfl (by simp [ints]) ?c1 ?c2 ?c3 ?c4 ?c5 ?_))
        case c1 => exact fun j u h => by obtain ⟨h1, rfl⟩ := ints_at h; exact hk0.cellSome (hcell j (by omega))
        case c2 => intro u hu; simp [ints] at hu; obtain ⟨i, _, rfl⟩ := hu; rfl
        case c3 => unfold maxLen; omega
        case c4 => omega
        try (case c5 => first | (simp; done) | (simp; omega) | omega)
        intro v' w2 hO2 hgr _
        have hO2' : w2.ownsRow w.heap.size 3 1 v' m (ints f m) := by simpa using hO2
        have hk2 : Kept w w2 := hk0.step (grew_X hgr hO) (fun i hi => by omega)
        have hI2 := ints_own hO2'
        obtain ⟨va, vcap, rfl⟩ := own_shape hO2'
        clear hO2 hgr hO2' hcell
        go_wp2_with (first
          | (go_at_call 36; refine (TRm.out _ _ hI2).mono ?_; rintro e w3 ⟨hk3, rfl⟩)
          | (go_at_call 37; refine (RP.out _).mono ?_; rintro e w4 ⟨rfl, rfl⟩)
          | (go_at_call 20; refine (LV.out _).mono ?_; rintro e w5 ⟨rfl, hk5⟩))
        go_loopg [6, 7] 0 (fun g s6 s7 wr => g = 0 ∧ s6 = .int .i64 2 ∧ s7 = .int .i64 0 ∧ w3 = wr)
        case atStart => exact ⟨rfl, rfl, rfl, rfl⟩
        case round =>
          obtain ⟨rfl, rfl, rfl, rfl⟩ := hrel
          by_cases hm0 : (0 : Int) < (m : Int)
          · go_wp2_with (first
              | (go_at_call 20; refine (LV.out _).mono ?_; rintro e w5 ⟨rfl, hk5⟩))
            go_ret
            exact ⟨rfl, (hk2.trans hk3).trans hk5⟩
          · go_wp2_with (first
              | (go_at_call 20; refine (LV.out _).mono ?_; rintro e w5 ⟨rfl, hk5⟩))
            go_ret
            exact ⟨rfl, (hk2.trans hk3).trans hk5⟩
      · have hcd : Hid (trC m f = if allN (fun j => decide (-1000000 ≤ f j ∧ f j ≤ 1000000)) m then 0 else 1) := by show _ = _; unfold trC; rw [if_neg h64, if_neg hp]
        generalize pwr m = pw at *
        cases hall : allN (fun j => decide (-1000000 ≤ f j ∧ f j ≤ 1000000)) m with
        | true =>
          have hbc : trC m f = 0 := by rw [hcd.out, hall]; rfl
          simp only [hbc, if_true] at TRm
          have HF : Hid (∀ j, j < m → -1000000 ≤ f j ∧ f j ≤ 1000000) := fun j hj => by simpa using allN_true.1 hall j hj
          have RT := Lib.hid (fun W v (h : IntsAt W v m f) => rTransform_any W v m f h (by omega) HF.out)
          unfold IntsPost at RT
          have hN : m ≤ 1000000 := by omega
          have hsame := same_refl m (trN m f)
          clear hcd hall hbc
          go_enter Tryd.func6, Tryd.ntmps6
          go_wp2_with (first | (at_builtin; refine wpList_append_own _ rfl _ _ 23 rfl w.heap.size 3 i0 (.int .i64 0) 1 8 Tryd.underlying23 hi hz0 hz1 hz2 rfl (by decide) _ _ _ rfl hO ad m cap (ints f m) rfl (by simp [ints]) ?c1 ?c2 ?c3 ?c4 ?c5 ?_))
          case c1 => exact fun j u h => by obtain ⟨h1, rfl⟩ := ints_at h; exact hk0.cellSome (hcell j (by omega))
          case c2 => intro u hu; simp [ints] at hu; obtain ⟨i, _, rfl⟩ := hu; rfl
          case c3 => unfold maxLen; omega
          case c4 => omega
          try (case c5 => first | (simp; done) | (simp; omega) | omega)
          intro v' w2 hO2 hgr _
          have hO2' : w2.ownsRow w.heap.size 3 1 v' m (ints f m) := by simpa using hO2
          have hk2 : Kept w w2 := hk0.step (grew_X hgr hO) (fun i hi => by omega)
          have hI2 := ints_own hO2'
          obtain ⟨va, vcap, rfl⟩ := own_shape hO2'
          clear hO2 hgr hO2' hcell
          have HI2 := Lib.hid hI2
          obtain ⟨_, b2, o2, cap2, he2, ha2, hc2⟩ := hI2
          cases he2
          have HC2 := Lib.hid hc2
          clear hc2
          go_wp2_with (first
            | (go_at_call 36; refine (TRm.out _ _ HI2.out).mono ?_; rintro e w3 ⟨hk3, r, rfl, hr1, hr2⟩)
            | (go_at_call 37; refine (RP.out _).mono ?_; rintro e w4 ⟨rfl, rfl⟩))
          have HR := Lib.hid hr2
          clear hr2
          go_loopg [6, 7] m (fun g s6 s7 wr => ∃ i : Nat, i ≤ m ∧ g = m - i ∧ s6 = .int .i64 0 ∧ s7 = .int .i64 i ∧ w3 = wr)
          case atStart => exact ⟨0, Nat.zero_le _, rfl, rfl, rfl, rfl⟩
          case round =>
            obtain ⟨i, hi', rfl, rfl, rfl, rfl⟩ := hrel
            by_cases hlt : i < m
            · have s2 : (i : Int) < (m : Int) := by omega
              have s3 : (0 : Int) ≤ (i : Int) := by omega
              obtain rfl := ha2 (by omega)
              have t0 := hk3.cellSome (HC2.out i hlt)
              (try dsimp only at t0)
              obtain ⟨q1, q2⟩ := HF.out i hlt
              generalize f i = x at *
              have s4 : ¬ x < -1000000 := by omega
              have s5 : ¬ x > 1000000 := by omega
              go_wp2_with fail
              go_roundg (m - (i + 1))
              case measure => omega
              case rel => exact ⟨i + 1, by omega, rfl, rfl, by first | rfl | go_num, rfl⟩
            · obtain rfl : i = m := by omega
              have s2 : ¬ (i : Int) < (i : Int) := by omega
              go_wp2_with (first
                | (go_at_call 38; refine (RT.out _ _ (HI2.out.kept hk3)).mono ?_; rintro e w6 ⟨v6, rfl, hk6, hO6⟩; obtain ⟨va6, vcap6, rfl⟩ := own_shape hO6)
                | (go_at_call 21; refine (same_any _ _ _ _ _ _ _ (CellsAt.of_row (hk6.row HR.out)) (ints_own hO6) hN hN).mono ?_; rintro e w7 ⟨rfl, hq7⟩; rw [hsame])
                | (go_at_call 20; refine (LV.out _).mono ?_; rintro e w5 ⟨rfl, hk5⟩))
              go_ret
              exact ⟨rfl, (((hk2.trans hk3).trans hk6).trans hq7.kept).trans hk5⟩
        | false =>
          have hbc : trC m f = 1 := by rw [hcd.out, hall]; rfl
          simp only [hbc, show ¬ (1 : Int) = 0 by decide, if_false] at TRm
          have HALL := Lib.hid hall
          clear hcd hall hbc
          go_enter Tryd.func6, Tryd.ntmps6
          go_wp2_with (first | (at_builtin; refine wpList_append_own _ rfl _ _ 23 rfl w.heap.size 3 i0 (.int .i64 0) 1 8 Tryd.underlying23 hi hz0 hz1 hz2 rfl (by decide) _ _ _ rfl hO ad m cap (ints f m) rfl (by simp [ints]) ?c1 ?c2 ?c3 ?c4 ?c5 ?_))
          case c1 => exact fun j u h => by obtain ⟨h1, rfl⟩ := ints_at h; exact hk0.cellSome (hcell j (by omega))
          case c2 => intro u hu; simp [ints] at hu; obtain ⟨i, _, rfl⟩ := hu; rfl
          case c3 => unfold maxLen; omega
          case c4 => omega
          try (case c5 => first | (simp; done) | (simp; omega) | omega)
          intro v' w2 hO2 hgr _
          have hO2' : w2.ownsRow w.heap.size 3 1 v' m (ints f m) := by simpa using hO2
          have hk2 : Kept w w2 := hk0.step (grew_X hgr hO) (fun i hi => by omega)
          have hI2 := ints_own hO2'
          obtain ⟨va, vcap, rfl⟩ := own_shape hO2'
          clear hO2 hgr hO2' hcell
          have HI2 := Lib.hid hI2
          obtain ⟨_, b2, o2, cap2, he2, ha2, hc2⟩ := hI2
          cases he2
          have HC2 := Lib.hid hc2
          clear hc2
          go_wp2_with (first
            | (go_at_call 36; refine (TRm.out _ _ HI2.out).mono ?_; rintro e w3 ⟨hk3, rfl⟩)
            | (go_at_call 37; refine (RP.out _).mono ?_; rintro e w4 ⟨rfl, rfl⟩))
          go_loopg [6, 7] (m + 1) (fun g s6 s7 wr => ∃ (i : Nat) (bd : Bool), i ≤ m ∧ g = m + 1 - i ∧ s6 = .int .i64 (if bd then 1 else 0) ∧ s7 = .int .i64 i ∧ Quiet w3 wr ∧ Hid (bd = false → allN (fun j => decide (-1000000 ≤ f j ∧ f j ≤ 1000000)) i = true))
          case atStart => exact ⟨0, false, Nat.zero_le _, rfl, rfl, rfl, Quiet.refl _, fun _ => rfl⟩
          case round =>
            obtain ⟨i, bd, hi', rfl, rfl, rfl, hQ, hA⟩ := hrel
            cases bd with
            | true =>
              simp only [if_true]
              by_cases hlt : i < m
              · have s2 : (i : Int) < (m : Int) := by omega
                go_wp2_with (first
                  | (go_at_call 20; refine (LV.out _).mono ?_; rintro e w5 ⟨rfl, hk5⟩))
                go_ret
                exact ⟨rfl, ((hk2.trans hk3).trans hQ.kept).trans hk5⟩
              · obtain rfl : i = m := by omega
                have s2 : ¬ (i : Int) < (i : Int) := by omega
                go_wp2_with (first
                  | (go_at_call 20; refine (LV.out _).mono ?_; rintro e w5 ⟨rfl, hk5⟩))
                go_ret
                exact ⟨rfl, ((hk2.trans hk3).trans hQ.kept).trans hk5⟩
            | false =>
              simp only [Bool.false_eq_true, if_false]
              have hA1 := Lib.hid (hA.out rfl)
              clear hA
              by_cases hlt : i < m
              · have s2 : (i : Int) < (m : Int) := by omega
                have s3 : (0 : Int) ≤ (i : Int) := by omega
                obtain rfl := ha2 (by omega)
                have t0 := (hk3.trans hQ.kept).cellSome (HC2.out i hlt)
                (try dsimp only at t0)
                have hyes : Hid (-1000000 ≤ f i → f i ≤ 1000000 → allN (fun j => decide (-1000000 ≤ f j ∧ f j ≤ 1000000)) (i + 1) = true) := fun h1 h2 => allN_step hA1.out (decide_eq_true ⟨h1, h2⟩)
                clear hA1
                generalize f i = x at *
                by_cases h1 : x < -1000000
                · clear hyes
                  go_wp2_with fail
                  go_roundg (m + 1 - (i + 1))
                  case measure => omega
                  case rel => exact ⟨i + 1, true, by omega, rfl, rfl, by first | rfl | go_num, hQ, fun h => by cases h⟩
                · by_cases h2 : x > 1000000
                  · clear hyes
                    go_wp2_with fail
                    go_roundg (m + 1 - (i + 1))
                    case measure => omega
                    case rel => exact ⟨i + 1, true, by omega, rfl, rfl, by first | rfl | go_num, hQ, fun h => by cases h⟩
                  · have hA2 := Lib.hid (hyes.out (by omega) (by omega))
                    clear hyes
                    go_wp2_with fail
                    go_roundg (m + 1 - (i + 1))
                    case measure => omega
                    case rel => exact ⟨i + 1, false, by omega, rfl, rfl, by first | rfl | go_num, hQ, fun _ => hA2.out⟩
              · obtain rfl : i = m := by omega
                exact absurd (hA1.out.symm.trans HALL.out) (by decide)
end Go.Proofs.YtofgadehblpoiaaDoor
