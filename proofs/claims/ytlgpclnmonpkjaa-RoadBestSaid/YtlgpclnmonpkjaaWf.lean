/-
  The reference's Road.
-/
import Derived.Test.YtlgpclnmonpkjaaWe
namespace Go.Proofs.Ytlgpclnmonpkjaa
open Go.RowKit Go.Deep

theorem in_b (w : World) (v lo hi : Int) (b : Bool) (h : (decide (lo ≤ v) && decide (v ≤ hi)) = b) : Calls Try.prog 49 #[.int .i64 v, .int .i64 lo, .int .i64 hi] w fun e w' => e = .returned (.bool b) ∧ w = w' := by
  rw [← h]
  exact in_any w v lo hi
set_option maxRecDepth 100000 in
set_option maxHeartbeats 4000000 in
theorem rRoad_any (w : World) (v : Value) (nO nL : Nat) (fO fL : Nat → Int) (hR : RoadIn w v nO nL fO fL) (hnO : nO ≤ 1000000000) (hnL : nL ≤ 1000000000) :
    Calls Try.prog 17 #[v] w fun e w' => e = .returned (.bool (roadOk nO nL fO fL)) ∧ Kept w w' := by
  obtain ⟨x, y, rfl, ⟨aO, bO, oO, cO, rfl, haO, hcO⟩, ⟨aL, bL, oL, cL, rfl, haL, hcL⟩⟩ := hR
  obtain ⟨n0, HN0⟩ : ∃ n0, w.heap.size = n0 := ⟨_, rfl⟩
  obtain ⟨W1, hW1, hsz, q0, q1, hK⟩ := newbox2 w n0 HN0 (.slice aO nO cO) (.slice aL nL cL) 24
  by_cases e1 : 1 ≤ nO ∧ nO ≤ 10
  case neg =>
    have hbad : Hid (roadOk nO nL fO fL = false) := by
      show _ = _
      cases h : roadOk nO nL fO fL with
      | false => rfl
      | true => obtain ⟨h1, h2, _⟩ := roadOk_iff.1 h; omega
    have i1 : Hid ((decide ((1 : Int) ≤ (nO : Int)) && decide ((nO : Int) ≤ 10)) = false) := by show _ = _; simp; omega
    go_enter Try.func17, Try.ntmps17
    go_wp2_with (first | (go_at_call 49; refine (in_b _ _ _ _ _ (by first | exact i1.out)).mono ?_; rintro e w5 ⟨rfl, rfl⟩))
    go_ret
    exact ⟨ret_bool (by rw [hbad.out]), hK⟩
  have i1 : Hid ((decide ((1 : Int) ≤ (nO : Int)) && decide ((nO : Int) ≤ 10)) = true) := by show _ = _; simp; omega
  by_cases e3 : nL = nO
  case neg =>
    have hbad : Hid (roadOk nO nL fO fL = false) := by
      show _ = _
      cases h : roadOk nO nL fO fL with
      | false => rfl
      | true => obtain ⟨h1, h2, h3, _⟩ := roadOk_iff.1 h; omega
    have d3 : ((nL : Int) != (nO : Int)) = true := by simp; omega
    go_enter Try.func17, Try.ntmps17
    go_wp2_with (first | (go_at_call 49; refine (in_b _ _ _ _ _ (by first | exact i1.out)).mono ?_; rintro e w5 ⟨rfl, rfl⟩))
    go_ret
    exact ⟨ret_bool (by rw [hbad.out]), hK⟩
  subst e3
  have d3 : ((nL : Int) != (nL : Int)) = false := by simp
  obtain rfl := haO (by omega)
  obtain rfl := haL (by omega)
  have p0 := hK.cellSome (hcO 0 (by omega))
  have p1 := hK.cellSome (hcL 0 (by omega))
  have n1 : (0 : Int) < (nL : Int) := by omega
  rw [Nat.add_zero] at p0 p1
  by_cases e4 : fO 0 = 0
  case neg =>
    have hbad : Hid (roadOk nL nL fO fL = false) := by
      show _ = _
      cases h : roadOk nL nL fO fL with
      | false => rfl
      | true => obtain ⟨h1, h2, h3, h4, _⟩ := roadOk_iff.1 h; omega
    have d4 : (fO 0 != 0) = true := by simp; exact e4
    go_enter Try.func17, Try.ntmps17
    go_wp2_with (first | (go_at_call 49; refine (in_b _ _ _ _ _ (by first | exact i1.out)).mono ?_; rintro e w5 ⟨rfl, rfl⟩))
    go_ret
    exact ⟨ret_bool (by rw [hbad.out]), hK⟩
  have d4 : (fO 0 != 0) = false := by simp; exact e4
  by_cases e5 : fL 0 = 0
  case neg =>
    have hbad : Hid (roadOk nL nL fO fL = false) := by
      show _ = _
      cases h : roadOk nL nL fO fL with
      | false => rfl
      | true => obtain ⟨h1, h2, h3, h4, h5, _⟩ := roadOk_iff.1 h; omega
    have d5 : (fL 0 != 0) = true := by simp; exact e5
    go_enter Try.func17, Try.ntmps17
    go_wp2_with (first | (go_at_call 49; refine (in_b _ _ _ _ _ (by first | exact i1.out)).mono ?_; rintro e w5 ⟨rfl, rfl⟩))
    go_ret
    exact ⟨ret_bool (by rw [hbad.out]), hK⟩
  have d5 : (fL 0 != 0) = false := by simp; exact e5
  go_enter Try.func17, Try.ntmps17
  go_wp2_with (first | (go_at_call 49; refine (in_b _ _ _ _ _ (by first | exact i1.out)).mono ?_; rintro e w5 ⟨rfl, rfl⟩))
  clear hW1 hsz HN0 p0 p1 d3 d4 d5
  go_loopg [3] (nL - 1) (fun g s3 wr => ∃ i : Nat, 1 ≤ i ∧ i ≤ nL ∧ g = nL - i ∧ s3 = .int .i64 i ∧ Kept W1 wr ∧ Hid (∀ j, j < i → goodI fO fL j = true))
  case atStart => exact ⟨1, Nat.le_refl _, by omega, rfl, rfl, Kept.refl _, fun j hj => by obtain rfl : j = 0 := (by omega); rfl⟩
  case round =>
    obtain ⟨i, hi1, hi, rfl, rfl, hKr, hG⟩ := hrel
    obtain ⟨z0, z1, _⟩ := keep2 q0 q1 hKr
    by_cases hlt : i < nL
    · have p0 := (hK.trans hKr).cellSome (hcO i hlt)
      have p1 := (hK.trans hKr).cellSome (hcL i hlt)
      have m1 : (i : Int) < (nL : Int) := by omega
      have m2 : (0 : Int) ≤ (i : Int) := by omega
      have s1 : IntKind.i64.wrap ((i : Int) - 1) = (i : Int) - 1 := IntWalk.i64_in _ (by omega)
      have hbad0 : goodI fO fL i = false → roadOk nL nL fO fL = false := fun h => by
        unfold roadOk
        rw [allN_false hlt h]
        simp
      have BAD := Lib.hid hbad0
      clear hbad0
      by_cases c1 : 0 ≤ fO i ∧ fO i ≤ (i : Int) - 1
      case neg =>
        have hbad : Hid (roadOk nL nL fO fL = false) := BAD.out (by unfold goodI; simp; omega)
        have i2 : Hid ((decide ((0 : Int) ≤ fO i) && decide (fO i ≤ (i : Int) - 1)) = false) := by show _ = _; simp; omega
        clear c1
        go_wp2_with (first | (go_at_call 49; refine (in_b _ _ _ _ _ (by first | exact i2.out)).mono ?_; rintro e w5 ⟨rfl, rfl⟩))
        go_ret
        exact ⟨ret_bool (by rw [hbad.out]), hK.trans hKr⟩
      have i2 : Hid ((decide ((0 : Int) ≤ fO i) && decide (fO i ≤ (i : Int) - 1)) = true) := by show _ = _; simp; omega
      by_cases c2 : 1 ≤ fL i ∧ fL i ≤ 20
      case neg =>
        have hbad : Hid (roadOk nL nL fO fL = false) := BAD.out (by unfold goodI; simp; omega)
        have i3 : Hid ((decide ((1 : Int) ≤ fL i) && decide (fL i ≤ 20)) = false) := by show _ = _; simp; omega
        clear c1 c2
        go_wp2_with (first | (go_at_call 49; refine (in_b _ _ _ _ _ (by first | exact i2.out | exact i3.out)).mono ?_; rintro e w5 ⟨rfl, rfl⟩))
        go_ret
        exact ⟨ret_bool (by rw [hbad.out]), hK.trans hKr⟩
      have i3 : Hid ((decide ((1 : Int) ≤ fL i) && decide (fL i ≤ 20)) = true) := by show _ = _; simp; omega
      have hgi : Hid (goodI fO fL i = true) := by show _ = _; unfold goodI; simp; omega
      clear c1 c2
      go_wp2_with (first | (go_at_call 49; refine (in_b _ _ _ _ _ (by first | exact i2.out | exact i3.out)).mono ?_; rintro e w5 ⟨rfl, rfl⟩))
      go_roundg (nL - (i + 1))
      case measure => omega
      case rel => exact ⟨i + 1, by omega, by omega, rfl, by go_num, hKr, fun j hj => by
        by_cases ej : j = i
        · rw [ej]; exact hgi.out
        · exact hG.out j (by omega)⟩
    · obtain rfl : i = nL := by omega
      have hok : Hid (roadOk i i fO fL = true) := by
        show _ = _
        unfold roadOk
        rw [allN_true.2 hG.out]
        simp; omega
      go_wp2_with fail
      go_ret
      exact ⟨ret_bool hok.out.symm, hK.trans hKr⟩
end Go.Proofs.Ytlgpclnmonpkjaa
