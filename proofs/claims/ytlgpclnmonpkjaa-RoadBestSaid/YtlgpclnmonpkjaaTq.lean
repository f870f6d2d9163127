/-
  Package road: treeOf.
-/
import Derived.Test.YtlgpclnmonpkjaaTp
namespace Go.Proofs.Ytlgpclnmonpkjaa
open Go.RowKit Go.Deep

/-- a road as it comes in -/
def RoadIn (w : World) (v : Value) (nO nL : Nat) (fO fL : Nat → Int) : Prop := ∃ x y, v = .agg #[x, y] ∧ IntsAt w x nO fO ∧ IntsAt w y nL fL
theorem RoadIn.kept {w w' : World} {v : Value} {nO nL : Nat} {fO fL : Nat → Int} (h : RoadIn w v nO nL fO fL) (k : Kept w w') : RoadIn w' v nO nL fO fL := by
  obtain ⟨x, y, e, h1, h2⟩ := h
  exact ⟨x, y, e, h1.kept k, h2.kept k⟩
def goodI (fO fL : Nat → Int) (i : Nat) : Bool := decide (i = 0) || (decide (0 ≤ fO i) && decide (fO i < i) && decide (1 ≤ fL i) && decide (fL i ≤ 20))
def roadOk (nO nL : Nat) (fO fL : Nat → Int) : Bool := decide (1 ≤ nO) && decide (nO ≤ 10) && decide (nL = nO) && decide (fO 0 = 0) && decide (fL 0 = 0) && allN (goodI fO fL) nO
def roadR (nO : Nat) (fO fL : Nat → Int) : Road := ⟨nO, fun i => (fO i).toNat, fun i => (fL i).toNat⟩
theorem roadOk_iff {nO nL : Nat} {fO fL : Nat → Int} : roadOk nO nL fO fL = true ↔ 1 ≤ nO ∧ nO ≤ 10 ∧ nL = nO ∧ fO 0 = 0 ∧ fL 0 = 0 ∧ ∀ i, 1 ≤ i → i < nO → 0 ≤ fO i ∧ fO i < i ∧ 1 ≤ fL i ∧ fL i ≤ 20 := by
  unfold roadOk
  simp only [Bool.and_eq_true, decide_eq_true_eq, allN_true]
  constructor
  · rintro ⟨⟨⟨⟨⟨h1, h2⟩, h3⟩, h4⟩, h5⟩, h6⟩
    refine ⟨h1, h2, h3, h4, h5, fun i hi hn => ?_⟩
    have := h6 i hn
    unfold goodI at this
    simp only [Bool.or_eq_true, Bool.and_eq_true, decide_eq_true_eq] at this
    omega
  · rintro ⟨h1, h2, h3, h4, h5, h6⟩
    refine ⟨⟨⟨⟨⟨h1, h2⟩, h3⟩, h4⟩, h5⟩, fun i hn => ?_⟩
    unfold goodI
    simp only [Bool.or_eq_true, Bool.and_eq_true, decide_eq_true_eq]
    by_cases e : i = 0
    · exact Or.inl e
    · have := h6 i (by omega) hn
      exact Or.inr (by omega)
theorem roadR_ok {nO nL : Nat} {fO fL : Nat → Int} (h : roadOk nO nL fO fL = true) : (roadR nO fO fL).Ok := by
  obtain ⟨h1, h2, h3, h4, h5, h6⟩ := roadOk_iff.1 h
  refine ⟨h1, h2, ?_, ?_, fun i hi hn => ?_, fun i hi hn => ?_, fun i hn => ?_⟩
  · show (fO 0).toNat = 0; omega
  · show (fL 0).toNat = 0; omega
  · have := h6 i hi hn; show (fO i).toNat < i; omega
  · have := h6 i hi hn; show 1 ≤ (fL i).toNat; omega
  · show (fL i).toNat ≤ 20
    by_cases e : i = 0
    · subst e; omega
    · have := h6 i (by omega) hn; omega
theorem roadR_vals {nO nL : Nat} {fO fL : Nat → Int} (h : roadOk nO nL fO fL = true) : (∀ i, i < nO → fO i = (((roadR nO fO fL).on i : Nat) : Int)) ∧ ∀ i, i < nO → fL i = (((roadR nO fO fL).len i : Nat) : Int) := by
  obtain ⟨h1, h2, h3, h4, h5, h6⟩ := roadOk_iff.1 h
  refine ⟨fun i hn => ?_, fun i hn => ?_⟩
  · show fO i = ((fO i).toNat : Int)
    by_cases e : i = 0
    · subst e; omega
    · have := h6 i (by omega) hn; omega
  · show fL i = ((fL i).toNat : Int)
    by_cases e : i = 0
    · subst e; omega
    · have := h6 i (by omega) hn; omega
theorem fin3a {w W0 W : World} {b : Nat} {t : TypeId} {x0 y0 z0 : Value} (h0 : W0.rowIs b t 3 (bx3 x0 y0 z0)) (hk0 : Kept W0 W) (hk : Kept w W) (hb : w.heap.size ≤ b) (x y z : Value) :
    W.frozen? ⟨b, 0, none⟩ = false ∧ W.frozen? ⟨b, 1, none⟩ = false ∧ W.frozen? ⟨b, 2, none⟩ = false ∧ W.cell? ⟨b, 0, none⟩ = some x0 ∧ W.cell? ⟨b, 1, none⟩ = some y0 ∧ W.cell? ⟨b, 2, none⟩ = some z0 ∧
    (((W.setCell ⟨b, 0, none⟩ x).setCell ⟨b, 1, none⟩ y).setCell ⟨b, 2, none⟩ z).cell? ⟨b, 0, none⟩ = some x ∧ (((W.setCell ⟨b, 0, none⟩ x).setCell ⟨b, 1, none⟩ y).setCell ⟨b, 2, none⟩ z).cell? ⟨b, 1, none⟩ = some y ∧ (((W.setCell ⟨b, 0, none⟩ x).setCell ⟨b, 1, none⟩ y).setCell ⟨b, 2, none⟩ z).cell? ⟨b, 2, none⟩ = some z ∧
    Kept w (((W.setCell ⟨b, 0, none⟩ x).setCell ⟨b, 1, none⟩ y).setCell ⟨b, 2, none⟩ z) :=
  have h := hk0.row h0
  have h2 := bx3_set h x y z
  ⟨h.frozen 0, h.frozen 1, h.frozen 2, h.cell (i := 0) (by omega), h.cell (i := 1) (by omega), h.cell (i := 2) (by omega), h2.cell (i := 0) (by omega), h2.cell (i := 1) (by omega), h2.cell (i := 2) (by omega), ((hk.setCell (p := ⟨b, 0, none⟩) hb x).setCell (p := ⟨b, 1, none⟩) hb y).setCell (p := ⟨b, 2, none⟩) hb z⟩
def TreePost (w : World) (nO nL : Nat) (fO fL : Nat → Int) (e : Ending) (w' : World) : Prop :=
  if roadOk nO nL fO fL = true then (∃ v, e = .returned (.tuple #[v, .int .i64 0]) ∧ TreeAt w' v (roadR nO fO fL) ∧ Kept w w') else e = .returned (.tuple #[.agg #[.slice none 0 0, .slice none 0 0, .slice none 0 0], .int .i64 1]) ∧ Kept w w'
/-- of the road that came in, with a row of its own for how deep the places are -/
def TreeNew (w : World) (v rv : Value) (n : Nat) : Prop := ∃ x y dp, rv = .agg #[x, y] ∧ v = .agg #[x, y, .slice (some ⟨dp, 0, none⟩) n n] ∧ w.heap.size ≤ dp
set_option maxRecDepth 100000 in
set_option maxHeartbeats 4000000 in
theorem treeOf_any (w : World) (v : Value) (nO nL : Nat) (fO fL : Nat → Int) (hR : RoadIn w v nO nL fO fL) (hnO : nO ≤ 1000000000) (hnL : nL ≤ 1000000000) :
    Calls Try.prog 46 #[v] w (fun e w' => TreePost w nO nL fO fL e w' ∧ (roadOk nO nL fO fL = true → ∃ tv, e = .returned (.tuple #[tv, .int .i64 0]) ∧ TreeNew w tv v nO)) := by
  obtain ⟨x, y, rfl, ⟨aO, bO, oO, cO, rfl, haO, hcO⟩, ⟨aL, bL, oL, cL, rfl, haL, hcL⟩⟩ := hR
  obtain ⟨n0, HN0⟩ : ∃ n0, w.heap.size = n0 := ⟨_, rfl⟩
  obtain ⟨W1, hW1, hsz, q0, q1, hK⟩ := newbox2 w n0 HN0 (.slice aO nO cO) (.slice aL nL cL) 24
  have hrow := box_row3 W1 (.slice none 0 0) (.slice none 0 0) (.slice none 0 0) 88 (n0 + 1) hsz
  obtain ⟨W2, hW2, hsz2, g0, g1, g2, hK1⟩ := newbox3 W1 (n0 + 1) hsz (.slice none 0 0) (.slice none 0 0) (.slice none 0 0) 88
  rw [hW2] at hrow
  obtain ⟨q0', q1', _⟩ := keep2 q0 q1 hK1
  have hK2 := hK.trans hK1
  have hge : w.heap.size ≤ n0 + 1 := by omega
  clear g0 g1 g2 q0 q1 hK hK1
  obtain ⟨f0, f1, f2, y0, y1, y2, r0, r1, r2, hKF⟩ := fin3a hrow (Kept.refl _) (hK2 : Kept w W2) hge (.slice none 0 0) (.slice none 0 0) (.slice none 0 0)
  by_cases e1 : nO < 1
  · have hbad : Hid (roadOk nO nL fO fL = false) := by
      show _ = _
      cases h : roadOk nO nL fO fL with
      | false => rfl
      | true => obtain ⟨h1, _⟩ := roadOk_iff.1 h; omega
    have d1 : (nO : Int) < 1 := by omega
    go_enter Try.func46, Try.ntmps46
    go_wp2_with fail
    exact bodyPost_ret (v := .tuple #[.agg #[.slice none 0 0, .slice none 0 0, .slice none 0 0], .int .i64 1]) (by simp [results, Try.results46, go_sem, r0, r1, r2]) rfl ⟨by show TreePost _ _ _ _ _ _ _; unfold TreePost; rw [if_neg (by simp [hbad.out])]; exact ⟨rfl, hKF⟩, fun h => by rw [hbad.out] at h; cases h⟩
  by_cases e2 : 10 < nO
  · have hbad : Hid (roadOk nO nL fO fL = false) := by
      show _ = _
      cases h : roadOk nO nL fO fL with
      | false => rfl
      | true => obtain ⟨h1, h2, _⟩ := roadOk_iff.1 h; omega
    have d1 : ¬ (nO : Int) < 1 := by omega
    have d2 : (10 : Int) < (nO : Int) := by omega
    go_enter Try.func46, Try.ntmps46
    go_wp2_with fail
    exact bodyPost_ret (v := .tuple #[.agg #[.slice none 0 0, .slice none 0 0, .slice none 0 0], .int .i64 1]) (by simp [results, Try.results46, go_sem, r0, r1, r2]) rfl ⟨by show TreePost _ _ _ _ _ _ _; unfold TreePost; rw [if_neg (by simp [hbad.out])]; exact ⟨rfl, hKF⟩, fun h => by rw [hbad.out] at h; cases h⟩
  have d1 : ¬ (nO : Int) < 1 := by omega
  have d2 : ¬ (10 : Int) < (nO : Int) := by omega
  by_cases e3 : nL = nO
  case neg =>
    have hbad : Hid (roadOk nO nL fO fL = false) := by
      show _ = _
      cases h : roadOk nO nL fO fL with
      | false => rfl
      | true => obtain ⟨h1, h2, h3, _⟩ := roadOk_iff.1 h; omega
    have d3 : ((nL : Int) != (nO : Int)) = true := by simp; omega
    go_enter Try.func46, Try.ntmps46
    go_wp2_with fail
    exact bodyPost_ret (v := .tuple #[.agg #[.slice none 0 0, .slice none 0 0, .slice none 0 0], .int .i64 1]) (by simp [results, Try.results46, go_sem, r0, r1, r2]) rfl ⟨by show TreePost _ _ _ _ _ _ _; unfold TreePost; rw [if_neg (by simp [hbad.out])]; exact ⟨rfl, hKF⟩, fun h => by rw [hbad.out] at h; cases h⟩
  subst e3
  have d3 : ((nL : Int) != (nL : Int)) = false := by simp
  obtain rfl := haO (by omega)
  obtain rfl := haL (by omega)
  have p0 := hK2.cellSome (hcO 0 (by omega))
  have p1 := hK2.cellSome (hcL 0 (by omega))
  have n1 : (0 : Int) < (nL : Int) := by omega
  rw [Nat.add_zero] at p0 p1
  by_cases e4 : fO 0 = 0
  case neg =>
    have hbad : Hid (roadOk nL nL fO fL = false) := by
      show _ = _
      cases h : roadOk nL nL fO fL with
      | false => rfl
      | true => obtain ⟨h1, h2, h3, h4, _⟩ := roadOk_iff.1 h; omega
    have d4 : (fO 0 != 0) = true := by simp; exact e4
    go_enter Try.func46, Try.ntmps46
    go_wp2_with fail
    exact bodyPost_ret (v := .tuple #[.agg #[.slice none 0 0, .slice none 0 0, .slice none 0 0], .int .i64 1]) (by simp [results, Try.results46, go_sem, r0, r1, r2]) rfl ⟨by show TreePost _ _ _ _ _ _ _; unfold TreePost; rw [if_neg (by simp [hbad.out])]; exact ⟨rfl, hKF⟩, fun h => by rw [hbad.out] at h; cases h⟩
  have d4 : (fO 0 != 0) = false := by simp; exact e4
  by_cases e5 : fL 0 = 0
  case neg =>
    have hbad : Hid (roadOk nL nL fO fL = false) := by
      show _ = _
      cases h : roadOk nL nL fO fL with
      | false => rfl
      | true => obtain ⟨h1, h2, h3, h4, h5, _⟩ := roadOk_iff.1 h; omega
    have d5 : (fL 0 != 0) = true := by simp; exact e5
    go_enter Try.func46, Try.ntmps46
    go_wp2_with fail
    exact bodyPost_ret (v := .tuple #[.agg #[.slice none 0 0, .slice none 0 0, .slice none 0 0], .int .i64 1]) (by simp [results, Try.results46, go_sem, r0, r1, r2]) rfl ⟨by show TreePost _ _ _ _ _ _ _; unfold TreePost; rw [if_neg (by simp [hbad.out])]; exact ⟨rfl, hKF⟩, fun h => by rw [hbad.out] at h; cases h⟩
  have d5 : (fL 0 != 0) = false := by simp; exact e5
  have hmk := fun w => mkInts (nL : Int) nL rfl (by omega) w
  have hrd := row_at W2 (.int .i64 0) nL 3 (n0 + 1 + 1) hsz2.symm
  have hK3 := (Kept.refl W2).alloc (.cells (madeCells #[.int .i64 0] nL) 3)
  obtain ⟨W3, hW3⟩ : ∃ W3, W2.alloc (.cells (madeCells #[.int .i64 0] nL) 3) = W3 := ⟨_, rfl⟩
  rw [hW3] at hrd hK3
  have hsW : W2.heap.size ≤ n0 + 1 + 1 := by omega
  go_enter Try.func46, Try.ntmps46
  go_wp2_with fail
  have q0w := q0'
  have q1w := q1'
  clear hmk hW1 hW2 hW3 hsz hsz2 HN0 f0 f1 f2 y0 y1 y2 r0 r1 r2 hKF p0 p1 d1 d2 d3 d4 d5 q0' q1'
  obtain ⟨dp, HDP⟩ : ∃ dp, n0 + 1 + 1 = dp := ⟨_, rfl⟩
  rw [HDP] at hrd hsW ⊢
  obtain ⟨np, HNP⟩ : ∃ np, n0 + 1 = np := ⟨_, rfl⟩
  rw [HNP] at hrow hge ⊢
  have hdn : dp ≠ np := by omega
  have hdw : w.heap.size ≤ dp := by omega
  clear HDP HNP
  go_loopg [6] (nL - 1) (fun g s6 wr => ∃ (i : Nat) (D : Nat → Nat), 1 ≤ i ∧ i ≤ nL ∧ g = nL - i ∧ s6 = .int .i64 i ∧ Kept W2 wr ∧ wr.rowIs dp 3 nL (fun j => .int .i64 ((D j : Nat) : Int)) ∧ Hid (∀ j, j < i → goodI fO fL j = true) ∧ (∀ j, D j ≤ 20 * j) ∧ Hid (roadOk nL nL fO fL = true → ∀ j, j < i → D j = (roadR nL fO fL).deep j))
  case atStart => exact ⟨1, fun _ => 0, Nat.le_refl _, by omega, rfl, rfl, hK3, hrd, fun j hj => by obtain rfl : j = 0 := (by omega); rfl, fun j => Nat.zero_le _, fun _ j hj => by obtain rfl : j = 0 := (by omega); rfl⟩
  case round =>
    clear hrd hK3
    obtain ⟨i, D, hi1, hi, rfl, rfl, hK, hrd, hG, hDb, hD⟩ := hrel
    have hKw := hK2.trans hK
    obtain ⟨q0, q1, _⟩ := keep2 q0w q1w hK
    obtain ⟨f0, f1, f2, y0, y1, y2, r0, r1, r2, hKF⟩ := fin3a hrow hK hKw hge (.slice none 0 0) (.slice none 0 0) (.slice none 0 0)
    by_cases hlt : i < nL
    · have p0 := hKw.cellSome (hcO i hlt)
      have p1 := hKw.cellSome (hcL i hlt)
      have m1 : (i : Int) < (nL : Int) := by omega
      have m2 : (0 : Int) ≤ (i : Int) := by omega
      have hbad0 : goodI fO fL i = false → roadOk nL nL fO fL = false := fun h => by
        unfold roadOk
        rw [allN_false hlt h]
        simp
      have BAD := Lib.hid hbad0
      clear hbad0
      by_cases c1 : fO i < 0
      · have hbad : Hid (roadOk nL nL fO fL = false) := BAD.out (by unfold goodI; simp; omega)
        go_wp2_with fail
        exact bodyPost_ret (v := .tuple #[.agg #[.slice none 0 0, .slice none 0 0, .slice none 0 0], .int .i64 1]) (by simp [results, Try.results46, go_sem, r0, r1, r2]) rfl ⟨by show TreePost _ _ _ _ _ _ _; unfold TreePost; rw [if_neg (by simp [hbad.out])]; exact ⟨rfl, hKF⟩, fun h => by rw [hbad.out] at h; cases h⟩
      by_cases c2 : (i : Int) ≤ fO i
      · have hbad : Hid (roadOk nL nL fO fL = false) := BAD.out (by unfold goodI; simp; omega)
        go_wp2_with fail
        exact bodyPost_ret (v := .tuple #[.agg #[.slice none 0 0, .slice none 0 0, .slice none 0 0], .int .i64 1]) (by simp [results, Try.results46, go_sem, r0, r1, r2]) rfl ⟨by show TreePost _ _ _ _ _ _ _; unfold TreePost; rw [if_neg (by simp [hbad.out])]; exact ⟨rfl, hKF⟩, fun h => by rw [hbad.out] at h; cases h⟩
      by_cases c3 : fL i < 1
      · have hbad : Hid (roadOk nL nL fO fL = false) := BAD.out (by unfold goodI; simp; omega)
        go_wp2_with fail
        exact bodyPost_ret (v := .tuple #[.agg #[.slice none 0 0, .slice none 0 0, .slice none 0 0], .int .i64 1]) (by simp [results, Try.results46, go_sem, r0, r1, r2]) rfl ⟨by show TreePost _ _ _ _ _ _ _; unfold TreePost; rw [if_neg (by simp [hbad.out])]; exact ⟨rfl, hKF⟩, fun h => by rw [hbad.out] at h; cases h⟩
      by_cases c4 : 20 < fL i
      · have hbad : Hid (roadOk nL nL fO fL = false) := BAD.out (by unfold goodI; simp; omega)
        go_wp2_with fail
        exact bodyPost_ret (v := .tuple #[.agg #[.slice none 0 0, .slice none 0 0, .slice none 0 0], .int .i64 1]) (by simp [results, Try.results46, go_sem, r0, r1, r2]) rfl ⟨by show TreePost _ _ _ _ _ _ _; unfold TreePost; rw [if_neg (by simp [hbad.out])]; exact ⟨rfl, hKF⟩, fun h => by rw [hbad.out] at h; cases h⟩
      have hgi : Hid (goodI fO fL i = true) := by show _ = _; unfold goodI; simp; omega
      have hvr := Lib.hid (fun h => @roadR_vals nL nL fO fL h)
      obtain ⟨a, HA⟩ : ∃ a : Nat, fO i = a := ⟨(fO i).toNat, by omega⟩
      obtain ⟨b, HB⟩ : ∃ b : Nat, fL i = b := ⟨(fL i).toNat, by omega⟩
      have HA2 := Lib.hid HA
      have HB2 := Lib.hid HB
      rw [HA] at p0 c1 c2
      rw [HB] at p1 c3 c4
      have e1 := hrd.cell (i := a) (by omega)
      have e2 := hrd.cell hlt
      have e3 := hrd.frozen i
      have hda := hDb a
      obtain ⟨d, HDD⟩ : ∃ d, Hid (d = D a) := ⟨_, rfl⟩
      rw [← HDD.out] at e1 hda
      have k1 : (a : Int) < (nL : Int) := by omega
      have k2 : (0 : Int) ≤ (a : Int) := by omega
      have s1 : IntKind.i64.wrap ((d : Int) + (b : Int)) = (d : Int) + (b : Int) := IntWalk.i64_in _ (by omega)
      clear HA HB f0 f1 f2 y0 y1 y2 r0 r1 r2 hKF BAD
      go_wp2_with fail
      go_region
      all_goals
        go_wp2_with fail
        go_roundg (nL - (i + 1))
        case measure => omega
        case rel =>
          refine ⟨i + 1, fun j => if j = i then d + b else D j, by omega, by omega, rfl, by go_num, hK.drew.setCell (p := ⟨dp, i, none⟩) hsW _, ((((Kept.refl wr).drew).row hrd).set i _).congr (fun j hj => ?_), fun j hj => ?_, fun j => ?_, fun hok j hj => ?_⟩
          · by_cases ej : j = i
            · simp only [ej, if_true, Int.natCast_add]
            · simp only [ej, if_false]
          · by_cases ej : j = i
            · rw [ej]; exact hgi.out
            · exact hG.out j (by omega)
          · by_cases ej : j = i
            · simp only [ej, if_true]; omega
            · simp only [ej, if_false]; exact hDb j
          · by_cases ej : j = i
            · subst ej
              simp only [if_true]
              have ok := roadR_ok hok
              have h9 := Road.deep_on ok (p := j) (by omega) hlt
              obtain ⟨v1, v2⟩ := hvr.out hok
              have v3 := v1 j hlt
              have v4 := v2 j hlt
              rw [HA2.out] at v3
              rw [HB2.out] at v4
              have v5 : (roadR nL fO fL).on j = a := by omega
              have v6 : (roadR nL fO fL).len j = b := by omega
              rw [h9, v5, v6, HDD.out, hD.out hok a (by omega)]
            · simp only [ej, if_false]; exact hD.out hok j (by omega)
    · obtain rfl : i = nL := by omega
      have hok : Hid (roadOk i i fO fL = true) := by
        show _ = _
        unfold roadOk
        rw [allN_true.2 hG.out]
        simp; omega
      obtain ⟨v1, v2⟩ := roadR_vals hok.out
      obtain ⟨f0, f1, f2, y0, y1, y2, r0, r1, r2, hKF⟩ := fin3a hrow hK hKw hge (.slice (some ⟨bO, oO, none⟩) i cO) (.slice (some ⟨bL, oL, none⟩) i cL) (.slice (some ⟨dp, 0, none⟩) i i)
      have hne : dp ≠ np := hdn
      have hT9 : Hid (TreeAt ((((wr.setCell ⟨np, 0, none⟩ (.slice (some ⟨bO, oO, none⟩) i cO)).setCell ⟨np, 1, none⟩ (.slice (some ⟨bL, oL, none⟩) i cL)).setCell ⟨np, 2, none⟩ (.slice (some ⟨dp, 0, none⟩) i i))) (.agg #[.slice (some ⟨bO, oO, none⟩) i cO, .slice (some ⟨bL, oL, none⟩) i cL, .slice (some ⟨dp, 0, none⟩) i i]) (roadR i fO fL)) :=
        ⟨_, _, _, rfl, ⟨_, bO, oO, cO, rfl, fun _ => rfl, fun j hj => (hKF.cellSome (hcO j hj)).trans (congrArg (fun z => some (Value.int .i64 z)) (v1 j hj))⟩, ⟨_, bL, oL, cL, rfl, fun _ => rfl, fun j hj => (hKF.cellSome (hcL j hj)).trans (congrArg (fun z => some (Value.int .i64 z)) (v2 j hj))⟩, CellsAt.of_row (row_other (row_other (row_other (hrd.congr (fun j hj => by rw [hD.out hok.out j hj])) hne _) hne _) hne _)⟩
      clear v1 v2 hrd hD hG hne
      go_wp2_with fail
      exact bodyPost_ret (v := .tuple #[.agg #[.slice (some ⟨bO, oO, none⟩) i cO, .slice (some ⟨bL, oL, none⟩) i cL, .slice (some ⟨dp, 0, none⟩) i i], .int .i64 0]) (by simp [results, Try.results46, go_sem, r0, r1, r2]) rfl ⟨by show TreePost _ _ _ _ _ _ _; unfold TreePost; rw [if_pos hok.out]; exact ⟨_, rfl, hT9.out, hKF⟩, fun _ => ⟨_, rfl, _, _, dp, rfl, rfl, hdw⟩⟩
end Go.Proofs.Ytlgpclnmonpkjaa
