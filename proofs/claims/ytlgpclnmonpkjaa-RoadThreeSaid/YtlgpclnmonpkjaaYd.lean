/-
  The law RoadThree.
-/
import Derived.Test.YtlgpclnmonpkjaaYe
namespace Go.Proofs.Ytlgpclnmonpkjaa
open Go.RowKit Go.Deep

/-- three pairs of bytes -/
def yA (s : Nat → Nat) : Nat → Nat := fun i => s (i * 2)
def yB (s : Nat → Nat) : Nat → Nat := fun i => s (i * 2 + 1)
def six8 (s : Nat → Nat) : Value := .agg #[.int .u8 ((s 0 : Nat) : Int), .int .u8 ((s 1 : Nat) : Int), .int .u8 ((s 2 : Nat) : Int), .int .u8 ((s 3 : Nat) : Int), .int .u8 ((s 4 : Nat) : Int), .int .u8 ((s 5 : Nat) : Int)]
theorem six_box (w : World) (n : Nat) (hn : w.heap.size = n) (s : Nat → Nat) (t : TypeId) : ∃ W, w.alloc (.cells #[.int .u8 ((s 0 : Nat) : Int), .int .u8 ((s 1 : Nat) : Int), .int .u8 ((s 2 : Nat) : Int), .int .u8 ((s 3 : Nat) : Int), .int .u8 ((s 4 : Nat) : Int), .int .u8 ((s 5 : Nat) : Int)] t) = W ∧ W.heap.size = n + 1 ∧ (∀ i, i < 6 → W.cell? ⟨n, i, none⟩ = some (.int .u8 ((s i : Nat) : Int))) ∧ Kept w W := by
  subst hn
  refine ⟨_, rfl, by simp, fun i hi => ?_, (Kept.refl w).alloc _⟩
  have : i = 0 ∨ i = 1 ∨ i = 2 ∨ i = 3 ∨ i = 4 ∨ i = 5 := by omega
  rcases this with rfl | rfl | rfl | rfl | rfl | rfl <;> (unfold World.cell?; dsimp only; rw [blk_alloc_new]; rfl)
theorem six_pairs {W : World} {n : Nat} {s : Nat → Nat} (h : ∀ i, i < 6 → W.cell? ⟨n, i, none⟩ = some (.int .u8 ((s i : Nat) : Int))) (hs : ∀ i, i < 6 → s i < 256) : U8Pairs W (.slice (some ⟨n, 0, none⟩) 3 3) 3 (yA s) (yB s) :=
  ⟨_, n, 0, 3, rfl, fun _ => rfl, fun i hi => ⟨hs (i * 2) (by omega), hs (i * 2 + 1) (by omega), by rw [Nat.zero_add]; exact h (i * 2) (by omega), by rw [Nat.zero_add]; exact h (i * 2 + 1) (by omega)⟩⟩
theorem nine_box (w : World) (n : Nat) (hn : w.heap.size = n) (t : TypeId) : ∃ W, w.alloc (.cells #[.int .i64 0, .int .i64 0, .int .i64 0, .int .i64 0, .int .i64 0, .int .i64 0, .int .i64 0, .int .i64 0, .int .i64 0] t) = W ∧ W.heap.size = n + 1 ∧ W.rowIs n t 9 (fun _ => .int .i64 0) ∧ Kept w W := by
  subst hn
  refine ⟨_, rfl, by simp, ?_, (Kept.refl w).alloc _⟩
  exact World.rowIs_alloc w #[.int .i64 0, .int .i64 0, .int .i64 0, .int .i64 0, .int .i64 0, .int .i64 0, .int .i64 0, .int .i64 0, .int .i64 0] t (fun _ => .int .i64 0) (fun j hj => by
    have : j = 0 ∨ j = 1 ∨ j = 2 ∨ j = 3 ∨ j = 4 ∨ j = 5 ∨ j = 6 ∨ j = 7 ∨ j = 8 := by simp at hj; omega
    rcases this with rfl | rfl | rfl | rfl | rfl | rfl | rfl | rfl | rfl <;> rfl)
def upF (f : Nat → Nat) (L : Nat) : Nat → Value := fun j => .int .i64 ((((if j < L then f j else 0) : Nat)) : Int)
theorem upF_set {w : World} {nd : Nat} {t : TypeId} {f : Nat → Nat} {L : Nat} (h : w.rowIs nd t 9 (upF f L)) : (w.setCell ⟨nd, L, none⟩ (.int .i64 ((f L : Nat) : Int))).rowIs nd t 9 (upF f (L + 1)) :=
  (h.set L (.int .i64 ((f L : Nat) : Int))).congr (fun j hj => by
    unfold upF
    by_cases e : j = L
    · subst e; simp
    · by_cases e2 : j < L
      · simp [e, e2, show j < L + 1 by omega]
      · simp [e, e2, show ¬ j < L + 1 by omega])
theorem Distance_nat (w : World) (v : Value) {nP : Nat} {p0 p1 : Nat → Nat} (hR : RoadIn w v (mN nP) (mN nP) (natI (mO p0)) (natI (mL p1))) (p u q x : Nat) (hs : (mR nP p0 p1).spot (p, u)) (ht : (mR nP p0 p1).spot (q, x)) :
    Calls Try.prog 16 #[v, .agg #[.int .i64 (p : Int), .int .i64 (u : Int)], .agg #[.int .i64 (q : Int), .int .i64 (x : Int)]] w fun e w' => e = .returned (.tuple #[.int .i64 (((mR nP p0 p1).dist (p, u) (q, x) : Nat) : Int), .int .i64 0]) ∧ Kept w w' := by
  have hn := mN_le nP
  refine (Distance_any w v (mN nP) (mN nP) _ _ hR (by omega) (by omega) p u q x).mono fun e w' h => ?_
  obtain ⟨h1, _, hk⟩ := h
  have h2 := h1 (by unfold distOk; rw [made_road, show (roadR (mN nP) (natI (mO p0)) (natI (mL p1))).isSp (p : Int) (u : Int) = true from isSp_of hs, show (roadR (mN nP) (natI (mO p0)) (natI (mL p1))).isSp (q : Int) (x : Int) = true from isSp_of ht]; rfl)
  simp only [Int.toNat_natCast] at h2
  exact ⟨h2, hk⟩
set_option maxRecDepth 100000 in
set_option maxHeartbeats 4000000 in
theorem RoadThree_any (w : World) (vP vH vC : Value) (nP nH nC : Nat) (p0 p1 h0 h1 c0 : Nat → Nat) (hP : U8Pairs w vP nP p0 p1) (hH : U8Pairs w vH nH h0 h1) (hC : U8s w vC nC c0) (s : Nat → Nat) (hs : ∀ i, i < 6 → s i < 256) :
    Calls Try.prog 14 #[.agg #[vP, vH, vC], six8 s] w fun e w' => e = .returned (.bool true) ∧ Kept w w' := by
  have hn := mN_le nP
  obtain ⟨aP, _, _, cP, rfl, _, _⟩ := id hP
  obtain ⟨aH, _, _, cH, rfl, _, _⟩ := id hH
  obtain ⟨aC, _, _, cC, rfl, _, _⟩ := id hC
  obtain ⟨H, HH⟩ : ∃ H, Hid (H = mH (mN nP) p1 (yA s) (yB s) 3 false) := ⟨_, rfl⟩
  obtain ⟨R, HR⟩ : ∃ R, Hid (R = mR nP p0 p1) := ⟨_, rfl⟩
  have HG : Hid (∀ i, (mR nP p0 p1).spot (H i)) := by show ∀ i, _; intro i; rw [HH.out]; exact made_spot nP p0 p1 (yA s) (yB s) 3 false i
  have ok : (mR nP p0 p1).Ok := roadR_ok (made_road nP p0 p1)
  obtain ⟨n0, HN0⟩ : ∃ n0, w.heap.size = n0 := ⟨_, rfl⟩
  obtain ⟨W1, hW1, hsz, m0, m1, m2, hK⟩ := newbox3 w n0 HN0 (.slice aP nP cP) (.slice aH nH cH) (.slice aC nC cC) 75
  obtain ⟨W2, hW2, hsz2, hy6, hK1⟩ := six_box W1 (n0 + 1) hsz s 83
  have hKw := hK.trans hK1
  have m0 := hK1.cellSome m0
  have MD := Lib.hid (fun W (k : Kept W2 W) => made_any W _ (.slice (some ⟨n0 + 1, 0, none⟩) 3 3) (.slice none 0 0) nP 3 0 p0 p1 (yA s) (yB s) (fun _ => 0) ((hP.kept hKw).kept k) ((six_pairs hy6 hs).kept k) ⟨none, 0, 0, 0, rfl, fun h => by omega, fun i hi => by omega⟩ false)
  unfold six8
  go_enter Try.func14, Try.ntmps14
  go_upto_region 1 with fail
  clear hW1 hW2
  go_cut [5, 6, 7] (fun v5 v6 v7 wx => ∃ n5 oa oc la lc ha hc v, v5 = .pointer (some ⟨n5, 0, none⟩) ∧ v6 = .slice (some ⟨ha, 0, none⟩) 3 hc ∧ wx.cell? ⟨n5, 0, none⟩ = some (.slice oa (mN nP) oc) ∧ wx.cell? ⟨n5, 1, none⟩ = some (.slice la (mN nP) lc) ∧ RoadIn wx (.agg #[(.slice oa (mN nP) oc), (.slice la (mN nP) lc)]) (mN nP) (mN nP) (natI (mO p0)) (natI (mL p1)) ∧ PairsAt wx (.slice (some ⟨ha, 0, none⟩) 3 hc) 3 (fstI H) (sndI H) ∧ Kept W2 wx)
  case first =>
    refine wp_region_held_drew (S := (fun w' => w'.cell? ⟨n0, 0, none⟩ = some (.slice aP nP cP))) (by kernel_rfl) ?_ (fun hHeld => ?_)
    · (try dsimp only)
      exact m0
    refine wpAnyH_take (i := 0) (oi := { dst := some 17, op := Go.Op.fieldAddr 75 (Go.Operand.tmp 2) 0, type := 0, pos := "more.go:153", after := #[], guard := none }) (v := ?v1) rfl (by kernel_rfl) (by kernel_rfl) (by kernel_rfl) (fun _ _ _ h => h) (Or.inl ⟨by rfl, ?hy1⟩) (by assumption) ?rs1
    case hy1 =>
      intro w hSw
      (try dsimp only at hSw)
      go_simp
      try with_reducible rfl
    (try simp only [Act.put, List.setIfInBounds_toArray, List.set_cons_zero, List.set_cons_succ])
    refine wpAnyH_take (i := 1) (oi := { dst := some 18, op := Go.Op.load 72 (Go.Operand.tmp 17), type := 72, pos := "more.go:153", after := #[{ on := 0, ground := Go.Ground.data }], guard := none }) (v := ?v2) rfl (by kernel_rfl) (by kernel_rfl) (by kernel_rfl) (fun _ _ _ h => h) (Or.inl ⟨by rfl, ?hy2⟩) (by assumption) ?rs2
    case hy2 =>
      intro w hSw
      (try dsimp only at hSw)
      go_simp
      try with_reducible rfl
    (try simp only [Act.put, List.setIfInBounds_toArray, List.set_cons_zero, List.set_cons_succ])
    refine wpAnyH_take (i := 2) (oi := { dst := some 19, op := Go.Op.slice 83 (Go.Operand.tmp 3) none none none, type := 72, pos := "more.go:153", after := #[], guard := none }) (v := ?v3) rfl (by kernel_rfl) (by kernel_rfl) (by kernel_rfl) (fun _ _ _ h => h) (Or.inl ⟨by rfl, ?hy3⟩) (by assumption) ?rs3
    case hy3 =>
      intro w hSw
      (try dsimp only at hSw)
      go_simp
      try with_reducible rfl
    (try simp only [Act.put, List.setIfInBounds_toArray, List.set_cons_zero, List.set_cons_succ])
    refine wpAnyH_take (i := 3) (oi := { dst := some 20, op := Go.Op.build 75 #[(0, Go.Operand.tmp 18), (1, Go.Operand.tmp 19)], type := 75, pos := "more.go:153", after := #[{ on := 1, ground := Go.Ground.data }, { on := 2, ground := Go.Ground.data }], guard := none }) (v := ?v4) rfl (by kernel_rfl) (by kernel_rfl) (by kernel_rfl) (fun _ _ _ h => h) (Or.inl ⟨by rfl, ?hy4⟩) (by assumption) ?rs4
    case hy4 =>
      intro w hSw
      (try dsimp only at hSw)
      go_simp
      try with_reducible rfl
    (try simp only [Act.put, List.setIfInBounds_toArray, List.set_cons_zero, List.set_cons_succ])
    refine wpAnyH_ready (rs := [4, 9]) (by kernel_rfl) (by simp) ?_
    refine AllReadyH.cons (o := { dst := some 21, op := Go.Op.call { callee := Go.Callee.value (Go.Operand.func 45), args := #[Go.Operand.tmp 20, Go.Operand.const (Go.Value.bool false)], argTypes := #[75, 4] }, type := 76, pos := "more.go:153", after := #[{ on := 3, ground := Go.Ground.data }], guard := none }) rfl (fun K4 hK4 => ?_) (AllReadyH.cons (o := { dst := some 5, op := Go.Op.alloc 24, type := 0, pos := "more.go:153", after := #[], guard := none }) rfl (fun K9 hK9 => ?_) AllReadyH.nil)
    · skip
      go_simp
      (go_at_call 45; refine (MD.out _ (by repeat (first | assumption | exact Kept.refl _ | apply Kept.drew | apply Kept.drewN | apply Kept.alloc | refine Kept.trans ?_ (by assumption)))).mono ?_; intro e w3 hd; obtain ⟨oa, oc, la, lc, ha, hc, ca, cc, rfl, hR3, hH3, _, _, _, hk3⟩ := hd.open; change PairsAt w3 (.slice (some ⟨ha, 0, none⟩) 3 hc) 3 (fstI (mH (mN nP) p1 (yA s) (yB s) 3 false)) (sndI (mH (mN nP) p1 (yA s) (yB s) 3 false)) at hH3; rw [← HH.out] at hH3)
      (try go_wp2_with fail)
      refine hK4.out _ _ ?_ (fun hHeld => ?_)
      · (try dsimp only)
        exact (show Kept W2 w3 from (by repeat (first | assumption | exact Kept.refl _ | apply Kept.drew | apply Kept.drewN | apply Kept.alloc | refine Kept.trans ?_ (by assumption)))).cellSome m0
      (try simp only [Act.put, List.setIfInBounds_toArray, List.set_cons_zero, List.set_cons_succ])
      refine wpAnyH_take (i := 5) (oi := { dst := some 16, op := Go.Op.move (Go.Operand.tmp 21), type := 76, pos := "more.go:153", after := #[{ on := 4, ground := Go.Ground.data }], guard := none }) (v := ?v5) rfl (by kernel_rfl) (by kernel_rfl) (by kernel_rfl) (fun _ _ _ h => h) (Or.inl ⟨by rfl, ?hy5⟩) (by assumption) ?rs5
      case hy5 =>
        intro w hSw
        (try dsimp only at hSw)
        go_simp
        try with_reducible rfl
      (try simp only [Act.put, List.setIfInBounds_toArray, List.set_cons_zero, List.set_cons_succ])
      refine wpAnyH_take (i := 6) (oi := { dst := some 22, op := Go.Op.extract (Go.Operand.tmp 16) 0, type := 24, pos := "more.go:153", after := #[{ on := 5, ground := Go.Ground.data }], guard := none }) (v := ?v6) rfl (by kernel_rfl) (by kernel_rfl) (by kernel_rfl) (fun _ _ _ h => h) (Or.inl ⟨by rfl, ?hy6⟩) (by assumption) ?rs6
      case hy6 =>
        intro w hSw
        (try dsimp only at hSw)
        go_simp
        try with_reducible rfl
      (try simp only [Act.put, List.setIfInBounds_toArray, List.set_cons_zero, List.set_cons_succ])
      refine wpAnyH_take (i := 7) (oi := { dst := some 23, op := Go.Op.extract (Go.Operand.tmp 16) 1, type := 36, pos := "more.go:153", after := #[{ on := 5, ground := Go.Ground.data }, { on := 10, ground := Go.Ground.gcOnly Go.Departure.lateStores }], guard := none }) (v := ?v7) rfl (by kernel_rfl) (by kernel_rfl) (by kernel_rfl) (fun _ _ _ h => h) (Or.inl ⟨by rfl, ?hy7⟩) (by assumption) ?rs7
      case hy7 =>
        intro w hSw
        (try dsimp only at hSw)
        go_simp
        try with_reducible rfl
      (try simp only [Act.put, List.setIfInBounds_toArray, List.set_cons_zero, List.set_cons_succ])
      refine wpAnyH_take (i := 8) (oi := { dst := some 24, op := Go.Op.extract (Go.Operand.tmp 16) 2, type := 22, pos := "more.go:153", after := #[{ on := 5, ground := Go.Ground.data }, { on := 11, ground := Go.Ground.gcOnly Go.Departure.lateStores }], guard := none }) (v := ?v8) rfl (by kernel_rfl) (by kernel_rfl) (by kernel_rfl) (fun _ _ _ h => h) (Or.inl ⟨by rfl, ?hy8⟩) (by assumption) ?rs8
      case hy8 =>
        intro w hSw
        (try dsimp only at hSw)
        go_simp
        try with_reducible rfl
      (try simp only [Act.put, List.setIfInBounds_toArray, List.set_cons_zero, List.set_cons_succ])
      refine wpAnyH_ready (rs := [9]) (by kernel_rfl) (by simp) ?_
      refine AllReadyH.cons (o := { dst := some 5, op := Go.Op.alloc 24, type := 0, pos := "more.go:153", after := #[], guard := none }) rfl (fun K9 hK9 => ?_) AllReadyH.nil
      go_simp
      skip
      (try go_wp2_with fail)
      refine hK9.out _ _ ?_ (fun hHeld => ?_)
      · (try dsimp only)
        exact (show Kept W2 _ from (by repeat (first | assumption | exact Kept.refl _ | apply Kept.drew | apply Kept.drewN | apply Kept.alloc | refine Kept.trans ?_ (by assumption)))).cellSome m0
      (try simp only [Act.put, List.setIfInBounds_toArray, List.set_cons_zero, List.set_cons_succ])
      refine wpAnyH_ready (rs := [10]) (by kernel_rfl) (by simp) ?_
      refine AllReadyH.cons (o := { dst := none, op := Go.Op.store 24 (Go.Operand.tmp 5) (Go.Operand.tmp 22), type := 0, pos := "more.go:153", after := #[{ on := 9, ground := Go.Ground.data }, { on := 6, ground := Go.Ground.data }, { on := 4, ground := Go.Ground.chain }, { on := 0, ground := Go.Ground.phase }, { on := 1, ground := Go.Ground.phase }, { on := 2, ground := Go.Ground.phase }, { on := 3, ground := Go.Ground.phase }, { on := 4, ground := Go.Ground.phase }, { on := 5, ground := Go.Ground.phase }, { on := 6, ground := Go.Ground.phase }, { on := 7, ground := Go.Ground.textOnly Go.Departure.lateStores }, { on := 8, ground := Go.Ground.textOnly Go.Departure.lateStores }, { on := 9, ground := Go.Ground.phase }], guard := none }) rfl (fun K10 hK10 => ?_) AllReadyH.nil
      go_simp
      skip
      (try go_wp2_with fail)
      obtain ⟨W9, hW9, _, r0, r1, hK9⟩ := newbox2 w3 w3.heap.size rfl (.slice oa (mN nP) oc) (.slice la (mN nP) lc) 24
      subst hW9
      have hKF := (show Kept W2 w3 from (by repeat (first | assumption | exact Kept.refl _ | apply Kept.drew | apply Kept.drewN | apply Kept.alloc | refine Kept.trans ?_ (by assumption)))).trans hK9
      have hX3 := (road_parts (hR3.kept hK9)).1
      have hX4 := (road_parts (hR3.kept hK9)).2
      have hX5 := hH3.kept hK9
      refine hK10.out _ _ ?_ (fun hHeld => ?_)
      · (try dsimp only)
        exact hKF.cellSome m0
      (try simp only [Act.put, List.setIfInBounds_toArray, List.set_cons_zero, List.set_cons_succ])
      refine wpAnyH_take (i := 11) (oi := { dst := some 6, op := Go.Op.assign (Go.Operand.tmp 23), type := 36, pos := "more.go:153", after := #[{ on := 7, ground := Go.Ground.data }, { on := 10, ground := Go.Ground.chain }, { on := 0, ground := Go.Ground.phase }, { on := 1, ground := Go.Ground.phase }, { on := 2, ground := Go.Ground.phase }, { on := 3, ground := Go.Ground.phase }, { on := 4, ground := Go.Ground.phase }, { on := 5, ground := Go.Ground.phase }, { on := 6, ground := Go.Ground.phase }, { on := 7, ground := Go.Ground.phase }, { on := 8, ground := Go.Ground.textOnly Go.Departure.lateStores }, { on := 9, ground := Go.Ground.phase }, { on := 10, ground := Go.Ground.phase }], guard := none }) (v := ?v9) rfl (by kernel_rfl) (by kernel_rfl) (by kernel_rfl) (fun _ _ _ h => h) (Or.inl ⟨by rfl, ?hy9⟩) (by assumption) ?rs9
      case hy9 =>
        intro w hSw
        (try dsimp only at hSw)
        go_simp
        try with_reducible rfl
      (try simp only [Act.put, List.setIfInBounds_toArray, List.set_cons_zero, List.set_cons_succ])
      refine wpAnyH_take (i := 12) (oi := { dst := some 7, op := Go.Op.assign (Go.Operand.tmp 24), type := 22, pos := "more.go:153", after := #[{ on := 8, ground := Go.Ground.data }, { on := 11, ground := Go.Ground.chain }, { on := 0, ground := Go.Ground.phase }, { on := 1, ground := Go.Ground.phase }, { on := 2, ground := Go.Ground.phase }, { on := 3, ground := Go.Ground.phase }, { on := 4, ground := Go.Ground.phase }, { on := 5, ground := Go.Ground.phase }, { on := 6, ground := Go.Ground.phase }, { on := 7, ground := Go.Ground.phase }, { on := 8, ground := Go.Ground.phase }, { on := 9, ground := Go.Ground.phase }, { on := 10, ground := Go.Ground.phase }, { on := 11, ground := Go.Ground.phase }], guard := none }) (v := ?v10) rfl (by kernel_rfl) (by kernel_rfl) (by kernel_rfl) (fun _ _ _ h => h) (Or.inl ⟨by rfl, ?hy10⟩) (by assumption) ?rs10
      case hy10 =>
        intro w hSw
        (try dsimp only at hSw)
        go_simp
        try with_reducible rfl
      (try simp only [Act.put, List.setIfInBounds_toArray, List.set_cons_zero, List.set_cons_succ])
      refine wpAnyH_done (by kernel_rfl) ?_ _
      go_wp2_with fail
      go_meet
      exact ⟨_, _, _, _, _, _, _, undef, rfl, rfl, r0, r1, ⟨_, _, rfl, hX3, hX4⟩, hX5, hKF⟩
    · skip
      go_simp
      skip
      (try go_wp2_with fail)
      have hr9 := box2row W2 (n0 + 1 + 1) hsz2 (.slice none 0 0) (.slice none 0 0) 24
      refine hK9.out _ _ ?_ (fun hHeld => ?_)
      · (try dsimp only)
        exact (show Kept W2 _ from (by repeat (first | assumption | exact Kept.refl _ | apply Kept.drew | apply Kept.drewN | apply Kept.alloc | refine Kept.trans ?_ (by assumption)))).cellSome m0
      (try simp only [Act.put, List.setIfInBounds_toArray, List.set_cons_zero, List.set_cons_succ])
      refine wpAnyH_ready (rs := [4]) (by kernel_rfl) (by simp) ?_
      refine AllReadyH.cons (o := { dst := some 21, op := Go.Op.call { callee := Go.Callee.value (Go.Operand.func 45), args := #[Go.Operand.tmp 20, Go.Operand.const (Go.Value.bool false)], argTypes := #[75, 4] }, type := 76, pos := "more.go:153", after := #[{ on := 3, ground := Go.Ground.data }], guard := none }) rfl (fun K4 hK4 => ?_) AllReadyH.nil
      go_simp
      (go_at_call 45; refine (MD.out _ (by repeat (first | assumption | exact Kept.refl _ | apply Kept.drew | apply Kept.drewN | apply Kept.alloc | refine Kept.trans ?_ (by assumption)))).mono ?_; intro e w3 hd; obtain ⟨oa, oc, la, lc, ha, hc, ca, cc, rfl, hR3, hH3, _, _, _, hk3⟩ := hd.open; change PairsAt w3 (.slice (some ⟨ha, 0, none⟩) 3 hc) 3 (fstI (mH (mN nP) p1 (yA s) (yB s) 3 false)) (sndI (mH (mN nP) p1 (yA s) (yB s) 3 false)) at hH3; rw [← HH.out] at hH3)
      (try go_wp2_with fail)
      have hr9 := hk3.row hr9
      refine hK4.out _ _ ?_ (fun hHeld => ?_)
      · (try dsimp only)
        exact (show Kept W2 w3 from (by repeat (first | assumption | exact Kept.refl _ | apply Kept.drew | apply Kept.drewN | apply Kept.alloc | refine Kept.trans ?_ (by assumption)))).cellSome m0
      (try simp only [Act.put, List.setIfInBounds_toArray, List.set_cons_zero, List.set_cons_succ])
      refine wpAnyH_take (i := 5) (oi := { dst := some 16, op := Go.Op.move (Go.Operand.tmp 21), type := 76, pos := "more.go:153", after := #[{ on := 4, ground := Go.Ground.data }], guard := none }) (v := ?v11) rfl (by kernel_rfl) (by kernel_rfl) (by kernel_rfl) (fun _ _ _ h => h) (Or.inl ⟨by rfl, ?hy11⟩) (by assumption) ?rs11
      case hy11 =>
        intro w hSw
        (try dsimp only at hSw)
        go_simp
        try with_reducible rfl
      (try simp only [Act.put, List.setIfInBounds_toArray, List.set_cons_zero, List.set_cons_succ])
      refine wpAnyH_take (i := 6) (oi := { dst := some 22, op := Go.Op.extract (Go.Operand.tmp 16) 0, type := 24, pos := "more.go:153", after := #[{ on := 5, ground := Go.Ground.data }], guard := none }) (v := ?v12) rfl (by kernel_rfl) (by kernel_rfl) (by kernel_rfl) (fun _ _ _ h => h) (Or.inl ⟨by rfl, ?hy12⟩) (by assumption) ?rs12
      case hy12 =>
        intro w hSw
        (try dsimp only at hSw)
        go_simp
        try with_reducible rfl
      (try simp only [Act.put, List.setIfInBounds_toArray, List.set_cons_zero, List.set_cons_succ])
      refine wpAnyH_take (i := 7) (oi := { dst := some 23, op := Go.Op.extract (Go.Operand.tmp 16) 1, type := 36, pos := "more.go:153", after := #[{ on := 5, ground := Go.Ground.data }, { on := 10, ground := Go.Ground.gcOnly Go.Departure.lateStores }], guard := none }) (v := ?v13) rfl (by kernel_rfl) (by kernel_rfl) (by kernel_rfl) (fun _ _ _ h => h) (Or.inl ⟨by rfl, ?hy13⟩) (by assumption) ?rs13
      case hy13 =>
        intro w hSw
        (try dsimp only at hSw)
        go_simp
        try with_reducible rfl
      (try simp only [Act.put, List.setIfInBounds_toArray, List.set_cons_zero, List.set_cons_succ])
      refine wpAnyH_take (i := 8) (oi := { dst := some 24, op := Go.Op.extract (Go.Operand.tmp 16) 2, type := 22, pos := "more.go:153", after := #[{ on := 5, ground := Go.Ground.data }, { on := 11, ground := Go.Ground.gcOnly Go.Departure.lateStores }], guard := none }) (v := ?v14) rfl (by kernel_rfl) (by kernel_rfl) (by kernel_rfl) (fun _ _ _ h => h) (Or.inl ⟨by rfl, ?hy14⟩) (by assumption) ?rs14
      case hy14 =>
        intro w hSw
        (try dsimp only at hSw)
        go_simp
        try with_reducible rfl
      (try simp only [Act.put, List.setIfInBounds_toArray, List.set_cons_zero, List.set_cons_succ])
      refine wpAnyH_ready (rs := [10]) (by kernel_rfl) (by simp) ?_
      refine AllReadyH.cons (o := { dst := none, op := Go.Op.store 24 (Go.Operand.tmp 5) (Go.Operand.tmp 22), type := 0, pos := "more.go:153", after := #[{ on := 9, ground := Go.Ground.data }, { on := 6, ground := Go.Ground.data }, { on := 4, ground := Go.Ground.chain }, { on := 0, ground := Go.Ground.phase }, { on := 1, ground := Go.Ground.phase }, { on := 2, ground := Go.Ground.phase }, { on := 3, ground := Go.Ground.phase }, { on := 4, ground := Go.Ground.phase }, { on := 5, ground := Go.Ground.phase }, { on := 6, ground := Go.Ground.phase }, { on := 7, ground := Go.Ground.textOnly Go.Departure.lateStores }, { on := 8, ground := Go.Ground.textOnly Go.Departure.lateStores }, { on := 9, ground := Go.Ground.phase }], guard := none }) rfl (fun K10 hK10 => ?_) AllReadyH.nil
      obtain ⟨f0, f1, t0, t1, r0, r1, hKF⟩ := fin2a hr9 (Kept.refl w3) (show Kept W2 w3 from (by repeat (first | assumption | exact Kept.refl _ | apply Kept.drew | apply Kept.drewN | apply Kept.alloc | refine Kept.trans ?_ (by assumption)))) (by omega) (.slice oa (mN nP) oc) (.slice la (mN nP) lc)
      have hX3 := ints_notbox2 (road_parts hR3).1 hr9 (.slice oa (mN nP) oc) (.slice la (mN nP) lc)
      have hX4 := ints_notbox2 (road_parts hR3).2 hr9 (.slice oa (mN nP) oc) (.slice la (mN nP) lc)
      have hX5 := pairs_off2 hH3 hr9 (.slice oa (mN nP) oc) (.slice la (mN nP) lc)
      go_simp
      skip
      (try go_wp2_with fail)
      refine hK10.out _ _ ?_ (fun hHeld => ?_)
      · (try dsimp only)
        exact hKF.cellSome m0
      (try simp only [Act.put, List.setIfInBounds_toArray, List.set_cons_zero, List.set_cons_succ])
      refine wpAnyH_take (i := 11) (oi := { dst := some 6, op := Go.Op.assign (Go.Operand.tmp 23), type := 36, pos := "more.go:153", after := #[{ on := 7, ground := Go.Ground.data }, { on := 10, ground := Go.Ground.chain }, { on := 0, ground := Go.Ground.phase }, { on := 1, ground := Go.Ground.phase }, { on := 2, ground := Go.Ground.phase }, { on := 3, ground := Go.Ground.phase }, { on := 4, ground := Go.Ground.phase }, { on := 5, ground := Go.Ground.phase }, { on := 6, ground := Go.Ground.phase }, { on := 7, ground := Go.Ground.phase }, { on := 8, ground := Go.Ground.textOnly Go.Departure.lateStores }, { on := 9, ground := Go.Ground.phase }, { on := 10, ground := Go.Ground.phase }], guard := none }) (v := ?v15) rfl (by kernel_rfl) (by kernel_rfl) (by kernel_rfl) (fun _ _ _ h => h) (Or.inl ⟨by rfl, ?hy15⟩) (by assumption) ?rs15
      case hy15 =>
        intro w hSw
        (try dsimp only at hSw)
        go_simp
        try with_reducible rfl
      (try simp only [Act.put, List.setIfInBounds_toArray, List.set_cons_zero, List.set_cons_succ])
      refine wpAnyH_take (i := 12) (oi := { dst := some 7, op := Go.Op.assign (Go.Operand.tmp 24), type := 22, pos := "more.go:153", after := #[{ on := 8, ground := Go.Ground.data }, { on := 11, ground := Go.Ground.chain }, { on := 0, ground := Go.Ground.phase }, { on := 1, ground := Go.Ground.phase }, { on := 2, ground := Go.Ground.phase }, { on := 3, ground := Go.Ground.phase }, { on := 4, ground := Go.Ground.phase }, { on := 5, ground := Go.Ground.phase }, { on := 6, ground := Go.Ground.phase }, { on := 7, ground := Go.Ground.phase }, { on := 8, ground := Go.Ground.phase }, { on := 9, ground := Go.Ground.phase }, { on := 10, ground := Go.Ground.phase }, { on := 11, ground := Go.Ground.phase }], guard := none }) (v := ?v16) rfl (by kernel_rfl) (by kernel_rfl) (by kernel_rfl) (fun _ _ _ h => h) (Or.inl ⟨by rfl, ?hy16⟩) (by assumption) ?rs16
      case hy16 =>
        intro w hSw
        (try dsimp only at hSw)
        go_simp
        try with_reducible rfl
      (try simp only [Act.put, List.setIfInBounds_toArray, List.set_cons_zero, List.set_cons_succ])
      refine wpAnyH_done (by kernel_rfl) ?_ _
      go_wp2_with fail
      go_meet
      exact ⟨_, _, _, _, _, _, _, undef, rfl, rfl, r0, r1, ⟨_, _, rfl, hX3, hX4⟩, hX5, hKF⟩
  case rest =>
    obtain ⟨n5, oa, oc, la, lc, ha, hc, v, rfl, rfl, z0, z1, hRx, hHx, hKx⟩ := hcut
    obtain ⟨wx, hwx, hKx⟩ := Kept.named hKx
    subst hwx
    have hcells : ∀ i, i < 3 → wx.cell? ⟨ha, i * 2, none⟩ = some (.int .i64 (((H i).1 : Nat) : Int)) ∧ wx.cell? ⟨ha, i * 2 + 1, none⟩ = some (.int .i64 (((H i).2 : Nat) : Int)) := fun i hi => by
      obtain ⟨a, b, o, cap, e, h3, h4⟩ := hHx
      cases e
      have e2 := h3 (by omega)
      cases e2
      have h5 := h4 i hi
      rw [Nat.zero_add] at h5
      exact h5
    have HCE := Lib.hid hcells
    obtain ⟨f, HF⟩ : ∃ f : Nat → Nat, Hid (f = fun j => (mR nP p0 p1).dist (H (j / 3)) (H (j % 3))) := ⟨_, rfl⟩
    have hf : ∀ i k, k < 3 → f (i * 3 + k) = (mR nP p0 p1).dist (H i) (H k) := fun i k hk => by
      rw [HF.out]
      show (mR nP p0 p1).dist (H ((i * 3 + k) / 3)) (H ((i * 3 + k) % 3)) = _
      rw [show (i * 3 + k) / 3 = i by omega, show (i * 3 + k) % 3 = k by omega]
    have hle : ∀ i k, k < 3 → f (i * 3 + k) ≤ 360 := fun i k hk => by rw [hf i k hk]; exact Road.dist_le ok (HG.out i) (HG.out k)
    have hsy : ∀ i k, i < 3 → k < 3 → f (k * 3 + i) = f (i * 3 + k) := fun i k hi hk => by rw [hf k i hi, hf i k hk]; exact Road.dist_comm ok (HG.out k) (HG.out i)
    have htr : ∀ i k m, k < 3 → m < 3 → f (i * 3 + k) ≤ f (i * 3 + m) + f (m * 3 + k) := fun i k m hk hm => by rw [hf i k hk, hf i m hm, hf m k hk]; exact Road.dist_three ok (HG.out i) (HG.out m) (HG.out k)
    have H14 := Lib.hid hf
    have HLE := Lib.hid hle
    have HSY := Lib.hid hsy
    have HTR := Lib.hid htr
    have DI := Lib.hid (fun W p u q x hR hs ht => Distance_nat W (.agg #[(.slice oa (mN nP) oc), (.slice la (mN nP) lc)]) (nP := nP) (p0 := p0) (p1 := p1) hR p u q x hs ht)
    obtain ⟨Wd, hWd, hszd, hd0, hKd⟩ := nine_box wx wx.heap.size rfl 85
    have HWd := Lib.hid hWd
    clear hWd
    have hd9 : Wd.rowIs wx.heap.size 85 9 (upF f (0 * 3 + 0)) := hd0.congr (fun j _ => by unfold upF; simp)
    clear hcells hf hle hsy htr hHx hd0 hy6 MD
    go_wp2_with fail
    rw [HWd.out]
    clear HWd
    go_loopg [9] 3 (fun g s9 wr => ∃ i : Nat, i ≤ 3 ∧ g = 3 - i ∧ s9 = .int .i64 i ∧ wr.rowIs wx.heap.size 85 9 (upF f (i * 3 + 0)) ∧ Kept wx wr)
    case atStart => exact ⟨0, Nat.zero_le _, rfl, rfl, hd9, hKd⟩
    case round =>
      clear hd9 hKd
      obtain ⟨i, hi, rfl, rfl, hdr, hKi⟩ := hrel
      by_cases hlt : i < 3
      · have b1 : (i : Int) < 3 := by omega
        have b2 : (0 : Int) ≤ (i : Int) := by omega
        have b3 : IntKind.i64.wrap ((i : Int) + 1) = (i : Int) + 1 := IntWalk.i64_in _ (by omega)
        go_wp2_with fail
        obtain ⟨Wo, rfl⟩ : ∃ Wo : World, Wo = wr := ⟨_, rfl⟩
        go_loopg [10] 3 (fun g s10 wr => ∃ k : Nat, k ≤ 3 ∧ g = 3 - k ∧ s10 = .int .i64 k ∧ wr.rowIs wx.heap.size 85 9 (upF f (i * 3 + k)) ∧ Kept wx wr)
        case atStart => exact ⟨0, Nat.zero_le _, rfl, rfl, hdr, hKi⟩
        case round =>
          clear hdr hKi
          obtain ⟨k, hk, rfl, rfl, hdr, hKi⟩ := hrel
          by_cases hlk : k < 3
          · have b4 : (k : Int) < 3 := by omega
            have b5 : (0 : Int) ≤ (k : Int) := by omega
            have b6 : IntKind.i64.wrap ((k : Int) + 1) = (k : Int) + 1 := IntWalk.i64_in _ (by omega)
            obtain ⟨ci0, ci1⟩ := HCE.out i hlt
            obtain ⟨ck0, ck1⟩ := HCE.out k hlk
            have hsi := HG.out i
            have hsk := HG.out k
            have hdz := Road.dist_zero ok hsi hsk
            have hdd := H14.out i k hlk
            have hdl := HLE.out i k hlk
            obtain ⟨⟨p, u⟩, HPI⟩ : ∃ z, Hid (z = H i) := ⟨_, rfl⟩
            obtain ⟨⟨q, x⟩, HQK⟩ : ∃ z, Hid (z = H k) := ⟨_, rfl⟩
            rw [← HPI.out] at ci0 ci1 hsi hdz hdd
            rw [← HQK.out] at ck0 ck1 hsk hdz hdd
            simp only at ci0 ci1 ck0 ck1
            have HSi := Lib.hid hsi
            have HSk := Lib.hid hsk
            obtain ⟨d, HD⟩ : ∃ d, Hid (d = f (i * 3 + k)) := ⟨_, rfl⟩
            rw [← HD.out] at hdd hdl
            rw [← hdd] at hdz
            have HDD := Lib.hid hdd
            have HDZ := Lib.hid hdz
            have y0 := hKi.cellSome z0
            have y1 := hKi.cellSome z1
            have y2 := hKi.cellSome ci0
            have y3 := hKi.cellSome ci1
            have y4 := hKi.cellSome ck0
            have y5 := hKi.cellSome ck1
            clear hdd hdz hsi hsk ci0 ci1 ck0 ck1
            go_upto_region 9 with fail
            go_cut [11, 12] (fun v11 v12 wc => v11 = .int .i64 (d : Int) ∧ v12 = .int .i64 0 ∧ wc.cell? ⟨ha, i * 2, none⟩ = some (.int .i64 (p : Int)) ∧ wc.cell? ⟨ha, i * 2 + 1, none⟩ = some (.int .i64 (u : Int)) ∧ wc.cell? ⟨ha, k * 2, none⟩ = some (.int .i64 (q : Int)) ∧ wc.cell? ⟨ha, k * 2 + 1, none⟩ = some (.int .i64 (x : Int)) ∧ Kept wr wc)
            case first =>
              go_region_held3 (fun w' => w'.cell? ⟨n5, 0, none⟩ = some (.slice oa (mN nP) oc) ∧ w'.cell? ⟨n5, 1, none⟩ = some (.slice la (mN nP) lc) ∧ w'.cell? ⟨ha, i * 2, none⟩ = some (.int .i64 (p : Int)) ∧ w'.cell? ⟨ha, i * 2 + 1, none⟩ = some (.int .i64 (u : Int)) ∧ w'.cell? ⟨ha, k * 2, none⟩ = some (.int .i64 (q : Int)) ∧ w'.cell? ⟨ha, k * 2 + 1, none⟩ = some (.int .i64 (x : Int)) ∧ Kept wr w')
                (exact keep6 y0 y1 y2 y3 y4 y5 (by repeat (first | assumption | exact Kept.refl _ | apply Kept.drew | apply Kept.drewN | apply Kept.alloc | refine Kept.trans ?_ (by assumption))))
                (first | (go_at_call 16; refine (DI.out _ p u q x (hRx.kept (by repeat (first | assumption | exact Kept.refl _ | apply Kept.drew | apply Kept.drewN | apply Kept.alloc | refine Kept.trans ?_ (by assumption)))) HSi.out HSk.out).mono ?_; rintro e w4 ⟨rfl, hk4⟩))
              all_goals
                go_wp2_with fail
                go_meet
                exact ⟨by rw [HDD.out], rfl, keep4 y2 y3 y4 y5 (by repeat (first | assumption | exact Kept.refl _ | apply Kept.drew | apply Kept.drewN | apply Kept.alloc | refine Kept.trans ?_ (by assumption)))⟩
            obtain ⟨rfl, rfl, y2, y3, y4, y5, hKc⟩ := hcut
            obtain ⟨wc, hwc, hKc⟩ := Kept.named hKc
            subst hwc
            by_cases e : (p, u) = (q, x)
            · have hd0 : d = 0 := HDZ.out.2 e
              injection e with e0 e1
              subst e0
              subst e1
              have c1 : ((d : Int) == 0) = true := by simp; omega
              have c2 : ¬ (d : Int) < 0 := by omega
              have c3 : ((p : Int) == (p : Int)) = true := by simp
              have c4 : ((u : Int) == (u : Int)) = true := by simp
              have c5 : decide ((d : Int) < 0) = false := by simp
              clear hd0 HDZ
              go_wp2_with fail
              go_quiet (fail)
              have hdq := (hKc.drewN nq).row hdr
              have fz := hdq.frozen (i * 3 + k)
              have cl : (wc.drewN nq).cell? ⟨wx.heap.size, i * 3 + k, none⟩ = some (upF f (i * 3 + k) (i * 3 + k)) := hdq.cell (by omega)
              have hKq := (hKi.trans hKc).drewN nq
              generalize World.drewN wc nq = wq at *
              have hds := upF_set hdq
              rw [← HD.out] at hds
              have hKs := hKq.setCell (p := ⟨wx.heap.size, i * 3 + k, none⟩) (Nat.le_refl _) (.int .i64 (d : Int))
              go_wp2_with fail
              go_roundg (3 - (k + 1))
              case measure => omega
              case rel => exact ⟨k + 1, by omega, rfl, by go_num, hds, hKs⟩
            · have hd0 : d ≠ 0 := fun h => e (HDZ.out.1 h)
              have c1 : ((d : Int) == 0) = false := by simp; omega
              have c2 : ¬ (d : Int) < 0 := by omega
              have c5 : decide ((d : Int) < 0) = false := by simp
              clear HDZ
              by_cases e0 : p = q
              · subst e0
                have c3 : ((p : Int) == (p : Int)) = true := by simp
                have c4 : ((u : Int) == (x : Int)) = false := by
                  have : u ≠ x := fun h => e (by rw [h])
                  simp; omega
                clear e hd0
                go_wp2_with fail
                go_quiet (fail)
                have hdq := (hKc.drewN nq).row hdr
                have fz := hdq.frozen (i * 3 + k)
                have cl : (wc.drewN nq).cell? ⟨wx.heap.size, i * 3 + k, none⟩ = some (upF f (i * 3 + k) (i * 3 + k)) := hdq.cell (by omega)
                have hKq := (hKi.trans hKc).drewN nq
                generalize World.drewN wc nq = wq at *
                have hds := upF_set hdq
                rw [← HD.out] at hds
                have hKs := hKq.setCell (p := ⟨wx.heap.size, i * 3 + k, none⟩) (Nat.le_refl _) (.int .i64 (d : Int))
                go_wp2_with fail
                go_roundg (3 - (k + 1))
                case measure => omega
                case rel => exact ⟨k + 1, by omega, rfl, by go_num, hds, hKs⟩
              · have c3 : ((p : Int) == (q : Int)) = false := by simp; omega
                clear e e0 hd0
                go_wp2_with fail
                go_quiet (fail)
                have hdq := (hKc.drewN nq).row hdr
                have fz := hdq.frozen (i * 3 + k)
                have cl : (wc.drewN nq).cell? ⟨wx.heap.size, i * 3 + k, none⟩ = some (upF f (i * 3 + k) (i * 3 + k)) := hdq.cell (by omega)
                have hKq := (hKi.trans hKc).drewN nq
                generalize World.drewN wc nq = wq at *
                have hds := upF_set hdq
                rw [← HD.out] at hds
                have hKs := hKq.setCell (p := ⟨wx.heap.size, i * 3 + k, none⟩) (Nat.le_refl _) (.int .i64 (d : Int))
                go_wp2_with fail
                go_roundg (3 - (k + 1))
                case measure => omega
                case rel => exact ⟨k + 1, by omega, rfl, by go_num, hds, hKs⟩
          · obtain rfl : k = 3 := by omega
            have hdr2 : wr.rowIs wx.heap.size 85 9 (upF f ((i + 1) * 3 + 0)) := by rw [show (i + 1) * 3 + 0 = i * 3 + 3 by omega]; exact hdr
            go_wp2_with fail
            go_roundg (3 - (i + 1))
            case measure => omega
            case rel => exact ⟨i + 1, by omega, rfl, by go_num, hdr2, hKi⟩
      · obtain rfl : i = 3 := by omega
        have hcell : ∀ i k, i < 3 → k < 3 → wr.cell? ⟨wx.heap.size, i * 3 + k, none⟩ = some (.int .i64 ((f (i * 3 + k) : Nat) : Int)) := fun i k hi hk => by
          have h := hdr.cell (i := i * 3 + k) (by omega)
          unfold upF at h
          rwa [if_pos (by omega)] at h
        have HCC := Lib.hid hcell
        clear hcell hdr
        obtain ⟨Wf, rfl⟩ : ∃ Wf : World, Wf = wr := ⟨_, rfl⟩
        go_wp2_with fail
        go_loopg [13] 3 (fun g s13 wr => ∃ i : Nat, i ≤ 3 ∧ g = 3 - i ∧ s13 = .int .i64 i ∧ Kept Wf wr)
        case atStart => exact ⟨0, Nat.zero_le _, rfl, rfl, Kept.refl _⟩
        case round =>
          obtain ⟨i, hi, rfl, rfl, hKf⟩ := hrel
          by_cases hlt : i < 3
          · have b1 : (i : Int) < 3 := by omega
            have b2 : (0 : Int) ≤ (i : Int) := by omega
            have b3 : IntKind.i64.wrap ((i : Int) + 1) = (i : Int) + 1 := IntWalk.i64_in _ (by omega)
            go_wp2_with fail
            go_loopg [14] 3 (fun g s14 wr => ∃ k : Nat, k ≤ 3 ∧ g = 3 - k ∧ s14 = .int .i64 k ∧ Kept Wf wr)
            case atStart => exact ⟨0, Nat.zero_le _, rfl, rfl, hKf⟩
            case round =>
              clear hKf
              obtain ⟨k, hk, rfl, rfl, hKf⟩ := hrel
              by_cases hlk : k < 3
              · have b4 : (k : Int) < 3 := by omega
                have b5 : (0 : Int) ≤ (k : Int) := by omega
                have b6 : IntKind.i64.wrap ((k : Int) + 1) = (k : Int) + 1 := IntWalk.i64_in _ (by omega)
                go_wp2_with fail
                go_loopg [15] 3 (fun g s15 wr => ∃ m : Nat, m ≤ 3 ∧ g = 3 - m ∧ s15 = .int .i64 m ∧ Kept Wf wr)
                case atStart => exact ⟨0, Nat.zero_le _, rfl, rfl, hKf⟩
                case round =>
                  clear hKf
                  obtain ⟨m, hm, rfl, rfl, hKf⟩ := hrel
                  by_cases hlm : m < 3
                  · have b7 : (m : Int) < 3 := by omega
                    have b8 : (0 : Int) ≤ (m : Int) := by omega
                    have b9 : IntKind.i64.wrap ((m : Int) + 1) = (m : Int) + 1 := IntWalk.i64_in _ (by omega)
                    have y1 := hKf.cellSome (HCC.out i k hlt hlk)
                    have y2 := hKf.cellSome (HCC.out k i hlk hlt)
                    have y3 := hKf.cellSome (HCC.out i m hlt hlm)
                    have y4 := hKf.cellSome (HCC.out m k hlm hlk)
                    rw [HSY.out i k hlt hlk] at y2
                    have htr := HTR.out i k m hlk hlm
                    have hl3 := HLE.out i m hlm
                    have hl4 := HLE.out m k hlk
                    obtain ⟨d1, HD1⟩ : ∃ d, Hid (d = f (i * 3 + k)) := ⟨_, rfl⟩
                    obtain ⟨d2, HD2⟩ : ∃ d, Hid (d = f (i * 3 + m)) := ⟨_, rfl⟩
                    obtain ⟨d3, HD3⟩ : ∃ d, Hid (d = f (m * 3 + k)) := ⟨_, rfl⟩
                    rw [← HD1.out] at y1 y2 htr
                    rw [← HD2.out] at y3 htr hl3
                    rw [← HD3.out] at y4 htr hl4
                    have c1 : ((d1 : Int) != (d1 : Int)) = false := by simp
                    have c2 : IntKind.i64.wrap ((d2 : Int) + (d3 : Int)) = (d2 : Int) + (d3 : Int) := IntWalk.i64_in _ (by omega)
                    have c3 : decide ((d2 : Int) + (d3 : Int) < (d1 : Int)) = false := by simp; omega
                    go_wp2_with fail
                    go_quiet (fail)
                    go_wp2_with fail
                    go_roundg (3 - (m + 1))
                    case measure => omega
                    case rel => exact ⟨m + 1, by omega, rfl, by go_num, hKf.drewN _⟩
                  · go_wp2_with fail
                    go_roundg (3 - (k + 1))
                    case measure => omega
                    case rel => exact ⟨k + 1, by omega, rfl, by go_num, hKf⟩
              · go_wp2_with fail
                go_roundg (3 - (i + 1))
                case measure => omega
                case rel => exact ⟨i + 1, by omega, rfl, by go_num, hKf⟩
          · go_wp2_with (first | (go_at_call 19; refine (lives_any _).mono ?_; rintro e w9 ⟨rfl, hk9⟩))
            go_ret
            exact ⟨rfl, (hKw.trans hKx).trans ((hKi.trans hKf).trans hk9)⟩
end Go.Proofs.Ytlgpclnmonpkjaa
