/-
  The program's minus and superstable.
-/
import Derived.Test.YtlnpipkhofhlnaaU
import Derived.StillTailTactics
namespace Go.Proofs.Ytlnpipkhofhlnaa
open Go.RowKit Go.Deep

def MinusPost (w : World) (N : Nat) (f : Nat → Int) (e : Ending) (w' : World) : Prop := ∃ r, e = .returned (.slice (some ⟨r, 0, none⟩) N N) ∧ Kept w w' ∧ w'.rowIs r 3 N (fun i => .int .i64 (f i)) ∧ w.heap.size ≤ r
set_option maxRecDepth 100000 in
set_option maxHeartbeats 2000000 in
theorem minus_any (w : World) (va vb : Value) (N : Nat) (fa fb : Nat → Int) (hA : IntsAt w va N fa) (hB : IntsAt w vb N fb) (hN1 : 1 ≤ N) (hN : N ≤ 1000) (ha : ∀ i, i < N → -1000000 ≤ fa i ∧ fa i ≤ 1000000) (hb : ∀ i, i < N → -1000000 ≤ fb i ∧ fb i ≤ 1000000) :
    Calls Try.prog 68 #[va, vb] w (MinusPost w N (fun i => fa i - fb i)) := by
  obtain ⟨a1, b1, o1, cap1, rfl, ha1, hc1⟩ := hA
  obtain ⟨a2, b2, o2, cap2, rfl, ha2, hc2⟩ := hB
  obtain rfl := ha1 (by omega)
  obtain rfl := ha2 (by omega)
  have HC1 := Lib.hid hc1
  have HC2 := Lib.hid hc2
  have HA := Lib.hid ha
  have HB := Lib.hid hb
  have hmk := fun W => mkInts (N : Int) N rfl (by omega) W
  have hR0 := World.rowIs_made w (.int .i64 0) N 3
  have hK0 : Kept w (w.alloc (.cells (madeCells #[.int .i64 0] N) 3)) := (Kept.refl w).alloc _
  clear hc1 hc2 ha1 ha2 ha hb
  go_enter Try.func68, Try.ntmps68
  go_wp2_with fail
  clear hmk
  generalize w.alloc (.cells (madeCells #[.int .i64 0] N) 3) = W2 at *
  obtain ⟨sb, HSB⟩ : ∃ sb, Hid (sb = w.heap.size) := ⟨_, rfl⟩
  have hsb : w.heap.size ≤ sb := by rw [HSB.out]; exact Nat.le_refl _
  rw [← HSB.out] at hR0 ⊢
  clear HSB
  go_loopg [12] N (fun gg i wr => ∃ k : Nat, k ≤ N ∧ gg = N - k ∧ i = .int .i64 k ∧ Kept w wr ∧ wr.rowIs sb 3 N (fun i => .int .i64 (if i < k then fa i - fb i else 0)))
  case atStart => exact ⟨0, Nat.zero_le _, rfl, rfl, hK0, hR0.congr (fun i _ => rfl)⟩
  case round =>
    obtain ⟨k, hk, rfl, rfl, hK, hR⟩ := hrel
    clear hK0 hR0
    by_cases hlt : k < N
    · have t1 := hK.cellSome (HC1.out k hlt)
      have t2 := hK.cellSome (HC2.out k hlt)
      have f1 := hR.frozen k
      have t3 := hR.cell hlt
      have h1 := HA.out k hlt
      have h2 := HB.out k hlt
      have s1 : (k : Int) < (N : Int) := by omega
      have s3 : (0 : Int) ≤ (k : Int) := by omega
      have s4 : IntKind.i64.wrap (fa k - fb k) = fa k - fb k := IntWalk.i64_in _ (by omega)
      rw [if_neg (Nat.lt_irrefl k)] at t3
      clear h1 h2
      go_wp2_with fail
      refine wp_region_still_tail 12 (by kernel_rfl) (by kernel_rfl) ?_
      change wpStill _ _ (World.drew _) (fun a' => wpList _ _ _ _ a' (World.drew _)) _ _
      simp only [List.take_succ_cons, List.take_zero, List.drop_succ_cons, List.drop_zero]
      repeat still_step
      refine wpStill_nil ?_
      have q1 : wr.drew.cell? ⟨sb, k, none⟩ = some (.int .i64 0) := t3
      have q2 : wr.drew.frozen? ⟨sb, k, none⟩ = false := f1
      have hK2 := hK.drew
      have hR2 := (World.rowIs.set (w := wr.drew) (((Kept.refl wr).drew).row hR) k (.int .i64 (fa k - fb k))).congr (g := fun i => .int .i64 (if i < k + 1 then fa i - fb i else 0)) (fun i _ => by
        by_cases e : i = k
        · subst e; rw [if_pos rfl, if_pos (by omega)]
        · rw [if_neg e]
          by_cases e2 : i < k
          · rw [if_pos e2, if_pos (by omega)]
          · rw [if_neg e2, if_neg (by omega)])
      clear hK hR t1 t2 f1 t3
      generalize wr.drew = w2 at *
      go_wp2_with fail
      go_roundg (N - (k + 1))
      case measure => omega
      case rel => exact ⟨k + 1, by omega, rfl, by go_num, hK2.setCell (p := ⟨sb, k, none⟩) hsb _, hR2⟩
    · obtain rfl : k = N := by omega
      go_wp2_with fail
      go_ret
      exact ⟨sb, rfl, hK, hR.congr (fun i hi => by rw [if_pos hi]), hsb⟩

/-- what superstable returns: what the recurrent heaps lack to the greatest ones -/
def topI (D : Nat → Nat) : Nat → Int := fun i => (D (i + 1) : Int) - 1
def LowPost (w : World) (n : Nat) (D : Nat → Nat) (J : Nat → Nat → Nat) (h : Nat → Int) (e : Ending) (w' : World) : Prop :=
  ∃ (r : Nat) (f x : Nat → Int), e = .returned (.slice (some ⟨r, 0, none⟩) (n - 1) (n - 1)) ∧ Kept w w' ∧ w.heap.size ≤ r ∧ w'.rowIs r 3 (n - 1) (fun i => .int .i64 (topI D i - f (i + 1))) ∧ Odo n D J h x ∧ (∀ u, u < n → f u = fin n D J h x u) ∧ ∀ u, u < n → 0 ≤ f u
theorem low_bd {n : Nat} {D : Nat → Nat} {J : Nat → Nat → Nat} {h f x : Nat → Int} (ok : YardOk n D J) (hodo : Odo n D J h x) (hf : ∀ u, u < n → f u = fin n D J h x u) (hf0 : ∀ u, u < n → 0 ≤ f u) : ∀ i, i < n - 1 → -1000000 ≤ f (i + 1) ∧ f (i + 1) ≤ 1000000 := fun i hi => by
  have h1 := hf0 (i + 1) (by omega)
  have h2 := hodo.1.2.2 (i + 1) (by omega) (by omega)
  rw [← hf (i + 1) (by omega)] at h2
  have h3 := ok.D20 (i + 1) (by omega)
  omega
set_option maxRecDepth 100000 in
set_option maxHeartbeats 4000000 in
theorem superstable_any (w : World) (n m bd bj : Nat) (br D : Nat → Nat) (J : Nat → Nat → Nat) (lv : Value) (hp : Nat → Int) (c : Int) (y : Nat → Int) (hY : YardAt w n bd bj br D J) (ok : YardOk n D J) (hL : IntsAt w lv (n - 1) hp)
    (hh : ∀ i, i < n - 1 → -1000 ≤ hp i ∧ hp i ≤ 1000) (hc : countI n D J = c) (hc1 : 1 ≤ c) (hc2 : c ≤ 1000000) (hy : Stab n D J (atV (fun i => topI D i - hp i + moreN c)) y) (hyB : ∀ v, v < n → y v ≤ 1700000000000000) :
    Calls Try.prog 42 #[YardV n m bd bj, lv] w (LowPost w n D J (atV (fun i => topI D i - hp i + moreN c))) := by
  have hn2 := ok.n2
  have hn8 := ok.n8
  have hn1 : 1 ≤ n := by omega
  have hD20 := ok.D20
  have hD1 := ok.D1
  have htop : ∀ i, i < n - 1 → 0 ≤ topI D i ∧ topI D i ≤ 19 := fun i hi => by
    have := hD20 (i + 1) (by omega); have := hD1 (i + 1) (by omega) (by omega); unfold topI; omega
  have HT := Lib.hid htop
  have HH := Lib.hid hh
  have HC := Lib.hid hc
  obtain ⟨b0, b1, b2, b3⟩ := YBox.new w n m bd bj 78
  have hK0 : Kept w (w.alloc (.cells #[.int .i64 n, .int .i64 m, .slice (some ⟨bd, 0, none⟩) n n, .slice (some ⟨bj, 0, none⟩) n n] 78)) := (Kept.refl w).alloc _
  have hN1 : 1 ≤ n - 1 := by omega
  have hN8 : n - 1 ≤ 1000 := by omega
  have HE1 : Hid (n - 1 + 1 = n) := by show n - 1 + 1 = n; omega
  unfold LowPost
  clear hc htop hh hD20 hD1
  unfold YardV
  go_enter Try.func42, Try.ntmps42
  go_wp2_with fail
  generalize w.alloc (.cells #[.int .i64 n, .int .i64 m, .slice (some ⟨bd, 0, none⟩) n n, .slice (some ⟨bj, 0, none⟩) n n] 78) = W at *
  refine (greatest_any W n m bd bj br D J (hY.kept hK0) hn8 hn1 ok.D40).mono ?_
  rintro e w1 ⟨rfl, hk1, hr1⟩
  have hK1 := hK0.trans hk1
  have d0 := hk1.cellSome b0
  have d1 := hk1.cellSome b1
  have d2 := hk1.cellSome b2
  have d3 := hk1.cellSome b3
  have hT1 : IntsAt w1 (.slice (some ⟨W.heap.size + 1, 0, none⟩) (n - 1) (n - 1)) (n - 1) (topI D) := CellsAt.of_row hr1
  have hL1 := CellsAt.kept hL hK1
  have hY1 := hY.kept hK1
  have HTT := Lib.hid hT1
  have HLL := Lib.hid hL1
  have hs1 := Kept.size hK1
  clear b0 b1 b2 b3 hK0 hk1 hL hY hr1 hT1 hL1
  go_wp2_with fail
  -- region
  refine wp_region_held_drew (S := (fun w' => w'.cell? ⟨w.heap.size, 0, none⟩ = some (.int .i64 n) ∧ w'.cell? ⟨w.heap.size, 1, none⟩ = some (.int .i64 m) ∧ w'.cell? ⟨w.heap.size, 2, none⟩ = some (.slice (some ⟨bd, 0, none⟩) n n) ∧ w'.cell? ⟨w.heap.size, 3, none⟩ = some (.slice (some ⟨bj, 0, none⟩) n n) ∧ Kept w1 w')) (by kernel_rfl) ?_ (fun hHeld => ?_)
  · (try dsimp only)
    (first | exact keep4 d0 d1 d2 d3 (by repeat (first | assumption | exact Kept.refl _ | apply Kept.drew | apply Kept.drewN | apply Kept.alloc | refine Kept.trans ?_ (by assumption))))
  refine wpAnyH_take (i := 0) (oi := { dst := some 8, op := Go.Op.move (Go.Operand.tmp 5), type := 25, pos := "yard.go:168", after := #[], guard := none }) (v := ?v1) rfl (by kernel_rfl) (by kernel_rfl) (by kernel_rfl) (fun _ _ _ h => h) (Or.inl ⟨by rfl, ?hy1⟩) (by assumption) ?rs1
  case hy1 =>
    intro w hSw
    (try dsimp only at hSw)
    go_simp
    try with_reducible rfl
  (try simp only [Act.put, List.setIfInBounds_toArray, List.set_cons_zero, List.set_cons_succ])
  refine wpAnyH_take (i := 1) (oi := { dst := some 9, op := Go.Op.load 78 (Go.Operand.tmp 2), type := 78, pos := "yard.go:168", after := #[], guard := none }) (v := ?v2) rfl (by kernel_rfl) (by kernel_rfl) (by kernel_rfl) (fun _ _ _ h => h) (Or.inl ⟨by rfl, ?hy2⟩) (by assumption) ?rs2
  case hy2 =>
    intro w hSw
    (try dsimp only at hSw)
    go_simp
    try with_reducible rfl
  (try simp only [Act.put, List.setIfInBounds_toArray, List.set_cons_zero, List.set_cons_succ])
  refine wpAnyH_take (i := 2) (oi := { dst := some 10, op := Go.Op.move (Go.Operand.tmp 5), type := 25, pos := "yard.go:168", after := #[], guard := none }) (v := ?v3) rfl (by kernel_rfl) (by kernel_rfl) (by kernel_rfl) (fun _ _ _ h => h) (Or.inl ⟨by rfl, ?hy3⟩) (by assumption) ?rs3
  case hy3 =>
    intro w hSw
    (try dsimp only at hSw)
    go_simp
    try with_reducible rfl
  (try simp only [Act.put, List.setIfInBounds_toArray, List.set_cons_zero, List.set_cons_succ])
  refine wpAnyH_take (i := 3) (oi := { dst := some 11, op := Go.Op.move (Go.Operand.tmp 1), type := 25, pos := "yard.go:168", after := #[], guard := none }) (v := ?v4) rfl (by kernel_rfl) (by kernel_rfl) (by kernel_rfl) (fun _ _ _ h => h) (Or.inl ⟨by rfl, ?hy4⟩) (by assumption) ?rs4
  case hy4 =>
    intro w hSw
    (try dsimp only at hSw)
    go_simp
    try with_reducible rfl
  (try simp only [Act.put, List.setIfInBounds_toArray, List.set_cons_zero, List.set_cons_succ])
  refine wpAnyH_ready (rs := [4]) (by kernel_rfl) (by simp) ?_
  refine AllReadyH.cons (o := { dst := some 12, op := Go.Op.call { callee := Go.Callee.value (Go.Operand.func 68), args := #[Go.Operand.tmp 10, Go.Operand.tmp 11], argTypes := #[25, 25] }, type := 25, pos := "yard.go:168", after := #[{ on := 2, ground := Go.Ground.data }, { on := 3, ground := Go.Ground.data }], guard := none }) rfl (fun K2 hK2 => ?_) AllReadyH.nil
  go_simp
  (go_at_call 68; refine (minus_any _ _ lv (n - 1) (topI D) hp ?_ ?_ hN1 hN8 (fun i hi => by have := HT.out i hi; omega) (fun i hi => by have := HH.out i hi; omega)).mono ?_; (exact CellsAt.kept HTT.out (by repeat (first | assumption | exact Kept.refl _ | apply Kept.drew | apply Kept.drewN | apply Kept.alloc | refine Kept.trans ?_ (by assumption)))); (exact CellsAt.kept HLL.out (by repeat (first | assumption | exact Kept.refl _ | apply Kept.drew | apply Kept.drewN | apply Kept.alloc | refine Kept.trans ?_ (by assumption)))); rintro e w2 ⟨r2, rfl, hk2, hr2, hz2⟩)
  go_wp2_with fail
  refine hK2.out _ _ ?_ (fun hHeld => ?_)
  · (try dsimp only)
    (first | exact keep4 d0 d1 d2 d3 (by repeat (first | assumption | exact Kept.refl _ | apply Kept.drew | apply Kept.drewN | apply Kept.alloc | refine Kept.trans ?_ (by assumption))))
  clear hK2 K2
  (try simp only [Act.put, List.setIfInBounds_toArray, List.set_cons_zero, List.set_cons_succ])
  refine wpAnyH_ready (rs := [5]) (by kernel_rfl) (by simp) ?_
  refine AllReadyH.cons (o := { dst := some 13, op := Go.Op.call { callee := Go.Callee.value (Go.Operand.func 41), args := #[Go.Operand.tmp 9, Go.Operand.tmp 12], argTypes := #[78, 25] }, type := 25, pos := "yard.go:168", after := #[{ on := 1, ground := Go.Ground.data }, { on := 4, ground := Go.Ground.data }, { on := 4, ground := Go.Ground.chain }], guard := none }) rfl (fun K2 hK2 => ?_) AllReadyH.nil
  go_simp
  (go_at_call 41; refine (recurrent_any _ n m bd bj br D J _ (fun i => topI D i - hp i) c y ?_ ok ?_ (fun i hi => by have := HT.out i hi; have := HH.out i hi; omega) HC.out hc1 hc2 hy hyB).mono ?_; (exact hY1.kept (by repeat (first | assumption | exact Kept.refl _ | apply Kept.drew | apply Kept.drewN | apply Kept.alloc | refine Kept.trans ?_ (by assumption)))); (exact CellsAt.kept (CellsAt.of_row hr2) (by repeat (first | assumption | exact Kept.refl _ | apply Kept.drew | apply Kept.drewN | apply Kept.alloc | refine Kept.trans ?_ (by assumption)))); rintro e w3 ⟨r, f, x, rfl, hk3, hr3, hR3, hodo, hf, hf0⟩)
  go_wp2_with fail
  refine hK2.out _ _ ?_ (fun hHeld => ?_)
  · (try dsimp only)
    (first | exact keep4 d0 d1 d2 d3 (by repeat (first | assumption | exact Kept.refl _ | apply Kept.drew | apply Kept.drewN | apply Kept.alloc | refine Kept.trans ?_ (by assumption))))
  clear hK2 K2
  (try simp only [Act.put, List.setIfInBounds_toArray, List.set_cons_zero, List.set_cons_succ])
  refine wpAnyH_ready (rs := [6]) (by kernel_rfl) (by simp) ?_
  refine AllReadyH.cons (o := { dst := some 14, op := Go.Op.call { callee := Go.Callee.value (Go.Operand.func 68), args := #[Go.Operand.tmp 8, Go.Operand.tmp 13], argTypes := #[25, 25] }, type := 25, pos := "yard.go:168", after := #[{ on := 0, ground := Go.Ground.data }, { on := 5, ground := Go.Ground.data }, { on := 5, ground := Go.Ground.chain }], guard := none }) rfl (fun K2 hK2 => ?_) AllReadyH.nil
  go_simp
  (go_at_call 68; refine (minus_any _ _ _ (n - 1) (topI D) (fun i => f (i + 1)) ?_ ?_ hN1 hN8 (fun i hi => by have := HT.out i hi; omega) (low_bd ok hodo hf hf0)).mono ?_; (exact CellsAt.kept HTT.out (by repeat (first | assumption | exact Kept.refl _ | apply Kept.drew | apply Kept.drewN | apply Kept.alloc | refine Kept.trans ?_ (by assumption)))); (exact CellsAt.kept (CellsAt.of_row1 (n := n - 1) (by rw [HE1.out]; exact hR3)) (by repeat (first | assumption | exact Kept.refl _ | apply Kept.drew | apply Kept.drewN | apply Kept.alloc | refine Kept.trans ?_ (by assumption)))); rintro e w4 ⟨r4, rfl, hk4, hr4, hz4⟩)
  go_wp2_with fail
  refine hK2.out _ _ ?_ (fun hHeld => ?_)
  · (try dsimp only)
    (first | exact keep4 d0 d1 d2 d3 (by repeat (first | assumption | exact Kept.refl _ | apply Kept.drew | apply Kept.drewN | apply Kept.alloc | refine Kept.trans ?_ (by assumption))))
  clear hK2 K2
  (try simp only [Act.put, List.setIfInBounds_toArray, List.set_cons_zero, List.set_cons_succ])
  refine wpAnyH_take (i := 7) (oi := { dst := some 4, op := Go.Op.assign (Go.Operand.tmp 14), type := 25, pos := "yard.go:168", after := #[{ on := 6, ground := Go.Ground.data }, { on := 6, ground := Go.Ground.chain }, { on := 0, ground := Go.Ground.phase }, { on := 1, ground := Go.Ground.phase }, { on := 2, ground := Go.Ground.phase }, { on := 3, ground := Go.Ground.phase }, { on := 4, ground := Go.Ground.phase }, { on := 5, ground := Go.Ground.phase }, { on := 6, ground := Go.Ground.phase }], guard := none }) (v := ?v5) rfl (by kernel_rfl) (by kernel_rfl) (by kernel_rfl) (fun _ _ _ h => h) (Or.inl ⟨by rfl, ?hy5⟩) (by assumption) ?rs5
  case hy5 =>
    intro w hSw
    (try dsimp only at hSw)
    go_simp
    try with_reducible rfl
  (try simp only [Act.put, List.setIfInBounds_toArray, List.set_cons_zero, List.set_cons_succ])
  refine wpAnyH_done (by kernel_rfl) ?_ _
  -- end
  go_wp2_with fail
  go_ret
  have hKw : Kept w1 w4 := (by repeat (first | assumption | exact Kept.refl _ | apply Kept.drew | apply Kept.drewN | apply Kept.alloc | refine Kept.trans ?_ (by assumption)))
  have hs3 := Kept.size (show Kept w1 w3 from (by repeat (first | assumption | exact Kept.refl _ | apply Kept.drew | apply Kept.drewN | apply Kept.alloc | refine Kept.trans ?_ (by assumption))))
  have hz5 : w3.heap.size ≤ r4 := hz4
  exact ⟨r4, f, x, rfl, hK1.trans hKw, by omega, hr4, hodo, hf, hf0⟩
end Go.Proofs.Ytlnpipkhofhlnaa
