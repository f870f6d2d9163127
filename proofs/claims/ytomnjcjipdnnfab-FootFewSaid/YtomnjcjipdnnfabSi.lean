/-
  The program's skips.
-/
import Derived.Test.YtomnjcjipdnnfabFw
namespace Go.Proofs.Ytomnjcjipdnnfab
open Go.RowKit Go.Deep

theorem pairs_drop {w : World} {a b o n : Nat} {A B : Nat → Int} (h : ∀ i, i < n → w.cell? ⟨b, o + i * 2, none⟩ = some (.int .i64 (A i)) ∧ w.cell? ⟨b, o + i * 2 + 1, none⟩ = some (.int .i64 (B i))) (t : Nat) (ht : a + t < n) : w.cell? ⟨b, o + a * 2 + t * 2, none⟩ = some (.int .i64 (A (a + t))) ∧ w.cell? ⟨b, o + a * 2 + t * 2 + 1, none⟩ = some (.int .i64 (B (a + t))) := by
  have := h (a + t) ht
  rw [show o + a * 2 + t * 2 = o + (a + t) * 2 by omega]
  exact this
set_option maxRecDepth 100000 in
set_option maxHeartbeats 8000000 in
theorem skips_any (w : World) (n i j cap1 : Nat) (a1 : Option Addr) (A B : Nat → Int) (lim : Int) (hA : PairsAt w (.slice a1 n cap1) n A B) (hR : InR n A B) (hij : i < j) (hjn : j < n) (hn2 : n ≤ 1000) (hcap : n ≤ cap1) :
    Calls Try.prog 31 #[.slice a1 n cap1, .int .i64 i, .int .i64 j, .int .i64 lim] w (SkipsPost w A B lim i j) := by
  obtain ⟨a2, b1, o1, cap2, eqa, ha1, hc1⟩ := hA
  cases eqa
  obtain rfl := ha1 (by omega)
  have HC1 := Lib.hid hc1
  have HR := Lib.hid hR
  clear hc1 ha1 hR
  go_enter Try.func31, Try.ntmps31
  go_wp2_with fail
  have hst : Hid (∀ p, i < p → p ≤ i → dist (A p) (B p) (A i) (B i) ≤ lim) := fun p h1 h2 => by omega
  go_loopg [9] (j - i) (fun g s9 wr => ∃ k : Nat, i ≤ k ∧ k < j ∧ g = j - k ∧ s9 = .int .i64 k ∧ Kept w wr ∧ Hid (∀ p, i < p → p ≤ k → dist (A p) (B p) (A i) (B i) ≤ lim))
  case atStart => exact ⟨i, Nat.le_refl _, hij, rfl, rfl, Kept.refl _, hst⟩
  case round =>
    clear hst
    obtain ⟨k, hik, hkj, rfl, rfl, hK, hF⟩ := hrel
    by_cases hlt : k + 1 < j
    · obtain ⟨c0, c1⟩ := HC1.out (k + 1) (by omega)
      obtain ⟨c2, c3⟩ := HC1.out i (by omega)
      have x0 := hK.cellSome c0
      have x1 := hK.cellSome c1
      have y0 := hK.cellSome c2
      have y1 := hK.cellSome c3
      have hu := HR.out (k + 1) (by omega)
      have hv := HR.out i (by omega)
      have s1 : (k : Int) + 1 < n := by omega
      have s2 : (i : Int) < n := by omega
      have s3 : (0 : Int) ≤ (k : Int) + 1 := by omega
      have s4 : (0 : Int) ≤ i := by omega
      have hd : decide ((k : Int) + 1 < (j : Int)) = true := decide_eq_true (by omega)
      have hw : IntKind.i64.wrap ((k : Int) + 1) = (k : Int) + 1 := IntWalk.i64_in _ (by omega)
      have hs : ((k : Int) + 1).toNat = k + 1 := by omega
      obtain ⟨d, HD⟩ : ∃ d, Hid (d = dist (A (k + 1)) (B (k + 1)) (A i) (B i)) := ⟨_, rfl⟩
      have APP := Lib.hid (fun (W : World) (a b c e : Int) (q1 : a = A (k + 1)) (q2 : b = B (k + 1)) (q3 : c = A i) (q4 : e = B i) => (show Calls Try.prog 24 #[.agg #[.int .i64 a, .int .i64 b], .agg #[.int .i64 c, .int .i64 e]] W fun e w' => e = .returned (.int .i64 d) ∧ Kept W w' by subst q1; subst q2; subst q3; subst q4; rw [HD.out]; exact apart_any W _ _ _ _ hu.1 hu.2 hv.1 hv.2))
      have hGo : Hid (d ≤ lim → ∀ p, i < p → p ≤ k + 1 → dist (A p) (B p) (A i) (B i) ≤ lim) := fun h p h1 h2 => by
        by_cases e : p = k + 1
        · subst e; rw [← HD.out]; exact h
        · exact hF.out p h1 (by omega)
      have hMost : Hid (¬ d ≤ lim → (SkipsAt A B lim i j ↔ RestAt A B lim k j)) := fun h => skips_most hik hkj hF.out (fun _ => by rw [← HD.out]; exact h)
      clear c0 c1 c2 c3 HD hu hv hF
      by_cases hle : d ≤ lim
      · have hq : decide (d ≤ lim) = true := decide_eq_true hle
        have hgo := Lib.hid (hGo.out hle)
        clear hle hGo hMost
        go_wp2_with fail
        refine wp_region_held_drew (S := (fun w' => w'.cell? ⟨b1, o1 + (k + 1) * 2, none⟩ = some (.int .i64 (A (k + 1))) ∧ w'.cell? ⟨b1, o1 + (k + 1) * 2 + 1, none⟩ = some (.int .i64 (B (k + 1))) ∧ w'.cell? ⟨b1, o1 + i * 2, none⟩ = some (.int .i64 (A i)) ∧ w'.cell? ⟨b1, o1 + i * 2 + 1, none⟩ = some (.int .i64 (B i)) ∧ Kept wr w')) (by kernel_rfl) ?_ (fun hHeld => ?_)
        · (try dsimp only)
          exact keep4 x0 x1 y0 y1 (by repeat (first | assumption | exact Kept.refl _ | apply Kept.drew | apply Kept.drewN | apply Kept.alloc | refine Kept.trans ?_ (by assumption)))
        refine wpAnyH_take (i := 0) (oi := { dst := some 13, op := Op.move (Operand.tmp 9), type := 3, pos := "short.go:35", after := #[], guard := none }) (v := ?v1) rfl (by kernel_rfl) (by kernel_rfl) (by kernel_rfl) (fun _ _ _ h => h) (Or.inl ⟨by rfl, ?hy1⟩) (by assumption) ?rs1
        case hy1 =>
          intro w hSw
          (try dsimp only at hSw)
          go_simp
          (try rw [hd])
          try with_reducible rfl
        (try simp only [Act.put, List.setIfInBounds_toArray, List.set_cons_zero, List.set_cons_succ])
        refine wpAnyH_take (i := 1) (oi := { dst := some 14, op := Op.binOp BinOp.add 3 (Operand.tmp 13) (Operand.const (Value.int IntKind.i64 1)) 3, type := 3, pos := "short.go:35", after := #[{ on := 0, ground := Ground.data }], guard := none }) (v := ?v2) rfl (by kernel_rfl) (by kernel_rfl) (by kernel_rfl) (fun _ _ _ h => h) (Or.inl ⟨by rfl, ?hy2⟩) (by assumption) ?rs2
        case hy2 =>
          intro w hSw
          (try dsimp only at hSw)
          go_simp
          (try rw [hd])
          try with_reducible rfl
        (try simp only [Act.put, List.setIfInBounds_toArray, List.set_cons_zero, List.set_cons_succ])
        refine wpAnyH_take (i := 2) (oi := { dst := some 15, op := Op.move (Operand.tmp 2), type := 3, pos := "short.go:35", after := #[], guard := none }) (v := ?v3) rfl (by kernel_rfl) (by kernel_rfl) (by kernel_rfl) (fun _ _ _ h => h) (Or.inl ⟨by rfl, ?hy3⟩) (by assumption) ?rs3
        case hy3 =>
          intro w hSw
          (try dsimp only at hSw)
          go_simp
          (try rw [hd])
          try with_reducible rfl
        (try simp only [Act.put, List.setIfInBounds_toArray, List.set_cons_zero, List.set_cons_succ])
        refine wpAnyH_take (i := 3) (oi := { dst := some 16, op := Op.binOp BinOp.lss 3 (Operand.tmp 14) (Operand.tmp 15) 3, type := 4, pos := "short.go:35", after := #[{ on := 1, ground := Ground.data }, { on := 2, ground := Ground.data }], guard := none }) (v := ?v4) rfl (by kernel_rfl) (by kernel_rfl) (by kernel_rfl) (fun _ _ _ h => h) (Or.inl ⟨by rfl, ?hy4⟩) (by assumption) ?rs4
        case hy4 =>
          intro w hSw
          (try dsimp only at hSw)
          go_simp
          (try rw [hd])
          try with_reducible rfl
        (try simp only [Act.put, List.setIfInBounds_toArray, List.set_cons_zero, List.set_cons_succ])
        refine wpAnyH_take (i := 4) (oi := { dst := some 17, op := Op.move (Operand.tmp 16), type := 4, pos := "short.go:35", after := #[{ on := 3, ground := Ground.data }], guard := none }) (v := ?v5) rfl (by kernel_rfl) (by kernel_rfl) (by kernel_rfl) (fun _ _ _ h => h) (Or.inl ⟨by rfl, ?hy5⟩) (by assumption) ?rs5
        case hy5 =>
          intro w hSw
          (try dsimp only at hSw)
          go_simp
          (try rw [hd])
          try with_reducible rfl
        (try simp only [Act.put, List.setIfInBounds_toArray, List.set_cons_zero, List.set_cons_succ])
        refine wpAnyH_take (i := 5) (oi := { dst := some 18, op := Op.move (Operand.tmp 0), type := 23, pos := "short.go:35", after := #[{ on := 4, ground := Ground.guard }], guard := some (4, true) }) (v := ?v6) rfl (by kernel_rfl) (by kernel_rfl) (by kernel_rfl) (fun _ _ _ h => h) (Or.inl ⟨by rfl, ?hy6⟩) (by assumption) ?rs6
        case hy6 =>
          intro w hSw
          (try dsimp only at hSw)
          go_simp
          (try rw [hd])
          try with_reducible rfl
        (try simp only [Act.put, List.setIfInBounds_toArray, List.set_cons_zero, List.set_cons_succ])
        refine wpAnyH_take (i := 6) (oi := { dst := some 19, op := Op.move (Operand.tmp 9), type := 3, pos := "short.go:35", after := #[{ on := 4, ground := Ground.guard }], guard := some (4, true) }) (v := ?v7) rfl (by kernel_rfl) (by kernel_rfl) (by kernel_rfl) (fun _ _ _ h => h) (Or.inl ⟨by rfl, ?hy7⟩) (by assumption) ?rs7
        case hy7 =>
          intro w hSw
          (try dsimp only at hSw)
          go_simp
          (try rw [hd])
          try with_reducible rfl
        (try simp only [Act.put, List.setIfInBounds_toArray, List.set_cons_zero, List.set_cons_succ])
        refine wpAnyH_take (i := 7) (oi := { dst := some 20, op := Op.binOp BinOp.add 3 (Operand.tmp 19) (Operand.const (Value.int IntKind.i64 1)) 3, type := 3, pos := "short.go:35", after := #[{ on := 6, ground := Ground.data }, { on := 4, ground := Ground.guard }], guard := some (4, true) }) (v := ?v8) rfl (by kernel_rfl) (by kernel_rfl) (by kernel_rfl) (fun _ _ _ h => h) (Or.inl ⟨by rfl, ?hy8⟩) (by assumption) ?rs8
        case hy8 =>
          intro w hSw
          (try dsimp only at hSw)
          go_simp
          (try rw [hd])
          try with_reducible rfl
        (try simp only [Act.put, List.setIfInBounds_toArray, List.set_cons_zero, List.set_cons_succ])
        refine wpAnyH_take (i := 8) (oi := { dst := some 21, op := Op.indexAddr 23 (Operand.tmp 18) (Operand.tmp 20), type := 0, pos := "short.go:35", after := #[{ on := 5, ground := Ground.data }, { on := 7, ground := Ground.data }, { on := 4, ground := Ground.guard }], guard := some (4, true) }) (v := ?v9) rfl (by kernel_rfl) (by kernel_rfl) (by kernel_rfl) (fun _ _ _ h => h) (Or.inl ⟨by rfl, ?hy9⟩) (by assumption) ?rs9
        case hy9 =>
          intro w hSw
          (try dsimp only at hSw)
          go_simp
          (try rw [hd])
          try with_reducible rfl
        (try simp only [Act.put, List.setIfInBounds_toArray, List.set_cons_zero, List.set_cons_succ])
        refine wpAnyH_take (i := 9) (oi := { dst := some 22, op := Op.load 38 (Operand.tmp 21), type := 38, pos := "short.go:35", after := #[{ on := 8, ground := Ground.data }, { on := 4, ground := Ground.guard }], guard := some (4, true) }) (v := ?v10) rfl (by kernel_rfl) (by kernel_rfl) (by kernel_rfl) (fun _ _ _ h => h) (Or.inl ⟨by rfl, ?hy10⟩) (by assumption) ?rs10
        case hy10 =>
          intro w hSw
          (try dsimp only at hSw)
          go_simp
          (try rw [hd])
          try with_reducible rfl
        (try simp only [Act.put, List.setIfInBounds_toArray, List.set_cons_zero, List.set_cons_succ])
        refine wpAnyH_take (i := 10) (oi := { dst := some 23, op := Op.move (Operand.tmp 0), type := 23, pos := "short.go:35", after := #[{ on := 4, ground := Ground.guard }], guard := some (4, true) }) (v := ?v11) rfl (by kernel_rfl) (by kernel_rfl) (by kernel_rfl) (fun _ _ _ h => h) (Or.inl ⟨by rfl, ?hy11⟩) (by assumption) ?rs11
        case hy11 =>
          intro w hSw
          (try dsimp only at hSw)
          go_simp
          (try rw [hd])
          try with_reducible rfl
        (try simp only [Act.put, List.setIfInBounds_toArray, List.set_cons_zero, List.set_cons_succ])
        refine wpAnyH_take (i := 11) (oi := { dst := some 24, op := Op.move (Operand.tmp 1), type := 3, pos := "short.go:35", after := #[{ on := 4, ground := Ground.guard }], guard := some (4, true) }) (v := ?v12) rfl (by kernel_rfl) (by kernel_rfl) (by kernel_rfl) (fun _ _ _ h => h) (Or.inl ⟨by rfl, ?hy12⟩) (by assumption) ?rs12
        case hy12 =>
          intro w hSw
          (try dsimp only at hSw)
          go_simp
          (try rw [hd])
          try with_reducible rfl
        (try simp only [Act.put, List.setIfInBounds_toArray, List.set_cons_zero, List.set_cons_succ])
        refine wpAnyH_take (i := 12) (oi := { dst := some 25, op := Op.indexAddr 23 (Operand.tmp 23) (Operand.tmp 24), type := 0, pos := "short.go:35", after := #[{ on := 10, ground := Ground.data }, { on := 11, ground := Ground.data }, { on := 4, ground := Ground.guard }], guard := some (4, true) }) (v := ?v13) rfl (by kernel_rfl) (by kernel_rfl) (by kernel_rfl) (fun _ _ _ h => h) (Or.inl ⟨by rfl, ?hy13⟩) (by assumption) ?rs13
        case hy13 =>
          intro w hSw
          (try dsimp only at hSw)
          go_simp
          (try rw [hd])
          try with_reducible rfl
        (try simp only [Act.put, List.setIfInBounds_toArray, List.set_cons_zero, List.set_cons_succ])
        refine wpAnyH_take (i := 13) (oi := { dst := some 26, op := Op.load 38 (Operand.tmp 25), type := 38, pos := "short.go:35", after := #[{ on := 12, ground := Ground.data }, { on := 4, ground := Ground.guard }], guard := some (4, true) }) (v := ?v14) rfl (by kernel_rfl) (by kernel_rfl) (by kernel_rfl) (fun _ _ _ h => h) (Or.inl ⟨by rfl, ?hy14⟩) (by assumption) ?rs14
        case hy14 =>
          intro w hSw
          (try dsimp only at hSw)
          go_simp
          (try rw [hd])
          try with_reducible rfl
        (try simp only [Act.put, List.setIfInBounds_toArray, List.set_cons_zero, List.set_cons_succ])
        refine wpAnyH_take (i := 15) (oi := { dst := some 28, op := Op.move (Operand.tmp 3), type := 3, pos := "short.go:35", after := #[{ on := 4, ground := Ground.guard }], guard := some (4, true) }) (v := ?v15) rfl (by kernel_rfl) (by kernel_rfl) (by kernel_rfl) (fun _ _ _ h => h) (Or.inl ⟨by rfl, ?hy15⟩) (by assumption) ?rs15
        case hy15 =>
          intro w hSw
          (try dsimp only at hSw)
          go_simp
          (try rw [hd])
          try with_reducible rfl
        (try simp only [Act.put, List.setIfInBounds_toArray, List.set_cons_zero, List.set_cons_succ])
        refine wpAnyH_ready (rs := [14]) (by kernel_rfl) (by simp) ?_
        refine AllReadyH.cons (o := { dst := some 27, op := Op.call { callee := Callee.value (Operand.func 24), args := #[Operand.tmp 22, Operand.tmp 26], argTypes := #[38, 38] }, type := 3, pos := "short.go:35", after := #[{ on := 9, ground := Ground.data }, { on := 13, ground := Ground.data }, { on := 4, ground := Ground.chain }, { on := 4, ground := Ground.guard }], guard := some (4, true) }) rfl (fun K2 hK2 => ?_) AllReadyH.nil
        go_simp
        (go_at_call 24; refine (APP.out _ _ _ _ _ (by rfl) (by rfl) (by rfl) (by rfl)).mono ?_; rintro e w5 ⟨rfl, hk5⟩)
        go_wp2_with fail
        refine hK2.out _ _ ?_ (fun hHeld => ?_)
        · (try dsimp only)
          exact keep4 x0 x1 y0 y1 (by repeat (first | assumption | exact Kept.refl _ | apply Kept.drew | apply Kept.drewN | apply Kept.alloc | refine Kept.trans ?_ (by assumption)))
        clear hK2 K2
        (try simp only [Act.put, List.setIfInBounds_toArray, List.set_cons_zero, List.set_cons_succ])
        refine wpAnyH_take (i := 16) (oi := { dst := some 29, op := Op.binOp BinOp.leq 3 (Operand.tmp 27) (Operand.tmp 28) 3, type := 4, pos := "short.go:35", after := #[{ on := 14, ground := Ground.data }, { on := 15, ground := Ground.data }, { on := 4, ground := Ground.guard }], guard := some (4, true) }) (v := ?v16) rfl (by kernel_rfl) (by kernel_rfl) (by kernel_rfl) (fun _ _ _ h => h) (Or.inl ⟨by rfl, ?hy16⟩) (by assumption) ?rs16
        case hy16 =>
          intro w hSw
          (try dsimp only at hSw)
          go_simp
          (try rw [hd])
          try with_reducible rfl
        (try simp only [Act.put, List.setIfInBounds_toArray, List.set_cons_zero, List.set_cons_succ])
        refine wpAnyH_take (i := 17) (oi := { dst := some 30, op := Op.pick (Operand.tmp 17) (Operand.tmp 29) (Operand.const (Value.bool false)), type := 4, pos := "short.go:35", after := #[{ on := 4, ground := Ground.data }, { on := 16, ground := Ground.data }], guard := none }) (v := ?v17) rfl (by kernel_rfl) (by kernel_rfl) (by kernel_rfl) (fun _ _ _ h => h) (Or.inl ⟨by rfl, ?hy17⟩) (by assumption) ?rs17
        case hy17 =>
          intro w hSw
          (try dsimp only at hSw)
          go_simp
          (try rw [hd])
          try with_reducible rfl
        (try simp only [Act.put, List.setIfInBounds_toArray, List.set_cons_zero, List.set_cons_succ])
        refine wpAnyH_done (by kernel_rfl) ?_ _
        have hKW : Kept wr w5 := (by repeat (first | assumption | exact Kept.refl _ | apply Kept.drew | apply Kept.drewN | apply Kept.alloc | refine Kept.trans ?_ (by assumption)))
        have hKw := hK.trans hKW
        clear x0 x1 y0 y1 hHeld hK hKW
        go_wp2_with fail
        go_roundg (j - (k + 1))
        case measure => omega
        case rel => exact ⟨k + 1, by omega, by omega, rfl, by go_num, hKw, hgo⟩
      · have hq : decide (d ≤ lim) = false := decide_eq_false hle
        have hmost := Lib.hid (hMost.out hle)
        clear hle hGo hMost
        go_wp2_with fail
        refine wp_region_held_drew (S := (fun w' => w'.cell? ⟨b1, o1 + (k + 1) * 2, none⟩ = some (.int .i64 (A (k + 1))) ∧ w'.cell? ⟨b1, o1 + (k + 1) * 2 + 1, none⟩ = some (.int .i64 (B (k + 1))) ∧ w'.cell? ⟨b1, o1 + i * 2, none⟩ = some (.int .i64 (A i)) ∧ w'.cell? ⟨b1, o1 + i * 2 + 1, none⟩ = some (.int .i64 (B i)) ∧ Kept wr w')) (by kernel_rfl) ?_ (fun hHeld => ?_)
        · (try dsimp only)
          exact keep4 x0 x1 y0 y1 (by repeat (first | assumption | exact Kept.refl _ | apply Kept.drew | apply Kept.drewN | apply Kept.alloc | refine Kept.trans ?_ (by assumption)))
        refine wpAnyH_take (i := 0) (oi := { dst := some 13, op := Op.move (Operand.tmp 9), type := 3, pos := "short.go:35", after := #[], guard := none }) (v := ?v18) rfl (by kernel_rfl) (by kernel_rfl) (by kernel_rfl) (fun _ _ _ h => h) (Or.inl ⟨by rfl, ?hy18⟩) (by assumption) ?rs18
        case hy18 =>
          intro w hSw
          (try dsimp only at hSw)
          go_simp
          (try rw [hd])
          try with_reducible rfl
        (try simp only [Act.put, List.setIfInBounds_toArray, List.set_cons_zero, List.set_cons_succ])
        refine wpAnyH_take (i := 1) (oi := { dst := some 14, op := Op.binOp BinOp.add 3 (Operand.tmp 13) (Operand.const (Value.int IntKind.i64 1)) 3, type := 3, pos := "short.go:35", after := #[{ on := 0, ground := Ground.data }], guard := none }) (v := ?v19) rfl (by kernel_rfl) (by kernel_rfl) (by kernel_rfl) (fun _ _ _ h => h) (Or.inl ⟨by rfl, ?hy19⟩) (by assumption) ?rs19
        case hy19 =>
          intro w hSw
          (try dsimp only at hSw)
          go_simp
          (try rw [hd])
          try with_reducible rfl
        (try simp only [Act.put, List.setIfInBounds_toArray, List.set_cons_zero, List.set_cons_succ])
        refine wpAnyH_take (i := 2) (oi := { dst := some 15, op := Op.move (Operand.tmp 2), type := 3, pos := "short.go:35", after := #[], guard := none }) (v := ?v20) rfl (by kernel_rfl) (by kernel_rfl) (by kernel_rfl) (fun _ _ _ h => h) (Or.inl ⟨by rfl, ?hy20⟩) (by assumption) ?rs20
        case hy20 =>
          intro w hSw
          (try dsimp only at hSw)
          go_simp
          (try rw [hd])
          try with_reducible rfl
        (try simp only [Act.put, List.setIfInBounds_toArray, List.set_cons_zero, List.set_cons_succ])
        refine wpAnyH_take (i := 3) (oi := { dst := some 16, op := Op.binOp BinOp.lss 3 (Operand.tmp 14) (Operand.tmp 15) 3, type := 4, pos := "short.go:35", after := #[{ on := 1, ground := Ground.data }, { on := 2, ground := Ground.data }], guard := none }) (v := ?v21) rfl (by kernel_rfl) (by kernel_rfl) (by kernel_rfl) (fun _ _ _ h => h) (Or.inl ⟨by rfl, ?hy21⟩) (by assumption) ?rs21
        case hy21 =>
          intro w hSw
          (try dsimp only at hSw)
          go_simp
          (try rw [hd])
          try with_reducible rfl
        (try simp only [Act.put, List.setIfInBounds_toArray, List.set_cons_zero, List.set_cons_succ])
        refine wpAnyH_take (i := 4) (oi := { dst := some 17, op := Op.move (Operand.tmp 16), type := 4, pos := "short.go:35", after := #[{ on := 3, ground := Ground.data }], guard := none }) (v := ?v22) rfl (by kernel_rfl) (by kernel_rfl) (by kernel_rfl) (fun _ _ _ h => h) (Or.inl ⟨by rfl, ?hy22⟩) (by assumption) ?rs22
        case hy22 =>
          intro w hSw
          (try dsimp only at hSw)
          go_simp
          (try rw [hd])
          try with_reducible rfl
        (try simp only [Act.put, List.setIfInBounds_toArray, List.set_cons_zero, List.set_cons_succ])
        refine wpAnyH_take (i := 5) (oi := { dst := some 18, op := Op.move (Operand.tmp 0), type := 23, pos := "short.go:35", after := #[{ on := 4, ground := Ground.guard }], guard := some (4, true) }) (v := ?v23) rfl (by kernel_rfl) (by kernel_rfl) (by kernel_rfl) (fun _ _ _ h => h) (Or.inl ⟨by rfl, ?hy23⟩) (by assumption) ?rs23
        case hy23 =>
          intro w hSw
          (try dsimp only at hSw)
          go_simp
          (try rw [hd])
          try with_reducible rfl
        (try simp only [Act.put, List.setIfInBounds_toArray, List.set_cons_zero, List.set_cons_succ])
        refine wpAnyH_take (i := 6) (oi := { dst := some 19, op := Op.move (Operand.tmp 9), type := 3, pos := "short.go:35", after := #[{ on := 4, ground := Ground.guard }], guard := some (4, true) }) (v := ?v24) rfl (by kernel_rfl) (by kernel_rfl) (by kernel_rfl) (fun _ _ _ h => h) (Or.inl ⟨by rfl, ?hy24⟩) (by assumption) ?rs24
        case hy24 =>
          intro w hSw
          (try dsimp only at hSw)
          go_simp
          (try rw [hd])
          try with_reducible rfl
        (try simp only [Act.put, List.setIfInBounds_toArray, List.set_cons_zero, List.set_cons_succ])
        refine wpAnyH_take (i := 7) (oi := { dst := some 20, op := Op.binOp BinOp.add 3 (Operand.tmp 19) (Operand.const (Value.int IntKind.i64 1)) 3, type := 3, pos := "short.go:35", after := #[{ on := 6, ground := Ground.data }, { on := 4, ground := Ground.guard }], guard := some (4, true) }) (v := ?v25) rfl (by kernel_rfl) (by kernel_rfl) (by kernel_rfl) (fun _ _ _ h => h) (Or.inl ⟨by rfl, ?hy25⟩) (by assumption) ?rs25
        case hy25 =>
          intro w hSw
          (try dsimp only at hSw)
          go_simp
          (try rw [hd])
          try with_reducible rfl
        (try simp only [Act.put, List.setIfInBounds_toArray, List.set_cons_zero, List.set_cons_succ])
        refine wpAnyH_take (i := 8) (oi := { dst := some 21, op := Op.indexAddr 23 (Operand.tmp 18) (Operand.tmp 20), type := 0, pos := "short.go:35", after := #[{ on := 5, ground := Ground.data }, { on := 7, ground := Ground.data }, { on := 4, ground := Ground.guard }], guard := some (4, true) }) (v := ?v26) rfl (by kernel_rfl) (by kernel_rfl) (by kernel_rfl) (fun _ _ _ h => h) (Or.inl ⟨by rfl, ?hy26⟩) (by assumption) ?rs26
        case hy26 =>
          intro w hSw
          (try dsimp only at hSw)
          go_simp
          (try rw [hd])
          try with_reducible rfl
        (try simp only [Act.put, List.setIfInBounds_toArray, List.set_cons_zero, List.set_cons_succ])
        refine wpAnyH_take (i := 9) (oi := { dst := some 22, op := Op.load 38 (Operand.tmp 21), type := 38, pos := "short.go:35", after := #[{ on := 8, ground := Ground.data }, { on := 4, ground := Ground.guard }], guard := some (4, true) }) (v := ?v27) rfl (by kernel_rfl) (by kernel_rfl) (by kernel_rfl) (fun _ _ _ h => h) (Or.inl ⟨by rfl, ?hy27⟩) (by assumption) ?rs27
        case hy27 =>
          intro w hSw
          (try dsimp only at hSw)
          go_simp
          (try rw [hd])
          try with_reducible rfl
        (try simp only [Act.put, List.setIfInBounds_toArray, List.set_cons_zero, List.set_cons_succ])
        refine wpAnyH_take (i := 10) (oi := { dst := some 23, op := Op.move (Operand.tmp 0), type := 23, pos := "short.go:35", after := #[{ on := 4, ground := Ground.guard }], guard := some (4, true) }) (v := ?v28) rfl (by kernel_rfl) (by kernel_rfl) (by kernel_rfl) (fun _ _ _ h => h) (Or.inl ⟨by rfl, ?hy28⟩) (by assumption) ?rs28
        case hy28 =>
          intro w hSw
          (try dsimp only at hSw)
          go_simp
          (try rw [hd])
          try with_reducible rfl
        (try simp only [Act.put, List.setIfInBounds_toArray, List.set_cons_zero, List.set_cons_succ])
        refine wpAnyH_take (i := 11) (oi := { dst := some 24, op := Op.move (Operand.tmp 1), type := 3, pos := "short.go:35", after := #[{ on := 4, ground := Ground.guard }], guard := some (4, true) }) (v := ?v29) rfl (by kernel_rfl) (by kernel_rfl) (by kernel_rfl) (fun _ _ _ h => h) (Or.inl ⟨by rfl, ?hy29⟩) (by assumption) ?rs29
        case hy29 =>
          intro w hSw
          (try dsimp only at hSw)
          go_simp
          (try rw [hd])
          try with_reducible rfl
        (try simp only [Act.put, List.setIfInBounds_toArray, List.set_cons_zero, List.set_cons_succ])
        refine wpAnyH_take (i := 12) (oi := { dst := some 25, op := Op.indexAddr 23 (Operand.tmp 23) (Operand.tmp 24), type := 0, pos := "short.go:35", after := #[{ on := 10, ground := Ground.data }, { on := 11, ground := Ground.data }, { on := 4, ground := Ground.guard }], guard := some (4, true) }) (v := ?v30) rfl (by kernel_rfl) (by kernel_rfl) (by kernel_rfl) (fun _ _ _ h => h) (Or.inl ⟨by rfl, ?hy30⟩) (by assumption) ?rs30
        case hy30 =>
          intro w hSw
          (try dsimp only at hSw)
          go_simp
          (try rw [hd])
          try with_reducible rfl
        (try simp only [Act.put, List.setIfInBounds_toArray, List.set_cons_zero, List.set_cons_succ])
        refine wpAnyH_take (i := 13) (oi := { dst := some 26, op := Op.load 38 (Operand.tmp 25), type := 38, pos := "short.go:35", after := #[{ on := 12, ground := Ground.data }, { on := 4, ground := Ground.guard }], guard := some (4, true) }) (v := ?v31) rfl (by kernel_rfl) (by kernel_rfl) (by kernel_rfl) (fun _ _ _ h => h) (Or.inl ⟨by rfl, ?hy31⟩) (by assumption) ?rs31
        case hy31 =>
          intro w hSw
          (try dsimp only at hSw)
          go_simp
          (try rw [hd])
          try with_reducible rfl
        (try simp only [Act.put, List.setIfInBounds_toArray, List.set_cons_zero, List.set_cons_succ])
        refine wpAnyH_take (i := 15) (oi := { dst := some 28, op := Op.move (Operand.tmp 3), type := 3, pos := "short.go:35", after := #[{ on := 4, ground := Ground.guard }], guard := some (4, true) }) (v := ?v32) rfl (by kernel_rfl) (by kernel_rfl) (by kernel_rfl) (fun _ _ _ h => h) (Or.inl ⟨by rfl, ?hy32⟩) (by assumption) ?rs32
        case hy32 =>
          intro w hSw
          (try dsimp only at hSw)
          go_simp
          (try rw [hd])
          try with_reducible rfl
        (try simp only [Act.put, List.setIfInBounds_toArray, List.set_cons_zero, List.set_cons_succ])
        refine wpAnyH_ready (rs := [14]) (by kernel_rfl) (by simp) ?_
        refine AllReadyH.cons (o := { dst := some 27, op := Op.call { callee := Callee.value (Operand.func 24), args := #[Operand.tmp 22, Operand.tmp 26], argTypes := #[38, 38] }, type := 3, pos := "short.go:35", after := #[{ on := 9, ground := Ground.data }, { on := 13, ground := Ground.data }, { on := 4, ground := Ground.chain }, { on := 4, ground := Ground.guard }], guard := some (4, true) }) rfl (fun K2 hK2 => ?_) AllReadyH.nil
        go_simp
        (go_at_call 24; refine (APP.out _ _ _ _ _ (by rfl) (by rfl) (by rfl) (by rfl)).mono ?_; rintro e w5 ⟨rfl, hk5⟩)
        go_wp2_with fail
        refine hK2.out _ _ ?_ (fun hHeld => ?_)
        · (try dsimp only)
          exact keep4 x0 x1 y0 y1 (by repeat (first | assumption | exact Kept.refl _ | apply Kept.drew | apply Kept.drewN | apply Kept.alloc | refine Kept.trans ?_ (by assumption)))
        clear hK2 K2
        (try simp only [Act.put, List.setIfInBounds_toArray, List.set_cons_zero, List.set_cons_succ])
        refine wpAnyH_take (i := 16) (oi := { dst := some 29, op := Op.binOp BinOp.leq 3 (Operand.tmp 27) (Operand.tmp 28) 3, type := 4, pos := "short.go:35", after := #[{ on := 14, ground := Ground.data }, { on := 15, ground := Ground.data }, { on := 4, ground := Ground.guard }], guard := some (4, true) }) (v := ?v33) rfl (by kernel_rfl) (by kernel_rfl) (by kernel_rfl) (fun _ _ _ h => h) (Or.inl ⟨by rfl, ?hy33⟩) (by assumption) ?rs33
        case hy33 =>
          intro w hSw
          (try dsimp only at hSw)
          go_simp
          (try rw [hd])
          try with_reducible rfl
        (try simp only [Act.put, List.setIfInBounds_toArray, List.set_cons_zero, List.set_cons_succ])
        refine wpAnyH_take (i := 17) (oi := { dst := some 30, op := Op.pick (Operand.tmp 17) (Operand.tmp 29) (Operand.const (Value.bool false)), type := 4, pos := "short.go:35", after := #[{ on := 4, ground := Ground.data }, { on := 16, ground := Ground.data }], guard := none }) (v := ?v34) rfl (by kernel_rfl) (by kernel_rfl) (by kernel_rfl) (fun _ _ _ h => h) (Or.inl ⟨by rfl, ?hy34⟩) (by assumption) ?rs34
        case hy34 =>
          intro w hSw
          (try dsimp only at hSw)
          go_simp
          (try rw [hd])
          try with_reducible rfl
        (try simp only [Act.put, List.setIfInBounds_toArray, List.set_cons_zero, List.set_cons_succ])
        refine wpAnyH_done (by kernel_rfl) ?_ _
        have hKW : Kept wr w5 := (by repeat (first | assumption | exact Kept.refl _ | apply Kept.drew | apply Kept.drewN | apply Kept.alloc | refine Kept.trans ?_ (by assumption)))
        have hKw := hK.trans hKW
        clear x0 x1 y0 y1 hHeld hK hKW
        have hst2 : Hid (∀ p, k < p → p < k + 1 + 0 → dist (A p) (B p) (A j) (B j) ≤ lim) := fun p h1 h2 => by omega
        obtain ⟨L, hL⟩ : ∃ L, L = j - (k + 1) := ⟨_, rfl⟩
        have s6 : (0 : Int) ≤ (k : Int) + 1 := by omega
        have s7 : (k : Int) + 1 ≤ (j : Int) := by omega
        have s8 : (j : Int) ≤ (cap1 : Int) := by omega
        have eL : j - (k + 1) = L := hL.symm
        have HL := Lib.hid hL
        clear hL
        go_wp2_with fail
        clear eL
        go_loopg [39] L (fun g s39 wr => ∃ t : Nat, t ≤ L ∧ g = L - t ∧ s39 = .int .i64 t ∧ Kept w wr ∧ Hid (∀ p, k < p → p < k + 1 + t → dist (A p) (B p) (A j) (B j) ≤ lim))
        case atStart => exact ⟨0, Nat.zero_le _, rfl, rfl, hKw, hst2⟩
        case round =>
          clear hst2 hKw
          obtain ⟨t, htl, rfl, rfl, hK2, hF2⟩ := hrel
          have hL := HL.out
          by_cases hlt2 : t < L
          · obtain ⟨c0, c1⟩ := pairs_drop HC1.out (a := k + 1) t (by omega)
            obtain ⟨c2, c3⟩ := HC1.out j hjn
            have hu := HR.out (k + 1 + t) (by omega)
            have hv := HR.out j hjn
            have x0 := hK2.cellSome c0
            have x1 := hK2.cellSome c1
            have y0 := hK2.cellSome c2
            have y1 := hK2.cellSome c3
            have hNow : Hid (dist (A (k + 1 + t)) (B (k + 1 + t)) (A j) (B j) ≤ lim → ∀ p, k < p → p < k + 1 + (t + 1) → dist (A p) (B p) (A j) (B j) ≤ lim) := fun h p h1 h2 => by
              by_cases e : p = k + 1 + t
              · rw [e]; exact h
              · exact hF2.out p h1 (by omega)
            have hNot : Hid (¬ dist (A (k + 1 + t)) (B (k + 1 + t)) (A j) (B j) ≤ lim → ¬ SkipsAt A B lim i j) := fun h h2 => h (hmost.out.1 h2 (k + 1 + t) (by omega) (by omega))
            obtain ⟨d2, HD2⟩ : ∃ d, Hid (d = dist (A (k + 1 + t)) (B (k + 1 + t)) (A j) (B j)) := ⟨_, rfl⟩
            have APQ := Lib.hid (fun (W : World) => apart_any W _ _ _ _ hu.1 hu.2 hv.1 hv.2)
            rw [← HD2.out] at hNow hNot APQ
            generalize A (k + 1 + t) = px at *
            generalize B (k + 1 + t) = py at *
            have hb := box2 wr (.int .i64 px) (.int .i64 py) 38
            have hkB := (Kept.refl wr).alloc (.cells #[.int .i64 px, .int .i64 py] 38)
            have r2 := hkB.cellSome y0
            have r3 := hkB.cellSome y1
            obtain ⟨z0, z1⟩ := hb
            have s1 : (j : Int) < n := by omega
            have s2 : (0 : Int) ≤ (j : Int) := by omega
            have s3 : (t : Int) < (L : Int) := by omega
            have s5 : L ≤ 1000 := by omega
            clear c0 c1 c2 c3 HD2 hF2 hu hv y0 y1 hL
            go_wp2_with fail
            obtain ⟨g, HG⟩ : ∃ g, Hid (g = wr.heap.size) := ⟨_, rfl⟩
            rw [← HG.out] at z0 z1 ⊢
            generalize wr.alloc (.cells #[.int .i64 px, .int .i64 py] 38) = W at *
            by_cases hle2 : d2 ≤ lim
            · have s4 : ¬ lim < d2 := by omega
              have hnow := Lib.hid (hNow.out hle2)
              clear hNow hNot
              go_region_held3 (fun w' => w'.cell? ⟨g, 0, none⟩ = some (.int .i64 px) ∧ w'.cell? ⟨g, 1, none⟩ = some (.int .i64 py) ∧ w'.cell? ⟨b1, o1 + j * 2, none⟩ = some (.int .i64 (A j)) ∧ w'.cell? ⟨b1, o1 + j * 2 + 1, none⟩ = some (.int .i64 (B j)) ∧ Kept W w')
                (first | exact keep4 z0 z1 r2 r3 (by repeat (first | assumption | exact Kept.refl _ | apply Kept.drew | apply Kept.drewN | apply Kept.alloc | refine Kept.trans ?_ (by assumption))))
                (first | (go_at_call 24; refine (APQ.out _).mono ?_; rintro e w6 ⟨rfl, hk6⟩))
              have hKW2 : Kept W w6 := (by repeat (first | assumption | exact Kept.refl _ | apply Kept.drew | apply Kept.drewN | apply Kept.alloc | refine Kept.trans ?_ (by assumption)))
              have hKw2 := (hK2.trans hkB).trans hKW2
              go_wp2_with fail
              go_roundg (L - (t + 1))
              case measure => omega
              case rel => exact ⟨t + 1, by omega, rfl, by go_num, hKw2, hnow⟩
            · have s4 : lim < d2 := Int.not_le.1 hle2
              have hnot := Lib.hid (hNot.out s4)
              clear hNow hNot
              go_region_held3 (fun w' => w'.cell? ⟨g, 0, none⟩ = some (.int .i64 px) ∧ w'.cell? ⟨g, 1, none⟩ = some (.int .i64 py) ∧ w'.cell? ⟨b1, o1 + j * 2, none⟩ = some (.int .i64 (A j)) ∧ w'.cell? ⟨b1, o1 + j * 2 + 1, none⟩ = some (.int .i64 (B j)) ∧ Kept W w')
                (first | exact keep4 z0 z1 r2 r3 (by repeat (first | assumption | exact Kept.refl _ | apply Kept.drew | apply Kept.drewN | apply Kept.alloc | refine Kept.trans ?_ (by assumption))))
                (first | (go_at_call 24; refine (APQ.out _).mono ?_; rintro e w6 ⟨rfl, hk6⟩))
              have hKW2 : Kept W w6 := (by repeat (first | assumption | exact Kept.refl _ | apply Kept.drew | apply Kept.drewN | apply Kept.alloc | refine Kept.trans ?_ (by assumption)))
              have hKw2 := (hK2.trans hkB).trans hKW2
              go_wp2_with fail
              go_ret
              exact ⟨false, rfl, by simp; exact hnot.out, hKw2⟩
          · obtain rfl : t = L := by omega
            have hyes : Hid (SkipsAt A B lim i j) := hmost.out.2 (fun p h1 h2 => hF2.out p h1 (by omega))
            clear hL
            go_wp2_with fail
            go_ret
            exact ⟨true, rfl, by simp; exact hyes.out, hK2⟩
    · have hmost : Hid (SkipsAt A B lim i j ↔ RestAt A B lim k j) := skips_most hik hkj hF.out (fun h => by omega)
      have hd : decide ((k : Int) + 1 < (j : Int)) = false := decide_eq_false (by omega)
      have hw : IntKind.i64.wrap ((k : Int) + 1) = (k : Int) + 1 := IntWalk.i64_in _ (by omega)
      go_wp2_with fail
      refine wp_region_held_drew (S := (fun w' => Kept wr w')) (by kernel_rfl) ?_ (fun hHeld => ?_)
      · (try dsimp only)
        exact (by repeat (first | assumption | exact Kept.refl _ | apply Kept.drew | apply Kept.drewN | apply Kept.alloc | refine Kept.trans ?_ (by assumption)))
      refine wpAnyH_take (i := 0) (oi := { dst := some 13, op := Op.move (Operand.tmp 9), type := 3, pos := "short.go:35", after := #[], guard := none }) (v := ?v35) rfl (by kernel_rfl) (by kernel_rfl) (by kernel_rfl) (fun _ _ _ h => h) (Or.inl ⟨by rfl, ?hy35⟩) (by assumption) ?rs35
      case hy35 =>
        intro w hSw
        (try dsimp only at hSw)
        go_simp
        (try rw [hd])
        try with_reducible rfl
      (try simp only [Act.put, List.setIfInBounds_toArray, List.set_cons_zero, List.set_cons_succ])
      refine wpAnyH_take (i := 1) (oi := { dst := some 14, op := Op.binOp BinOp.add 3 (Operand.tmp 13) (Operand.const (Value.int IntKind.i64 1)) 3, type := 3, pos := "short.go:35", after := #[{ on := 0, ground := Ground.data }], guard := none }) (v := ?v36) rfl (by kernel_rfl) (by kernel_rfl) (by kernel_rfl) (fun _ _ _ h => h) (Or.inl ⟨by rfl, ?hy36⟩) (by assumption) ?rs36
      case hy36 =>
        intro w hSw
        (try dsimp only at hSw)
        go_simp
        (try rw [hd])
        try with_reducible rfl
      (try simp only [Act.put, List.setIfInBounds_toArray, List.set_cons_zero, List.set_cons_succ])
      refine wpAnyH_take (i := 2) (oi := { dst := some 15, op := Op.move (Operand.tmp 2), type := 3, pos := "short.go:35", after := #[], guard := none }) (v := ?v37) rfl (by kernel_rfl) (by kernel_rfl) (by kernel_rfl) (fun _ _ _ h => h) (Or.inl ⟨by rfl, ?hy37⟩) (by assumption) ?rs37
      case hy37 =>
        intro w hSw
        (try dsimp only at hSw)
        go_simp
        (try rw [hd])
        try with_reducible rfl
      (try simp only [Act.put, List.setIfInBounds_toArray, List.set_cons_zero, List.set_cons_succ])
      refine wpAnyH_take (i := 3) (oi := { dst := some 16, op := Op.binOp BinOp.lss 3 (Operand.tmp 14) (Operand.tmp 15) 3, type := 4, pos := "short.go:35", after := #[{ on := 1, ground := Ground.data }, { on := 2, ground := Ground.data }], guard := none }) (v := ?v38) rfl (by kernel_rfl) (by kernel_rfl) (by kernel_rfl) (fun _ _ _ h => h) (Or.inl ⟨by rfl, ?hy38⟩) (by assumption) ?rs38
      case hy38 =>
        intro w hSw
        (try dsimp only at hSw)
        go_simp
        (try rw [hd])
        try with_reducible rfl
      (try simp only [Act.put, List.setIfInBounds_toArray, List.set_cons_zero, List.set_cons_succ])
      refine wpAnyH_take (i := 4) (oi := { dst := some 17, op := Op.move (Operand.tmp 16), type := 4, pos := "short.go:35", after := #[{ on := 3, ground := Ground.data }], guard := none }) (v := ?v39) rfl (by kernel_rfl) (by kernel_rfl) (by kernel_rfl) (fun _ _ _ h => h) (Or.inl ⟨by rfl, ?hy39⟩) (by assumption) ?rs39
      case hy39 =>
        intro w hSw
        (try dsimp only at hSw)
        go_simp
        (try rw [hd])
        try with_reducible rfl
      (try simp only [Act.put, List.setIfInBounds_toArray, List.set_cons_zero, List.set_cons_succ])
      refine wpAnyH_take (i := 5) (oi := { dst := some 18, op := Op.move (Operand.tmp 0), type := 23, pos := "short.go:35", after := #[{ on := 4, ground := Ground.guard }], guard := some (4, true) }) (v := undef) rfl (by kernel_rfl) (by kernel_rfl) (by kernel_rfl) (fun _ _ _ h => h) (Or.inr ⟨by rfl, rfl⟩) (by assumption) ?_
      (try simp only [Act.put, List.setIfInBounds_toArray, List.set_cons_zero, List.set_cons_succ])
      refine wpAnyH_take (i := 6) (oi := { dst := some 19, op := Op.move (Operand.tmp 9), type := 3, pos := "short.go:35", after := #[{ on := 4, ground := Ground.guard }], guard := some (4, true) }) (v := undef) rfl (by kernel_rfl) (by kernel_rfl) (by kernel_rfl) (fun _ _ _ h => h) (Or.inr ⟨by rfl, rfl⟩) (by assumption) ?_
      (try simp only [Act.put, List.setIfInBounds_toArray, List.set_cons_zero, List.set_cons_succ])
      refine wpAnyH_take (i := 7) (oi := { dst := some 20, op := Op.binOp BinOp.add 3 (Operand.tmp 19) (Operand.const (Value.int IntKind.i64 1)) 3, type := 3, pos := "short.go:35", after := #[{ on := 6, ground := Ground.data }, { on := 4, ground := Ground.guard }], guard := some (4, true) }) (v := undef) rfl (by kernel_rfl) (by kernel_rfl) (by kernel_rfl) (fun _ _ _ h => h) (Or.inr ⟨by rfl, rfl⟩) (by assumption) ?_
      (try simp only [Act.put, List.setIfInBounds_toArray, List.set_cons_zero, List.set_cons_succ])
      refine wpAnyH_take (i := 8) (oi := { dst := some 21, op := Op.indexAddr 23 (Operand.tmp 18) (Operand.tmp 20), type := 0, pos := "short.go:35", after := #[{ on := 5, ground := Ground.data }, { on := 7, ground := Ground.data }, { on := 4, ground := Ground.guard }], guard := some (4, true) }) (v := undef) rfl (by kernel_rfl) (by kernel_rfl) (by kernel_rfl) (fun _ _ _ h => h) (Or.inr ⟨by rfl, rfl⟩) (by assumption) ?_
      (try simp only [Act.put, List.setIfInBounds_toArray, List.set_cons_zero, List.set_cons_succ])
      refine wpAnyH_take (i := 9) (oi := { dst := some 22, op := Op.load 38 (Operand.tmp 21), type := 38, pos := "short.go:35", after := #[{ on := 8, ground := Ground.data }, { on := 4, ground := Ground.guard }], guard := some (4, true) }) (v := undef) rfl (by kernel_rfl) (by kernel_rfl) (by kernel_rfl) (fun _ _ _ h => h) (Or.inr ⟨by rfl, rfl⟩) (by assumption) ?_
      (try simp only [Act.put, List.setIfInBounds_toArray, List.set_cons_zero, List.set_cons_succ])
      refine wpAnyH_take (i := 10) (oi := { dst := some 23, op := Op.move (Operand.tmp 0), type := 23, pos := "short.go:35", after := #[{ on := 4, ground := Ground.guard }], guard := some (4, true) }) (v := undef) rfl (by kernel_rfl) (by kernel_rfl) (by kernel_rfl) (fun _ _ _ h => h) (Or.inr ⟨by rfl, rfl⟩) (by assumption) ?_
      (try simp only [Act.put, List.setIfInBounds_toArray, List.set_cons_zero, List.set_cons_succ])
      refine wpAnyH_take (i := 11) (oi := { dst := some 24, op := Op.move (Operand.tmp 1), type := 3, pos := "short.go:35", after := #[{ on := 4, ground := Ground.guard }], guard := some (4, true) }) (v := undef) rfl (by kernel_rfl) (by kernel_rfl) (by kernel_rfl) (fun _ _ _ h => h) (Or.inr ⟨by rfl, rfl⟩) (by assumption) ?_
      (try simp only [Act.put, List.setIfInBounds_toArray, List.set_cons_zero, List.set_cons_succ])
      refine wpAnyH_take (i := 12) (oi := { dst := some 25, op := Op.indexAddr 23 (Operand.tmp 23) (Operand.tmp 24), type := 0, pos := "short.go:35", after := #[{ on := 10, ground := Ground.data }, { on := 11, ground := Ground.data }, { on := 4, ground := Ground.guard }], guard := some (4, true) }) (v := undef) rfl (by kernel_rfl) (by kernel_rfl) (by kernel_rfl) (fun _ _ _ h => h) (Or.inr ⟨by rfl, rfl⟩) (by assumption) ?_
      (try simp only [Act.put, List.setIfInBounds_toArray, List.set_cons_zero, List.set_cons_succ])
      refine wpAnyH_take (i := 13) (oi := { dst := some 26, op := Op.load 38 (Operand.tmp 25), type := 38, pos := "short.go:35", after := #[{ on := 12, ground := Ground.data }, { on := 4, ground := Ground.guard }], guard := some (4, true) }) (v := undef) rfl (by kernel_rfl) (by kernel_rfl) (by kernel_rfl) (fun _ _ _ h => h) (Or.inr ⟨by rfl, rfl⟩) (by assumption) ?_
      (try simp only [Act.put, List.setIfInBounds_toArray, List.set_cons_zero, List.set_cons_succ])
      refine wpAnyH_take (i := 14) (oi := { dst := some 27, op := Op.call { callee := Callee.value (Operand.func 24), args := #[Operand.tmp 22, Operand.tmp 26], argTypes := #[38, 38] }, type := 3, pos := "short.go:35", after := #[{ on := 9, ground := Ground.data }, { on := 13, ground := Ground.data }, { on := 4, ground := Ground.chain }, { on := 4, ground := Ground.guard }], guard := some (4, true) }) (v := undef) rfl (by kernel_rfl) (by kernel_rfl) (by kernel_rfl) (fun _ _ _ h => h) (Or.inr ⟨by rfl, rfl⟩) (by assumption) ?_
      (try simp only [Act.put, List.setIfInBounds_toArray, List.set_cons_zero, List.set_cons_succ])
      refine wpAnyH_take (i := 15) (oi := { dst := some 28, op := Op.move (Operand.tmp 3), type := 3, pos := "short.go:35", after := #[{ on := 4, ground := Ground.guard }], guard := some (4, true) }) (v := undef) rfl (by kernel_rfl) (by kernel_rfl) (by kernel_rfl) (fun _ _ _ h => h) (Or.inr ⟨by rfl, rfl⟩) (by assumption) ?_
      (try simp only [Act.put, List.setIfInBounds_toArray, List.set_cons_zero, List.set_cons_succ])
      refine wpAnyH_take (i := 16) (oi := { dst := some 29, op := Op.binOp BinOp.leq 3 (Operand.tmp 27) (Operand.tmp 28) 3, type := 4, pos := "short.go:35", after := #[{ on := 14, ground := Ground.data }, { on := 15, ground := Ground.data }, { on := 4, ground := Ground.guard }], guard := some (4, true) }) (v := undef) rfl (by kernel_rfl) (by kernel_rfl) (by kernel_rfl) (fun _ _ _ h => h) (Or.inr ⟨by rfl, rfl⟩) (by assumption) ?_
      (try simp only [Act.put, List.setIfInBounds_toArray, List.set_cons_zero, List.set_cons_succ])
      refine wpAnyH_take (i := 17) (oi := { dst := some 30, op := Op.pick (Operand.tmp 17) (Operand.tmp 29) (Operand.const (Value.bool false)), type := 4, pos := "short.go:35", after := #[{ on := 4, ground := Ground.data }, { on := 16, ground := Ground.data }], guard := none }) (v := ?v40) rfl (by kernel_rfl) (by kernel_rfl) (by kernel_rfl) (fun _ _ _ h => h) (Or.inl ⟨by rfl, ?hy40⟩) (by assumption) ?rs40
      case hy40 =>
        intro w hSw
        (try dsimp only at hSw)
        go_simp
        (try rw [hd])
        try with_reducible rfl
      (try simp only [Act.put, List.setIfInBounds_toArray, List.set_cons_zero, List.set_cons_succ])
      refine wpAnyH_done (by kernel_rfl) ?_ _
      have hKw : Kept w wr.drew := hK.drew
      clear hHeld hK
      have hst2 : Hid (∀ p, k < p → p < k + 1 + 0 → dist (A p) (B p) (A j) (B j) ≤ lim) := fun p h1 h2 => by omega
      obtain ⟨L, hL⟩ : ∃ L, L = j - (k + 1) := ⟨_, rfl⟩
      have s6 : (0 : Int) ≤ (k : Int) + 1 := by omega
      have s7 : (k : Int) + 1 ≤ (j : Int) := by omega
      have s8 : (j : Int) ≤ (cap1 : Int) := by omega
      have eL : j - (k + 1) = L := hL.symm
      have HL := Lib.hid hL
      clear hL
      go_wp2_with fail
      clear eL
      go_loopg [39] L (fun g s39 wr => ∃ t : Nat, t ≤ L ∧ g = L - t ∧ s39 = .int .i64 t ∧ Kept w wr ∧ Hid (∀ p, k < p → p < k + 1 + t → dist (A p) (B p) (A j) (B j) ≤ lim))
      case atStart => exact ⟨0, Nat.zero_le _, rfl, rfl, hKw, hst2⟩
      case round =>
        clear hst2 hKw
        obtain ⟨t, htl, rfl, rfl, hK2, hF2⟩ := hrel
        have hL := HL.out
        by_cases hlt2 : t < L
        · exfalso; omega
        · obtain rfl : t = L := by omega
          have hyes : Hid (SkipsAt A B lim i j) := hmost.out.2 (fun p h1 h2 => hF2.out p h1 (by omega))
          clear hL
          go_wp2_with fail
          go_ret
          exact ⟨true, rfl, by simp; exact hyes.out, hK2⟩
end Go.Proofs.Ytomnjcjipdnnfab
