/-
  The reference reads fractions.
-/
import Derived.Test.YthigeafojekclaaDoorWc
namespace Go.Proofs.YthigeafojekclaaDoor.Num
open Go.RowKit Go.Deep Go.Shelf

set_option maxRecDepth 100000 in
set_option maxHeartbeats 32000000 in
theorem Parse_frac (w : World) (S : ByteArray) (n p : Nat) (x y : Int) (hx0 : 0 < x) (hx1 : x < 10 ^ 60) (hy0 : 2 ≤ y) (hy1 : y < 10 ^ 60) (hg : (Int.gcd x y : Int) = 1) (hN : NumS S n p) (hpl : p + 1 ≤ n)
    (hD : ∀ W, Calls Tryd.prog 51 #[.string (S.extract 0 p)] W (ReadPost W x)) (hE : ∀ W, Calls Tryd.prog 51 #[.string (S.extract (p + 1) n)] W (ReadPost W y)) :
    Calls Tryd.prog 35 #[.string S] w (ParsePost w x y) := by
  have DG1 := Lib.hid hD
  have DG2 := Lib.hid hE
  clear hD hE
  have HC5 : Hid (cmpI y 2 = if y = 2 then 0 else 1) := by
    show _ = _
    unfold cmpI
    split
    · omega
    · split
      · rw [if_neg (by omega)]
      · rw [if_pos (by omega)]
  have HC1 : Hid (cmpI 1 1 = 0) := rfl
  obtain ⟨hsz, hn0, hn1, hpn, e45, hat', hoff⟩ := hN
  have HAT := Lib.hid hat'
  have HOFF := Lib.hid hoff
  have HA : Hid (∀ i (h : i < S.size), ((S[i]'h).toNat : Int) = chr S i) := fun i h => chr_at h
  have ha0 := HA.out 0 (by omega)
  have hbn : (10 : Int) ^ 60 * 10000 < bigN := by
    have h1 : (10000 : Int) ^ 20 ≤ bigN := pw_le (by omega)
    omega
  have hR0 := box_row4 w (.bool false) (.slice none 0 0) (.bool false) (.slice none 0 0) 39 w.heap.size rfl
  have hKw : Kept w (w.alloc (.cells #[.bool false, .slice none 0 0, .bool false, .slice none 0 0] 39)) := (Kept.refl w).alloc _
  clear hat' hoff
  go_enter Tryd.func35, Tryd.ntmps35
  go_wp2_with fail
  generalize w.alloc (.cells #[.bool false, .slice none 0 0, .bool false, .slice none 0 0] 39) = W at *
  obtain ⟨r0, HR0⟩ : ∃ r0, Hid (r0 = w.heap.size) := ⟨_, rfl⟩
  rw [← HR0.out] at hR0 ⊢
  have hrw : w.heap.size ≤ r0 := by rw [HR0.out]; exact Nat.le_refl _
  have hsl0 := slV_zero hpn
  clear HR0 e45 ha0
  go_loopg [6, 7] n (fun g s6 s7 wr => ∃ t : Nat, t ≤ n ∧ g = n - t ∧ s6 = .int .i64 (slV n p t) ∧ s7 = .int .i64 ((n : Int) - 1 - (t : Int)) ∧ W = wr)
  case atStart => exact ⟨0, Nat.zero_le _, rfl, by rw [hsl0], by first | rfl | go_num, rfl⟩
  case round =>
    obtain ⟨t, ht, rfl, rfl, rfl, rfl⟩ := hrel
    have hsle := slV_le (t := t) hpn
    by_cases hlt : t < n
    · obtain ⟨j, hj⟩ : ∃ j : Nat, j + 1 + t = n := ⟨n - 1 - t, by omega⟩
      have ej : (n : Int) - 1 - (t : Int) = (j : Int) := by omega
      have hat := HA.out j (by omega)
      have s4 : (j : Int) < (S.size : Int) := by omega
      have s5 : j < S.size := by omega
      have s6 : j < n := by omega
      have hms : Hid (n - (t + 1) < n - t) := by show _ < _; omega
      have hnx : Hid ((j : Int) - 1 = (n : Int) - 1 - ((t + 1 : Nat) : Int)) := by show _ = _; omega
      have s1 : (j : Int) ≥ 0 := by omega
      have s2 : (0 : Int) ≤ (j : Int) := by omega
      have s3 : (j : Int) < (n : Int) := by omega
      by_cases hp : j = p
      · have e1 := HAT.out j (by omega) hp
        have hs2 : Hid (slV n p (t + 1) = j) := by show _ = _; rw [slV_at (by omega), hp]
        rw [ej]
        generalize chr S j = c at *
        generalize slV n p t = sv at *
        clear ej hp
        go_wp2_with fail
        go_roundg (n - (t + 1))
        case measure => exact hms.out
        case rel => exact ⟨t + 1, by omega, rfl, by rw [hs2.out], by rw [← hnx.out], rfl⟩
      · have e1 := HOFF.out j (by omega) hp
        have hs2 : Hid (slV n p (t + 1) = slV n p t) := slV_off hj hp
        rw [ej]
        generalize chr S j = c at *
        obtain ⟨sv, HSV⟩ : ∃ sv, Hid (sv = slV n p t) := ⟨_, rfl⟩
        rw [← HSV.out] at hsle hs2 ⊢
        clear ej hp
        go_wp2_with fail
        go_roundg (n - (t + 1))
        case measure => exact hms.out
        case rel => exact ⟨t + 1, by omega, rfl, by rw [hs2.out], by rw [← hnx.out], rfl⟩
    · obtain rfl : t = n := by omega
      have hsl1 := slV_all t p
      rw [hsl1]
      have s1 : ¬ ((t : Int) - 1 - (t : Int)) ≥ 0 := by omega
      have q1 : (p : Int) ≤ (t : Int) := by omega
      have q2 : (0 : Int) ≤ (p : Int) := by omega
      have hw1 : IntKind.i64.wrap (p : Int) = (p : Int) := IntWalk.i64_in _ (by omega)
      have hpt : (p : Int).toNat = p := by omega
      clear hsl0 hsl1 hsle HAT HOFF HA
      have s9 : (p : Int) < (t : Int) := by omega
      have q3 : (p : Int) + 1 ≤ (t : Int) := by omega
      have hw2 : IntKind.i64.wrap ((p : Int) + 1) = (p : Int) + 1 := IntWalk.i64_in _ (by omega)
      have et : ((p : Int) + 1).toNat = p + 1 := by omega
      have HB5 : Hid (Big (y - 2)) := by constructor <;> omega
      have HB1 : Hid (Big (1 - 1)) := by constructor <;> omega
      have HBX : Hid (x * 10000 < bigN) := by show _ < _; omega
      have HBY : Hid (y * 10000 < bigN) := by show _ < _; omega
      obtain ⟨cy, hcy⟩ : ∃ cy : Int, cy = if y = 2 then 0 else 1 := ⟨_, rfl⟩
      have hcy0 : ¬ cy < 0 := by rw [hcy]; split <;> omega
      rw [← hcy] at HC5
      clear hcy
      go_wp2_with fail
      refine (DG1.out _).mono ?_
      rintro e w1 ⟨v1, rfl, hz1, hk1⟩
      obtain ⟨m1, a1, l1, c1, rfl⟩ := hz1.shape
      obtain ⟨rfl, _⟩ := hz1.pos (by omega)
      have HZ1 := Lib.hid hz1
      have hb8 := box_row w1 (.bool false) (.slice a1 l1 c1) 37 w1.heap.size rfl
      have hk8 : Kept w1 (w1.alloc (.cells #[.bool false, .slice a1 l1 c1] 37)) := (Kept.refl w1).alloc _
      clear hz1
      go_wp2_with fail
      obtain ⟨z8, HZ8⟩ : ∃ z, Hid (z = w1.heap.size) := ⟨_, rfl⟩
      rw [← HZ8.out] at hb8 ⊢
      have hz8r : r0 < z8 := by rw [HZ8.out]; exact Nat.lt_of_lt_of_le hR0.lt hk1.size
      generalize w1.alloc (.cells #[.bool false, .slice a1 l1 c1] 37) = w8 at *
      clear HZ8
      refine (Int_any _ 1 (by omega) (by omega)).mono ?_
      rintro e w2 ⟨v2, rfl, hz2, hk2⟩
      obtain ⟨m2, a2, l2, c2, rfl⟩ := hz2.shape
      obtain ⟨rfl, _⟩ := hz2.pos (by omega)
      have HZ2 := Lib.hid hz2
      have hb10 := box_row w2 (.bool false) (.slice a2 l2 c2) 37 w2.heap.size rfl
      have hk10 : Kept w2 (w2.alloc (.cells #[.bool false, .slice a2 l2 c2] 37)) := (Kept.refl w2).alloc _
      obtain ⟨z10, HZ10⟩ : ∃ z, Hid (z = w2.heap.size) := ⟨_, rfl⟩
      have hz10 : z8 < z10 := by rw [HZ10.out]; exact Nat.lt_of_lt_of_le hb8.lt hk2.size
      have hz8F := hb8
      clear hz2
      go_wp2_with fail
      rw [← HZ10.out] at hb10 ⊢
      generalize w2.alloc (.cells #[.bool false, .slice a2 l2 c2] 37) = w10 at *
      clear HZ10
      refine (DG2.out _).mono ?_
      rintro e w3 ⟨v3, rfl, hz3, hk3⟩
      obtain ⟨m3, a3, l3, c3, rfl⟩ := hz3.shape
      obtain ⟨rfl, _⟩ := hz3.pos (by omega)
      have hb11 := box_row w3 (.bool false) (.slice a3 l3 c3) 37 w3.heap.size rfl
      have hk11 : Kept w3 (w3.alloc (.cells #[.bool false, .slice a3 l3 c3] 37)) := (Kept.refl w3).alloc _
      obtain ⟨z11, HZ11⟩ : ∃ z, Hid (z = w3.heap.size) := ⟨_, rfl⟩
      have hz11 : z10 < z11 := by rw [HZ11.out]; exact Nat.lt_of_lt_of_le hb10.lt hk3.size
      go_wp2_with fail
      rw [← HZ11.out] at hb11 ⊢
      generalize w3.alloc (.cells #[.bool false, .slice a3 l3 c3] 37) = W11 at *
      clear HZ11
      have h8B := Lib.hid ((((hk2.trans hk10).trans hk3).trans hk11).row hb8)
      have h10B := Lib.hid ((hk3.trans hk11).row hb10)
      have hrB := Lib.hid ((((((hk1.trans hk8).trans hk2).trans hk10).trans hk3).trans hk11).row hR0)
      have h11B := Lib.hid hb11
      have HZ1 := Lib.hid (HZ1.out.kept (((((hk8.trans hk2).trans hk10).trans hk3).trans hk11)))
      have HZ3 := Lib.hid (hz3.kept hk11)
      have hKw11 : Kept w W11 := ((((((hKw.trans hk1).trans hk8).trans hk2).trans hk10).trans hk3).trans hk11)
      obtain ⟨k0, k1, _, _⟩ := bx_cells h8B.out
      obtain ⟨k2, k3, _, _⟩ := bx_cells h11B.out
      clear hb8 hb10 hb11 hR0 hz3 hz8F hk1 hk8 hk2 hk10 hk3 hk11 hKw HZ2 DG1 DG2
      try go_wp2_with fail
      refine wp_region_held_drew (S := (fun w' => w'.cell? ⟨z8, 0, none⟩ = some (.bool false) ∧ w'.cell? ⟨z8, 1, none⟩ = some (.slice a1 l1 c1) ∧ w'.cell? ⟨z11, 0, none⟩ = some (.bool false) ∧ w'.cell? ⟨z11, 1, none⟩ = some (.slice a3 l3 c3) ∧ Kept W11 w')) (by kernel_rfl) ?_ (fun hHeld => ?_)
      · (try dsimp only)
        exact ⟨Kept.cellSome (w := W11) (by repeat (first | assumption | exact Kept.refl _ | apply Kept.drew | apply Kept.drewN | apply Kept.alloc | refine Kept.trans ?_ (by assumption))) k0, Kept.cellSome (w := W11) (by repeat (first | assumption | exact Kept.refl _ | apply Kept.drew | apply Kept.drewN | apply Kept.alloc | refine Kept.trans ?_ (by assumption))) k1, Kept.cellSome (w := W11) (by repeat (first | assumption | exact Kept.refl _ | apply Kept.drew | apply Kept.drewN | apply Kept.alloc | refine Kept.trans ?_ (by assumption))) k2, Kept.cellSome (w := W11) (by repeat (first | assumption | exact Kept.refl _ | apply Kept.drew | apply Kept.drewN | apply Kept.alloc | refine Kept.trans ?_ (by assumption))) k3, (by repeat (first | assumption | exact Kept.refl _ | apply Kept.drew | apply Kept.drewN | apply Kept.alloc | refine Kept.trans ?_ (by assumption)))⟩
      refine wpAnyH_take (i := 0) (oi := { dst := some 62, op := Go.Op.move (Go.Operand.tmp 12), type := 4, pos := "num.go:46", after := #[], guard := none }) (v := ?v1) rfl (by kernel_rfl) (by kernel_rfl) (by kernel_rfl) (fun _ _ _ h => h) (Or.inl ⟨by rfl, ?hy1⟩) (by assumption) ?rs1
      case hy1 =>
        intro w hSw
        (try dsimp only at hSw)
        go_simp
        try with_reducible rfl
      (try simp only [Act.put, List.setIfInBounds_toArray, List.set_cons_zero, List.set_cons_succ])
      refine wpAnyH_take (i := 1) (oi := { dst := some 63, op := Go.Op.unOp Go.UnOp.not 4 (Go.Operand.tmp 62), type := 4, pos := "num.go:46", after := #[{ on := 0, ground := Go.Ground.data }], guard := none }) (v := ?v2) rfl (by kernel_rfl) (by kernel_rfl) (by kernel_rfl) (fun _ _ _ h => h) (Or.inl ⟨by rfl, ?hy2⟩) (by assumption) ?rs2
      case hy2 =>
        intro w hSw
        (try dsimp only at hSw)
        go_simp
        try with_reducible rfl
      (try simp only [Act.put, List.setIfInBounds_toArray, List.set_cons_zero, List.set_cons_succ])
      refine wpAnyH_take (i := 2) (oi := { dst := some 64, op := Go.Op.move (Go.Operand.tmp 63), type := 4, pos := "num.go:46", after := #[{ on := 1, ground := Go.Ground.data }], guard := none }) (v := ?v3) rfl (by kernel_rfl) (by kernel_rfl) (by kernel_rfl) (fun _ _ _ h => h) (Or.inl ⟨by rfl, ?hy3⟩) (by assumption) ?rs3
      case hy3 =>
        intro w hSw
        (try dsimp only at hSw)
        go_simp
        try with_reducible rfl
      (try simp only [Act.put, List.setIfInBounds_toArray, List.set_cons_zero, List.set_cons_succ])
      refine wpAnyH_take (i := 3) (oi := { dst := some 65, op := Go.Op.load 37 (Go.Operand.tmp 11), type := 37, pos := "num.go:46", after := #[{ on := 2, ground := Go.Ground.guard }], guard := some (2, false) }) (v := ?v4) rfl (by kernel_rfl) (by kernel_rfl) (by kernel_rfl) (fun _ _ _ h => h) (Or.inl ⟨by rfl, ?hy4⟩) (by assumption) ?rs4
      case hy4 =>
        intro w hSw
        (try dsimp only at hSw)
        go_simp
        try with_reducible rfl
      (try simp only [Act.put, List.setIfInBounds_toArray, List.set_cons_zero, List.set_cons_succ])
      refine wpAnyH_ready (rs := [4]) (by kernel_rfl) (by simp) ?_
      refine AllReadyH.cons (o := { dst := some 66, op := Go.Op.call { callee := Go.Callee.value (Go.Operand.func 34), args := #[Go.Operand.const (Go.Value.int Go.IntKind.i64 2)], argTypes := #[3] }, type := 37, pos := "num.go:46", after := #[{ on := 2, ground := Go.Ground.chain }, { on := 2, ground := Go.Ground.guard }], guard := some (2, false) }) rfl (fun K2 hK2 => ?_) AllReadyH.nil
      go_simp
      (go_at_call 34; refine (Int_any _ 2 (by omega) (by omega)).mono ?_; rintro e u1 ⟨v4, rfl, hy4, hu1⟩; obtain ⟨m4, a4, l4, c4, rfl⟩ := hy4.shape)
      (try go_wp2_with fail)
      refine hK2.out _ _ ?_ (fun hHeld => ?_)
      · (try dsimp only)
        exact ⟨Kept.cellSome (w := W11) (by repeat (first | assumption | exact Kept.refl _ | apply Kept.drew | apply Kept.drewN | apply Kept.alloc | refine Kept.trans ?_ (by assumption))) k0, Kept.cellSome (w := W11) (by repeat (first | assumption | exact Kept.refl _ | apply Kept.drew | apply Kept.drewN | apply Kept.alloc | refine Kept.trans ?_ (by assumption))) k1, Kept.cellSome (w := W11) (by repeat (first | assumption | exact Kept.refl _ | apply Kept.drew | apply Kept.drewN | apply Kept.alloc | refine Kept.trans ?_ (by assumption))) k2, Kept.cellSome (w := W11) (by repeat (first | assumption | exact Kept.refl _ | apply Kept.drew | apply Kept.drewN | apply Kept.alloc | refine Kept.trans ?_ (by assumption))) k3, (by repeat (first | assumption | exact Kept.refl _ | apply Kept.drew | apply Kept.drewN | apply Kept.alloc | refine Kept.trans ?_ (by assumption)))⟩
      clear hK2 K2
      (try simp only [Act.put, List.setIfInBounds_toArray, List.set_cons_zero, List.set_cons_succ])
      refine wpAnyH_ready (rs := [5]) (by kernel_rfl) (by simp) ?_
      refine AllReadyH.cons (o := { dst := some 67, op := Go.Op.call { callee := Go.Callee.value (Go.Operand.func 52), args := #[Go.Operand.tmp 65, Go.Operand.tmp 66], argTypes := #[37, 37] }, type := 3, pos := "num.go:46", after := #[{ on := 3, ground := Go.Ground.data }, { on := 4, ground := Go.Ground.data }, { on := 4, ground := Go.Ground.chain }, { on := 2, ground := Go.Ground.guard }], guard := some (2, false) }) rfl (fun K2 hK2 => ?_) AllReadyH.nil
      go_simp
      (go_at_call 52; refine (Cmp_any _ _ _ y 2 (HZ3.out.kept (by repeat (first | assumption | exact Kept.refl _ | apply Kept.drew | apply Kept.drewN | apply Kept.alloc | refine Kept.trans ?_ (by assumption)))) hy4 HB5.out).mono ?_; rw [HC5.out]; rintro e u2 ⟨rfl, hu2⟩)
      (try go_wp2_with fail)
      refine hK2.out _ _ ?_ (fun hHeld => ?_)
      · (try dsimp only)
        exact ⟨Kept.cellSome (w := W11) (by repeat (first | assumption | exact Kept.refl _ | apply Kept.drew | apply Kept.drewN | apply Kept.alloc | refine Kept.trans ?_ (by assumption))) k0, Kept.cellSome (w := W11) (by repeat (first | assumption | exact Kept.refl _ | apply Kept.drew | apply Kept.drewN | apply Kept.alloc | refine Kept.trans ?_ (by assumption))) k1, Kept.cellSome (w := W11) (by repeat (first | assumption | exact Kept.refl _ | apply Kept.drew | apply Kept.drewN | apply Kept.alloc | refine Kept.trans ?_ (by assumption))) k2, Kept.cellSome (w := W11) (by repeat (first | assumption | exact Kept.refl _ | apply Kept.drew | apply Kept.drewN | apply Kept.alloc | refine Kept.trans ?_ (by assumption))) k3, (by repeat (first | assumption | exact Kept.refl _ | apply Kept.drew | apply Kept.drewN | apply Kept.alloc | refine Kept.trans ?_ (by assumption)))⟩
      clear hK2 K2
      (try simp only [Act.put, List.setIfInBounds_toArray, List.set_cons_zero, List.set_cons_succ])
      refine wpAnyH_take (i := 6) (oi := { dst := some 68, op := Go.Op.binOp Go.BinOp.lss 3 (Go.Operand.tmp 67) (Go.Operand.const (Go.Value.int Go.IntKind.i64 0)) 3, type := 4, pos := "num.go:46", after := #[{ on := 5, ground := Go.Ground.data }, { on := 2, ground := Go.Ground.guard }], guard := some (2, false) }) (v := ?v5) rfl (by kernel_rfl) (by kernel_rfl) (by kernel_rfl) (fun _ _ _ h => h) (Or.inl ⟨by rfl, ?hy5⟩) (by assumption) ?rs5
      case hy5 =>
        intro w hSw
        (try dsimp only at hSw)
        go_simp
        (try simp only [decide_eq_false (show ¬ cy < 0 by omega)])
        try with_reducible rfl
      (try simp only [Act.put, List.setIfInBounds_toArray, List.set_cons_zero, List.set_cons_succ])
      refine wpAnyH_take (i := 7) (oi := { dst := some 69, op := Go.Op.pick (Go.Operand.tmp 64) (Go.Operand.const (Go.Value.bool true)) (Go.Operand.tmp 68), type := 4, pos := "num.go:46", after := #[{ on := 2, ground := Go.Ground.data }, { on := 6, ground := Go.Ground.data }], guard := none }) (v := ?v6) rfl (by kernel_rfl) (by kernel_rfl) (by kernel_rfl) (fun _ _ _ h => h) (Or.inl ⟨by rfl, ?hy6⟩) (by assumption) ?rs6
      case hy6 =>
        intro w hSw
        (try dsimp only at hSw)
        go_simp
        try with_reducible rfl
      (try simp only [Act.put, List.setIfInBounds_toArray, List.set_cons_zero, List.set_cons_succ])
      refine wpAnyH_take (i := 8) (oi := { dst := some 70, op := Go.Op.move (Go.Operand.tmp 69), type := 4, pos := "num.go:46", after := #[{ on := 7, ground := Go.Ground.data }, { on := 5, ground := Go.Ground.chain }], guard := none }) (v := ?v7) rfl (by kernel_rfl) (by kernel_rfl) (by kernel_rfl) (fun _ _ _ h => h) (Or.inl ⟨by rfl, ?hy7⟩) (by assumption) ?rs7
      case hy7 =>
        intro w hSw
        (try dsimp only at hSw)
        go_simp
        try with_reducible rfl
      (try simp only [Act.put, List.setIfInBounds_toArray, List.set_cons_zero, List.set_cons_succ])
      refine wpAnyH_take (i := 9) (oi := { dst := some 71, op := Go.Op.load 37 (Go.Operand.tmp 8), type := 37, pos := "num.go:46", after := #[{ on := 8, ground := Go.Ground.guard }], guard := some (8, false) }) (v := ?v8) rfl (by kernel_rfl) (by kernel_rfl) (by kernel_rfl) (fun _ _ _ h => h) (Or.inl ⟨by rfl, ?hy8⟩) (by assumption) ?rs8
      case hy8 =>
        intro w hSw
        (try dsimp only at hSw)
        go_simp
        try with_reducible rfl
      (try simp only [Act.put, List.setIfInBounds_toArray, List.set_cons_zero, List.set_cons_succ])
      refine wpAnyH_take (i := 10) (oi := { dst := some 72, op := Go.Op.load 37 (Go.Operand.tmp 11), type := 37, pos := "num.go:46", after := #[{ on := 8, ground := Go.Ground.guard }], guard := some (8, false) }) (v := ?v9) rfl (by kernel_rfl) (by kernel_rfl) (by kernel_rfl) (fun _ _ _ h => h) (Or.inl ⟨by rfl, ?hy9⟩) (by assumption) ?rs9
      case hy9 =>
        intro w hSw
        (try dsimp only at hSw)
        go_simp
        try with_reducible rfl
      (try simp only [Act.put, List.setIfInBounds_toArray, List.set_cons_zero, List.set_cons_succ])
      refine wpAnyH_ready (rs := [11]) (by kernel_rfl) (by simp) ?_
      refine AllReadyH.cons (o := { dst := some 73, op := Go.Op.call { callee := Go.Callee.value (Go.Operand.func 48), args := #[Go.Operand.tmp 71, Go.Operand.tmp 72], argTypes := #[37, 37] }, type := 37, pos := "num.go:46", after := #[{ on := 9, ground := Go.Ground.data }, { on := 10, ground := Go.Ground.data }, { on := 8, ground := Go.Ground.chain }, { on := 8, ground := Go.Ground.guard }], guard := some (8, false) }) rfl (fun K2 hK2 => ?_) AllReadyH.nil
      go_simp
      (go_at_call 48; refine (Gcd_any _ _ _ x y (HZ1.out.kept (by repeat (first | assumption | exact Kept.refl _ | apply Kept.drew | apply Kept.drewN | apply Kept.alloc | refine Kept.trans ?_ (by assumption)))) (HZ3.out.kept (by repeat (first | assumption | exact Kept.refl _ | apply Kept.drew | apply Kept.drewN | apply Kept.alloc | refine Kept.trans ?_ (by assumption)))) (by omega) (by omega) HBX.out HBY.out).mono ?_; rw [hg]; rintro e u3 ⟨v5, rfl, hy5, hu3⟩; obtain ⟨m5, a5, l5, c5, rfl⟩ := hy5.shape)
      (try go_wp2_with fail)
      refine hK2.out _ _ ?_ (fun hHeld => ?_)
      · (try dsimp only)
        exact ⟨Kept.cellSome (w := W11) (by repeat (first | assumption | exact Kept.refl _ | apply Kept.drew | apply Kept.drewN | apply Kept.alloc | refine Kept.trans ?_ (by assumption))) k0, Kept.cellSome (w := W11) (by repeat (first | assumption | exact Kept.refl _ | apply Kept.drew | apply Kept.drewN | apply Kept.alloc | refine Kept.trans ?_ (by assumption))) k1, Kept.cellSome (w := W11) (by repeat (first | assumption | exact Kept.refl _ | apply Kept.drew | apply Kept.drewN | apply Kept.alloc | refine Kept.trans ?_ (by assumption))) k2, Kept.cellSome (w := W11) (by repeat (first | assumption | exact Kept.refl _ | apply Kept.drew | apply Kept.drewN | apply Kept.alloc | refine Kept.trans ?_ (by assumption))) k3, (by repeat (first | assumption | exact Kept.refl _ | apply Kept.drew | apply Kept.drewN | apply Kept.alloc | refine Kept.trans ?_ (by assumption)))⟩
      clear hK2 K2
      (try simp only [Act.put, List.setIfInBounds_toArray, List.set_cons_zero, List.set_cons_succ])
      refine wpAnyH_ready (rs := [12]) (by kernel_rfl) (by simp) ?_
      refine AllReadyH.cons (o := { dst := some 74, op := Go.Op.call { callee := Go.Callee.value (Go.Operand.func 34), args := #[Go.Operand.const (Go.Value.int Go.IntKind.i64 1)], argTypes := #[3] }, type := 37, pos := "num.go:46", after := #[{ on := 11, ground := Go.Ground.chain }, { on := 8, ground := Go.Ground.guard }], guard := some (8, false) }) rfl (fun K2 hK2 => ?_) AllReadyH.nil
      go_simp
      (go_at_call 34; refine (Int_any _ 1 (by omega) (by omega)).mono ?_; rintro e u4 ⟨v6, rfl, hy6, hu4⟩; obtain ⟨m6, a6, l6, c6, rfl⟩ := hy6.shape)
      (try go_wp2_with fail)
      refine hK2.out _ _ ?_ (fun hHeld => ?_)
      · (try dsimp only)
        exact ⟨Kept.cellSome (w := W11) (by repeat (first | assumption | exact Kept.refl _ | apply Kept.drew | apply Kept.drewN | apply Kept.alloc | refine Kept.trans ?_ (by assumption))) k0, Kept.cellSome (w := W11) (by repeat (first | assumption | exact Kept.refl _ | apply Kept.drew | apply Kept.drewN | apply Kept.alloc | refine Kept.trans ?_ (by assumption))) k1, Kept.cellSome (w := W11) (by repeat (first | assumption | exact Kept.refl _ | apply Kept.drew | apply Kept.drewN | apply Kept.alloc | refine Kept.trans ?_ (by assumption))) k2, Kept.cellSome (w := W11) (by repeat (first | assumption | exact Kept.refl _ | apply Kept.drew | apply Kept.drewN | apply Kept.alloc | refine Kept.trans ?_ (by assumption))) k3, (by repeat (first | assumption | exact Kept.refl _ | apply Kept.drew | apply Kept.drewN | apply Kept.alloc | refine Kept.trans ?_ (by assumption)))⟩
      clear hK2 K2
      (try simp only [Act.put, List.setIfInBounds_toArray, List.set_cons_zero, List.set_cons_succ])
      refine wpAnyH_ready (rs := [13]) (by kernel_rfl) (by simp) ?_
      refine AllReadyH.cons (o := { dst := some 75, op := Go.Op.call { callee := Go.Callee.value (Go.Operand.func 52), args := #[Go.Operand.tmp 73, Go.Operand.tmp 74], argTypes := #[37, 37] }, type := 3, pos := "num.go:46", after := #[{ on := 11, ground := Go.Ground.data }, { on := 12, ground := Go.Ground.data }, { on := 12, ground := Go.Ground.chain }, { on := 8, ground := Go.Ground.guard }], guard := some (8, false) }) rfl (fun K2 hK2 => ?_) AllReadyH.nil
      go_simp
      (go_at_call 52; refine (Cmp_any _ _ _ 1 1 (hy5.kept (by repeat (first | assumption | exact Kept.refl _ | apply Kept.drew | apply Kept.drewN | apply Kept.alloc | refine Kept.trans ?_ (by assumption)))) hy6 HB1.out).mono ?_; rw [HC1.out]; rintro e u5 ⟨rfl, hu5⟩)
      (try go_wp2_with fail)
      refine hK2.out _ _ ?_ (fun hHeld => ?_)
      · (try dsimp only)
        exact ⟨Kept.cellSome (w := W11) (by repeat (first | assumption | exact Kept.refl _ | apply Kept.drew | apply Kept.drewN | apply Kept.alloc | refine Kept.trans ?_ (by assumption))) k0, Kept.cellSome (w := W11) (by repeat (first | assumption | exact Kept.refl _ | apply Kept.drew | apply Kept.drewN | apply Kept.alloc | refine Kept.trans ?_ (by assumption))) k1, Kept.cellSome (w := W11) (by repeat (first | assumption | exact Kept.refl _ | apply Kept.drew | apply Kept.drewN | apply Kept.alloc | refine Kept.trans ?_ (by assumption))) k2, Kept.cellSome (w := W11) (by repeat (first | assumption | exact Kept.refl _ | apply Kept.drew | apply Kept.drewN | apply Kept.alloc | refine Kept.trans ?_ (by assumption))) k3, (by repeat (first | assumption | exact Kept.refl _ | apply Kept.drew | apply Kept.drewN | apply Kept.alloc | refine Kept.trans ?_ (by assumption)))⟩
      clear hK2 K2
      (try simp only [Act.put, List.setIfInBounds_toArray, List.set_cons_zero, List.set_cons_succ])
      refine wpAnyH_take (i := 14) (oi := { dst := some 76, op := Go.Op.binOp Go.BinOp.neq 3 (Go.Operand.tmp 75) (Go.Operand.const (Go.Value.int Go.IntKind.i64 0)) 3, type := 4, pos := "num.go:46", after := #[{ on := 13, ground := Go.Ground.data }, { on := 8, ground := Go.Ground.guard }], guard := some (8, false) }) (v := ?v10) rfl (by kernel_rfl) (by kernel_rfl) (by kernel_rfl) (fun _ _ _ h => h) (Or.inl ⟨by rfl, ?hy10⟩) (by assumption) ?rs10
      case hy10 =>
        intro w hSw
        (try dsimp only at hSw)
        go_simp
        try with_reducible rfl
      (try simp only [Act.put, List.setIfInBounds_toArray, List.set_cons_zero, List.set_cons_succ])
      refine wpAnyH_take (i := 15) (oi := { dst := some 77, op := Go.Op.pick (Go.Operand.tmp 70) (Go.Operand.const (Go.Value.bool true)) (Go.Operand.tmp 76), type := 4, pos := "num.go:46", after := #[{ on := 8, ground := Go.Ground.data }, { on := 14, ground := Go.Ground.data }], guard := none }) (v := ?v11) rfl (by kernel_rfl) (by kernel_rfl) (by kernel_rfl) (fun _ _ _ h => h) (Or.inl ⟨by rfl, ?hy11⟩) (by assumption) ?rs11
      case hy11 =>
        intro w hSw
        (try dsimp only at hSw)
        go_simp
        try with_reducible rfl
      (try simp only [Act.put, List.setIfInBounds_toArray, List.set_cons_zero, List.set_cons_succ])
      refine wpAnyH_done (by kernel_rfl) ?_ _
      have hKE : Kept W11 u5 := (by repeat (first | assumption | exact Kept.refl _ | apply Kept.drew | apply Kept.drewN | apply Kept.alloc | refine Kept.trans ?_ (by assumption)))
      have h8E := hKE.row h8B.out
      have h10E := hKE.row h10B.out
      have h11E := hKE.row h11B.out
      have hrE := hKE.row hrB.out
      have hzn := HZ1.out.kept hKE
      have hzd := HZ3.out.kept hKE
      have hKwE := hKw11.trans hKE
      clear k0 k1 k2 k3 h8B h10B h11B hrB HZ1 HZ3 hu1 hu2 hu3 hu4 hu5 hy4 hy5 hy6 hKE hKw11
      have n1 : z8 ≠ z10 := by omega
      have n2 : r0 ≠ z10 := by omega
      have hz10w : w.heap.size ≤ z10 := by omega
      obtain ⟨d0, d1, _, _⟩ := bx_cells h11E
      obtain ⟨y0, y1, y2, y3⟩ := bx_cells h10E
      have h10F := bx_set1 (bx_set0 h10E (.bool false)) (.slice a3 l3 c3)
      have h8F := (h8E.setOther (a := ⟨z10, 0, none⟩) n1 (.bool false)).setOther (a := ⟨z10, 1, none⟩) n1 (.slice a3 l3 c3)
      have hrF := (hrE.setOther (a := ⟨z10, 0, none⟩) n2 (.bool false)).setOther (a := ⟨z10, 1, none⟩) n2 (.slice a3 l3 c3)
      have hX0 : KeptX (fun k => k = z10) u5 ((u5.setCell ⟨z10, 0, none⟩ (.bool false)).setCell ⟨z10, 1, none⟩ (.slice a3 l3 c3)) := ((KeptX.refl (fun k => k = z10) u5).setIn 0 _).setIn 1 _
      have hnF := hzn.keptBox hX0 h10E
      have hdF := hzd.keptBox hX0 h10E
      have hKwF : Kept w ((u5.setCell ⟨z10, 0, none⟩ (.bool false)).setCell ⟨z10, 1, none⟩ (.slice a3 l3 c3)) := (hKwE.setCell hz10w _).setCell hz10w _
      clear hzn hzd h8E h10E h11E hrE hX0 hKwE hHeld
      obtain ⟨f0, f1, f2, f3, f4, f5, f6, f7⟩ := bx4_cells hrF
      obtain ⟨j0, j1, _, _⟩ := bx_cells h8F
      obtain ⟨j2, j3, _, _⟩ := bx_cells h10F
      have hRF := bx4_set hrF (.bool false) (.slice a1 l1 c1) (.bool false) (.slice a3 l3 c3)
      obtain ⟨WG, hWG⟩ : ∃ WG, WG = ((((((u5.setCell ⟨z10, 0, none⟩ (.bool false)).setCell ⟨z10, 1, none⟩ (.slice a3 l3 c3)).setCell ⟨r0, 0, none⟩ (.bool false)).setCell ⟨r0, 1, none⟩ (.slice a1 l1 c1)).setCell ⟨r0, 2, none⟩ (.bool false)).setCell ⟨r0, 3, none⟩ (.slice a3 l3 c3)) := ⟨_, rfl⟩
      have hX : KeptX (fun k => k = r0) ((u5.setCell ⟨z10, 0, none⟩ (.bool false)).setCell ⟨z10, 1, none⟩ (.slice a3 l3 c3)) ((((((u5.setCell ⟨z10, 0, none⟩ (.bool false)).setCell ⟨z10, 1, none⟩ (.slice a3 l3 c3)).setCell ⟨r0, 0, none⟩ (.bool false)).setCell ⟨r0, 1, none⟩ (.slice a1 l1 c1)).setCell ⟨r0, 2, none⟩ (.bool false)).setCell ⟨r0, 3, none⟩ (.slice a3 l3 c3)) := ((((KeptX.refl (fun k => k = r0) ((u5.setCell ⟨z10, 0, none⟩ (.bool false)).setCell ⟨z10, 1, none⟩ (.slice a3 l3 c3))).setIn 0 _).setIn 1 _).setIn 2 _).setIn 3 _
      have HN9 := Lib.hid (hnF.keptBoxN hX hrF (bx4_noint _ _ _ _ _ _ _ _))
      have HD9 := Lib.hid (hdF.keptBoxN hX hrF (bx4_noint _ _ _ _ _ _ _ _))
      have hKF : Kept w ((((((u5.setCell ⟨z10, 0, none⟩ (.bool false)).setCell ⟨z10, 1, none⟩ (.slice a3 l3 c3)).setCell ⟨r0, 0, none⟩ (.bool false)).setCell ⟨r0, 1, none⟩ (.slice a1 l1 c1)).setCell ⟨r0, 2, none⟩ (.bool false)).setCell ⟨r0, 3, none⟩ (.slice a3 l3 c3)) := (((hKwF.setCell hrw _).setCell hrw _).setCell hrw _).setCell hrw _
      obtain ⟨g0, g1, g2, g3, _⟩ := bx4_cells hRF
      clear hrF h8F h10F hRF hX hnF hdF hWG
      go_wp2_with fail
      exact bodyPost_ret (v := .tuple #[.agg #[.bool false, .slice a1 l1 c1, .bool false, .slice a3 l3 c3], .bool true]) (by simp [results, Tryd.results35, go_sem, g0, g1, g2, g3]) rfl ⟨_, rfl, ⟨false, _, false, _, rfl, HN9.out, HD9.out⟩, hKF⟩
end Go.Proofs.YthigeafojekclaaDoor.Num
