/-
  The reference's Det.
-/
import Derived.Test.YtlnpipkhofhlnaaMn
namespace Go.Proofs.Ytlnpipkhofhlnaa
open Go.RowKit Go.Deep

def detS0 (M : Nat → Nat → Int) (N k : Nat) : Int := sumZ (fun c => sgP c * M 0 c * detE N (minM M 0 c)) k
set_option maxRecDepth 100000 in
set_option maxHeartbeats 8000000 in
theorem det_ref : ∀ (N : Nat) (w : World) (mv : Value) (M : Nat → Nat → Int), MatAt w mv N N M → N ≤ 7 → Small N M →
    Calls Try.prog 33 #[mv] w fun e w' => e = .returned (.int .i64 (detE N M)) ∧ Kept w w' := by
  intro N
  induction N with
  | zero =>
    intro w mv M hM _ _
    obtain ⟨us, ⟨ma, mb, mo, mcap, rfl, hma, hmc⟩, hrows⟩ := hM
    clear hma hmc hrows
    go_enter Try.func33, Try.ntmps33
    go_wp2_with fail
    go_ret
    exact ⟨rfl, Kept.refl _⟩
  | succ N ih =>
    intro w mv M hM hN hS
    have HIH := Lib.hid ih
    clear ih
    have hM0 := hM
    obtain ⟨us, ⟨ma, mb, mo, mcap, rfl, hma, hmc⟩, hrows⟩ := hM
    obtain rfl := hma (by omega)
    obtain ⟨xb, xo, xcap, hux, hx1, hx2, hxc⟩ := hrows 0 (by omega)
    have t0 := hmc 0 (by omega)
    rw [hux, Nat.add_zero] at t0
    have HXC := Lib.hid hxc
    have HS := Lib.hid hS
    have HSB : Hid (∀ k, k ≤ N + 1 → -(921600000000 * (k : Int)) ≤ detS0 M N k ∧ detS0 M N k ≤ 921600000000 * (k : Int)) := fun k hk => by
      have hb := detB_step (N := N) (by omega)
      have ht : ∀ c, c < k → -(20 * detB N) ≤ sgP c * M 0 c * detE N (minM M 0 c) ∧ sgP c * M 0 c * detE N (minM M 0 c) ≤ 20 * detB N := fun c hc => by
        have h1 := detE_bd (hS.min 0 c)
        have h2 := sg_bd (c := c) (hS 0 c (by omega) (by omega))
        exact mul_bd h2.1 h2.2 h1.1 h1.2
      have e1 := sumZ_bound (f := fun c => sgP c * M 0 c * detE N (minM M 0 c)) (c := 921600000000) (n := k) (fun i hi => by have := (ht i hi).2; omega)
      have e2 := sumZ_bound (f := fun c => -1 * (sgP c * M 0 c * detE N (minM M 0 c))) (c := 921600000000) (n := k) (fun i hi => by have := (ht i hi).1; omega)
      rw [sumZ_mul] at e2
      unfold detS0
      omega
    have HTB : Hid (∀ k, k < N + 1 → -921600000000 ≤ sgP k * M 0 k * detE N (minM M 0 k) ∧ sgP k * M 0 k * detE N (minM M 0 k) ≤ 921600000000) := fun k hk => by
      have hb := detB_step (N := N) (by omega)
      have h1 := detE_bd (hS.min 0 k)
      have h2 := sg_bd (c := k) (hS 0 k (by omega) hk)
      have := mul_bd h2.1 h2.2 h1.1 h1.2
      omega
    have HSM := Lib.hid (fun k => hS.min 0 k)
    clear hux hxc hS hma hmc hrows hx2
    go_enter Try.func33, Try.ntmps33
    go_wp2_with fail
    go_loopg [3, 4, 5] (N + 1) (fun g s3 s4 s5 wr => ∃ k : Nat, k ≤ N + 1 ∧ g = N + 1 - k ∧ s5 = .int .i64 (k : Int) ∧ s4 = .int .i64 (sgP k) ∧ s3 = .int .i64 (detS0 M N k) ∧ Kept w wr)
    case atStart => exact ⟨0, Nat.zero_le _, rfl, rfl, rfl, rfl, Kept.refl _⟩
    case round =>
      obtain ⟨k, hk, rfl, rfl, rfl, rfl, hK⟩ := hrel
      by_cases hlt : k < N + 1
      · have s1 : (k : Int) < (N : Int) + 1 := by omega
        have s2 : (0 : Int) ≤ (k : Int) := by omega
        have c0 := hK.cellSome t0
        have c1 := hK.cellSome (HXC.out k hlt)
        have hxb := HS.out 0 k (by omega) hlt
        have hsb := HSB.out k hk
        have htb := HTB.out k hlt
        have hsg := sgP_cases k
        have hmk := minor_ref (N := N + 1) (r := 0) (c := k) (mv := .slice (some ⟨mb, mo, none⟩) (N + 1) mcap) (M := M)
        have HMIN := Lib.hid (fun (w2 : World) (h : Kept w w2) => minor_ref w2 (N + 1) 0 k (.slice (some ⟨mb, mo, none⟩) (N + 1 : Nat) mcap) M (hM0.kept h) (by omega) (by omega) hlt)
        have hnx : detS0 M N (k + 1) = detS0 M N k + sgP k * M 0 k * detE N (minM M 0 k) := rfl
        have hsx : sgP (k + 1) = - sgP k := rfl
        obtain ⟨sg, HSG⟩ : ∃ sg, Hid (sg = sgP k) := ⟨_, rfl⟩
        obtain ⟨x, HX⟩ : ∃ x, Hid (x = M 0 k) := ⟨_, rfl⟩
        obtain ⟨S, HSS⟩ : ∃ S, Hid (S = detS0 M N k) := ⟨_, rfl⟩
        obtain ⟨d, HD⟩ : ∃ d, Hid (d = detE N (minM M 0 k)) := ⟨_, rfl⟩
        rw [← HX.out] at c1 hxb htb hnx
        rw [← HSG.out] at htb hsg hnx hsx ⊢
        rw [← HD.out] at htb hnx
        rw [← HSS.out] at hsb hnx ⊢
        have hsgx : -20 ≤ sg * x ∧ sg * x ≤ 20 := by rcases hsg with e | e <;> rw [e] <;> omega
        have s3 : IntKind.i64.wrap (-sg) = -sg := IntWalk.i64_in _ (by omega)
        have s4 : IntKind.i64.wrap (sg * x) = sg * x := IntWalk.i64_in _ (by omega)
        have s5 : IntKind.i64.wrap (sg * x * d) = sg * x * d := IntWalk.i64_in _ (by omega)
        have s6 : IntKind.i64.wrap (S + sg * x * d) = S + sg * x * d := IntWalk.i64_in _ (by omega)
        have HNX := Lib.hid hnx
        have HSX := Lib.hid hsx
        clear hnx hsx hsg hsgx htb hsb hxb hmk
        by_cases hx0 : x = 0
        · have e1 : (x != 0) = false := by simp [hx0]
          have e2 : (x == 0) = true := by simp [hx0]
          have HX0 := Lib.hid hx0
          clear hx0
          go_wp2_with fail
          go_roundg (N + 1 - (k + 1))
          case measure => omega
          case rel => exact ⟨k + 1, by omega, rfl, by go_num, by rw [HSX.out], by rw [HNX.out, HX0.out]; simp, hK⟩
        · have e1 : (x != 0) = true := by simp [hx0]
          have e2 : (x == 0) = false := by simp [hx0]
          clear hx0
          go_wp2_with fail
          refine wp_region_held_drew (S := (fun w' => w'.cell? ⟨mb, mo, none⟩ = some (.slice (some ⟨xb, xo, none⟩) (N + 1 : Nat) xcap) ∧ w'.cell? ⟨xb, xo + k, none⟩ = some (.int .i64 x) ∧ Kept wr w')) (by kernel_rfl) ?_ (fun hHeld => ?_)
          · (try dsimp only)
            exact keep2 c0 c1 (by repeat (first | assumption | exact Kept.refl _ | apply Kept.drew | apply Kept.drewN | apply Kept.alloc | refine Kept.trans ?_ (by assumption)))
          refine wpAnyH_take (i := 0) (oi := { dst := some 22, op := Go.Op.move (Go.Operand.tmp 3), type := 3, pos := "ref.go:167", after := #[], guard := none }) (v := ?v1) rfl (by kernel_rfl) (by kernel_rfl) (by kernel_rfl) (fun _ _ _ h => h) (Or.inl ⟨by rfl, ?hy1⟩) (by assumption) ?rs1
          case hy1 =>
            intro w hSw
            (try dsimp only at hSw)
            go_simp
            try with_reducible rfl
          (try simp only [Act.put, List.setIfInBounds_toArray, List.set_cons_zero, List.set_cons_succ])
          refine wpAnyH_take (i := 1) (oi := { dst := some 23, op := Go.Op.move (Go.Operand.tmp 4), type := 3, pos := "ref.go:167", after := #[], guard := none }) (v := ?v2) rfl (by kernel_rfl) (by kernel_rfl) (by kernel_rfl) (fun _ _ _ h => h) (Or.inl ⟨by rfl, ?hy2⟩) (by assumption) ?rs2
          case hy2 =>
            intro w hSw
            (try dsimp only at hSw)
            go_simp
            try with_reducible rfl
          (try simp only [Act.put, List.setIfInBounds_toArray, List.set_cons_zero, List.set_cons_succ])
          refine wpAnyH_take (i := 2) (oi := { dst := some 24, op := Go.Op.move (Go.Operand.tmp 0), type := 63, pos := "ref.go:167", after := #[], guard := none }) (v := ?v3) rfl (by kernel_rfl) (by kernel_rfl) (by kernel_rfl) (fun _ _ _ h => h) (Or.inl ⟨by rfl, ?hy3⟩) (by assumption) ?rs3
          case hy3 =>
            intro w hSw
            (try dsimp only at hSw)
            go_simp
            try with_reducible rfl
          (try simp only [Act.put, List.setIfInBounds_toArray, List.set_cons_zero, List.set_cons_succ])
          refine wpAnyH_take (i := 3) (oi := { dst := some 25, op := Go.Op.indexAddr 63 (Go.Operand.tmp 24) (Go.Operand.const (Go.Value.int Go.IntKind.i64 0)), type := 0, pos := "ref.go:167", after := #[{ on := 2, ground := Go.Ground.data }], guard := none }) (v := ?v4) rfl (by kernel_rfl) (by kernel_rfl) (by kernel_rfl) (fun _ _ _ h => h) (Or.inl ⟨by rfl, ?hy4⟩) (by assumption) ?rs4
          case hy4 =>
            intro w hSw
            (try dsimp only at hSw)
            go_simp
            try with_reducible rfl
          (try simp only [Act.put, List.setIfInBounds_toArray, List.set_cons_zero, List.set_cons_succ])
          refine wpAnyH_take (i := 4) (oi := { dst := some 26, op := Go.Op.load 25 (Go.Operand.tmp 25), type := 25, pos := "ref.go:167", after := #[{ on := 3, ground := Go.Ground.data }], guard := none }) (v := ?v5) rfl (by kernel_rfl) (by kernel_rfl) (by kernel_rfl) (fun _ _ _ h => h) (Or.inl ⟨by rfl, ?hy5⟩) (by assumption) ?rs5
          case hy5 =>
            intro w hSw
            (try dsimp only at hSw)
            go_simp
            try with_reducible rfl
          (try simp only [Act.put, List.setIfInBounds_toArray, List.set_cons_zero, List.set_cons_succ])
          refine wpAnyH_take (i := 5) (oi := { dst := some 27, op := Go.Op.move (Go.Operand.tmp 5), type := 3, pos := "ref.go:167", after := #[], guard := none }) (v := ?v6) rfl (by kernel_rfl) (by kernel_rfl) (by kernel_rfl) (fun _ _ _ h => h) (Or.inl ⟨by rfl, ?hy6⟩) (by assumption) ?rs6
          case hy6 =>
            intro w hSw
            (try dsimp only at hSw)
            go_simp
            try with_reducible rfl
          (try simp only [Act.put, List.setIfInBounds_toArray, List.set_cons_zero, List.set_cons_succ])
          refine wpAnyH_take (i := 6) (oi := { dst := some 28, op := Go.Op.indexAddr 25 (Go.Operand.tmp 26) (Go.Operand.tmp 27), type := 0, pos := "ref.go:167", after := #[{ on := 4, ground := Go.Ground.data }, { on := 5, ground := Go.Ground.data }], guard := none }) (v := ?v7) rfl (by kernel_rfl) (by kernel_rfl) (by kernel_rfl) (fun _ _ _ h => h) (Or.inl ⟨by rfl, ?hy7⟩) (by assumption) ?rs7
          case hy7 =>
            intro w hSw
            (try dsimp only at hSw)
            go_simp
            try with_reducible rfl
          (try simp only [Act.put, List.setIfInBounds_toArray, List.set_cons_zero, List.set_cons_succ])
          refine wpAnyH_take (i := 7) (oi := { dst := some 29, op := Go.Op.load 3 (Go.Operand.tmp 28), type := 3, pos := "ref.go:167", after := #[{ on := 6, ground := Go.Ground.data }], guard := none }) (v := ?v8) rfl (by kernel_rfl) (by kernel_rfl) (by kernel_rfl) (fun _ _ _ h => h) (Or.inl ⟨by rfl, ?hy8⟩) (by assumption) ?rs8
          case hy8 =>
            intro w hSw
            (try dsimp only at hSw)
            go_simp
            try with_reducible rfl
          (try simp only [Act.put, List.setIfInBounds_toArray, List.set_cons_zero, List.set_cons_succ])
          refine wpAnyH_take (i := 8) (oi := { dst := some 30, op := Go.Op.binOp Go.BinOp.mul 3 (Go.Operand.tmp 23) (Go.Operand.tmp 29) 3, type := 3, pos := "ref.go:167", after := #[{ on := 1, ground := Go.Ground.data }, { on := 7, ground := Go.Ground.data }], guard := none }) (v := ?v9) rfl (by kernel_rfl) (by kernel_rfl) (by kernel_rfl) (fun _ _ _ h => h) (Or.inl ⟨by rfl, ?hy9⟩) (by assumption) ?rs9
          case hy9 =>
            intro w hSw
            (try dsimp only at hSw)
            go_simp
            try with_reducible rfl
          (try simp only [Act.put, List.setIfInBounds_toArray, List.set_cons_zero, List.set_cons_succ])
          refine wpAnyH_take (i := 9) (oi := { dst := some 31, op := Go.Op.move (Go.Operand.tmp 0), type := 63, pos := "ref.go:167", after := #[], guard := none }) (v := ?v10) rfl (by kernel_rfl) (by kernel_rfl) (by kernel_rfl) (fun _ _ _ h => h) (Or.inl ⟨by rfl, ?hy10⟩) (by assumption) ?rs10
          case hy10 =>
            intro w hSw
            (try dsimp only at hSw)
            go_simp
            try with_reducible rfl
          (try simp only [Act.put, List.setIfInBounds_toArray, List.set_cons_zero, List.set_cons_succ])
          refine wpAnyH_take (i := 10) (oi := { dst := some 32, op := Go.Op.move (Go.Operand.tmp 5), type := 3, pos := "ref.go:167", after := #[], guard := none }) (v := ?v11) rfl (by kernel_rfl) (by kernel_rfl) (by kernel_rfl) (fun _ _ _ h => h) (Or.inl ⟨by rfl, ?hy11⟩) (by assumption) ?rs11
          case hy11 =>
            intro w hSw
            (try dsimp only at hSw)
            go_simp
            try with_reducible rfl
          (try simp only [Act.put, List.setIfInBounds_toArray, List.set_cons_zero, List.set_cons_succ])
          refine wpAnyH_ready (rs := [11]) (by kernel_rfl) (by simp) ?_
          refine AllReadyH.cons (o := { dst := some 33, op := Go.Op.call { callee := Go.Callee.value (Go.Operand.func 60), args := #[Go.Operand.tmp 31, Go.Operand.const (Go.Value.int Go.IntKind.i64 0), Go.Operand.tmp 32], argTypes := #[63, 3, 3] }, type := 63, pos := "ref.go:167", after := #[{ on := 9, ground := Go.Ground.data }, { on := 10, ground := Go.Ground.data }], guard := none }) rfl (fun K2 hK2 => ?_) AllReadyH.nil
          go_simp
          (go_at_call 60; refine (HMIN.out _ ?_).mono ?_; (exact hK.trans (by repeat (first | assumption | exact Kept.refl _ | apply Kept.drew | apply Kept.drewN | apply Kept.alloc | refine Kept.trans ?_ (by assumption)))); rintro e w4 ⟨v4, rfl, hk4, hT4⟩; (have hM4 := hT4.mat (by omega)); (obtain ⟨va4, vcap4, rfl⟩ := mat_shape hM4); clear hT4)
          (try go_wp2_with fail)
          refine hK2.out _ _ ?_ (fun hHeld => ?_)
          · (try dsimp only)
            exact keep2 c0 c1 (by repeat (first | assumption | exact Kept.refl _ | apply Kept.drew | apply Kept.drewN | apply Kept.alloc | refine Kept.trans ?_ (by assumption)))
          clear hK2 K2
          (try simp only [Act.put, List.setIfInBounds_toArray, List.set_cons_zero, List.set_cons_succ])
          refine wpAnyH_ready (rs := [12]) (by kernel_rfl) (by simp) ?_
          refine AllReadyH.cons (o := { dst := some 34, op := Go.Op.call { callee := Go.Callee.value (Go.Operand.func 33), args := #[Go.Operand.tmp 33], argTypes := #[63] }, type := 3, pos := "ref.go:167", after := #[{ on := 11, ground := Go.Ground.data }, { on := 11, ground := Go.Ground.chain }], guard := none }) rfl (fun K2 hK2 => ?_) AllReadyH.nil
          go_simp
          (go_at_call 33; refine (HIH.out _ _ _ (hM4.kept (by repeat (first | assumption | exact Kept.refl _ | apply Kept.drew | apply Kept.drewN | apply Kept.alloc | refine Kept.trans ?_ (by assumption)))) (by omega) (HSM.out k)).mono ?_; rw [← HD.out]; rintro e w5 ⟨rfl, hk5⟩)
          (try go_wp2_with fail)
          refine hK2.out _ _ ?_ (fun hHeld => ?_)
          · (try dsimp only)
            exact keep2 c0 c1 (by repeat (first | assumption | exact Kept.refl _ | apply Kept.drew | apply Kept.drewN | apply Kept.alloc | refine Kept.trans ?_ (by assumption)))
          clear hK2 K2
          (try simp only [Act.put, List.setIfInBounds_toArray, List.set_cons_zero, List.set_cons_succ])
          refine wpAnyH_take (i := 13) (oi := { dst := some 35, op := Go.Op.binOp Go.BinOp.mul 3 (Go.Operand.tmp 30) (Go.Operand.tmp 34) 3, type := 3, pos := "ref.go:167", after := #[{ on := 8, ground := Go.Ground.data }, { on := 12, ground := Go.Ground.data }], guard := none }) (v := ?v12) rfl (by kernel_rfl) (by kernel_rfl) (by kernel_rfl) (fun _ _ _ h => h) (Or.inl ⟨by rfl, ?hy12⟩) (by assumption) ?rs12
          case hy12 =>
            intro w hSw
            (try dsimp only at hSw)
            go_simp
            try with_reducible rfl
          (try simp only [Act.put, List.setIfInBounds_toArray, List.set_cons_zero, List.set_cons_succ])
          refine wpAnyH_take (i := 14) (oi := { dst := some 36, op := Go.Op.binOp Go.BinOp.add 3 (Go.Operand.tmp 22) (Go.Operand.tmp 35) 3, type := 3, pos := "ref.go:167", after := #[{ on := 0, ground := Go.Ground.data }, { on := 13, ground := Go.Ground.data }], guard := none }) (v := ?v13) rfl (by kernel_rfl) (by kernel_rfl) (by kernel_rfl) (fun _ _ _ h => h) (Or.inl ⟨by rfl, ?hy13⟩) (by assumption) ?rs13
          case hy13 =>
            intro w hSw
            (try dsimp only at hSw)
            go_simp
            try with_reducible rfl
          (try simp only [Act.put, List.setIfInBounds_toArray, List.set_cons_zero, List.set_cons_succ])
          refine wpAnyH_take (i := 15) (oi := { dst := some 3, op := Go.Op.assign (Go.Operand.tmp 36), type := 3, pos := "ref.go:167", after := #[{ on := 14, ground := Go.Ground.data }, { on := 12, ground := Go.Ground.chain }, { on := 0, ground := Go.Ground.phase }, { on := 1, ground := Go.Ground.phase }, { on := 2, ground := Go.Ground.phase }, { on := 3, ground := Go.Ground.phase }, { on := 4, ground := Go.Ground.phase }, { on := 5, ground := Go.Ground.phase }, { on := 6, ground := Go.Ground.phase }, { on := 7, ground := Go.Ground.phase }, { on := 8, ground := Go.Ground.phase }, { on := 9, ground := Go.Ground.phase }, { on := 10, ground := Go.Ground.phase }, { on := 11, ground := Go.Ground.phase }, { on := 12, ground := Go.Ground.phase }, { on := 13, ground := Go.Ground.phase }, { on := 14, ground := Go.Ground.phase }], guard := none }) (v := ?v14) rfl (by kernel_rfl) (by kernel_rfl) (by kernel_rfl) (fun _ _ _ h => h) (Or.inl ⟨by rfl, ?hy14⟩) (by assumption) ?rs14
          case hy14 =>
            intro w hSw
            (try dsimp only at hSw)
            go_simp
            try with_reducible rfl
          (try simp only [Act.put, List.setIfInBounds_toArray, List.set_cons_zero, List.set_cons_succ])
          refine wpAnyH_done (by kernel_rfl) ?_ _
          go_wp2_with fail
          go_roundg (N + 1 - (k + 1))
          case measure => omega
          case rel => exact ⟨k + 1, by omega, rfl, by go_num, by rw [HSX.out], by rw [HNX.out], (by repeat (first | assumption | exact Kept.refl _ | apply Kept.drew | apply Kept.drewN | apply Kept.alloc | refine Kept.trans ?_ (by assumption)))⟩
      · obtain rfl : k = N + 1 := by omega
        have s1 : ¬ ((N + 1 : Nat) : Int) < (N : Int) + 1 := by omega
        go_wp2_with fail
        go_ret
        exact ⟨rfl, hK⟩
end Go.Proofs.Ytlnpipkhofhlnaa
