/-
  The reference's Minor.
-/
import Derived.Test.YtlnpipkhofhlnaaMa
import Derived.Test.YtlnpipkhofhlnaaDe
import Derived.Deep.RegionHeld3
namespace Go.Proofs.Ytlnpipkhofhlnaa
open Go.RowKit Go.Deep

def cutN (r k : Nat) : Nat := if r < k then k - 1 else k
theorem cutN_same (r : Nat) : cutN r (r + 1) = cutN r r := by unfold cutN; rw [if_pos (by omega), if_neg (by omega)]; omega
theorem cutN_step {r k : Nat} (h : k ≠ r) : cutN r (k + 1) = cutN r k + 1 := by
  unfold cutN
  by_cases e : r < k
  · rw [if_pos (by omega), if_pos e]; omega
  · rw [if_neg (by omega), if_neg e]
theorem cutN_skp {r k : Nat} (h : k ≠ r) : skp r (cutN r k) = k := by
  unfold cutN skp
  by_cases e : r < k
  · rw [if_pos e, if_neg (by omega)]; omega
  · rw [if_neg e, if_pos (by omega)]
theorem cutN_end {r N : Nat} (h : r < N) : cutN r N = N - 1 := if_pos h
theorem ints_minor (M : Nat → Nat → Int) {r c k N : Nat} (hk : k ≠ r) (hc : c < N) : ints (M k) c ++ ints (fun j => M k (c + 1 + j)) (N - 1 - c) = ints (minM M r c (cutN r k)) (N - 1) := by
  apply List.ext_getElem?
  intro i
  rw [List.getElem?_append]
  unfold minM
  rw [cutN_skp hk]
  unfold ints skp
  simp only [List.length_map, List.length_range, List.getElem?_map]
  by_cases e : i < c
  · rw [if_pos e, List.getElem?_range e, List.getElem?_range (show i < N - 1 by omega)]
    simp [e]
  · rw [if_neg e]
    by_cases e2 : i < N - 1
    · rw [List.getElem?_range (show i - c < N - 1 - c by omega), List.getElem?_range e2]
      simp only [Option.map_some, if_neg e]
      rw [show c + 1 + (i - c) = i + 1 by omega]
    · rw [List.getElem?_eq_none (by simp; omega), List.getElem?_eq_none (by simp; omega)]
      rfl
set_option maxRecDepth 100000 in
set_option maxHeartbeats 8000000 in
theorem minor_ref (w : World) (N r c : Nat) (mv : Value) (M : Nat → Nat → Int) (hM : MatAt w mv N N M) (hN : N ≤ 100) (hr : r < N) (hc : c < N) :
    Calls Try.prog 60 #[mv, .int .i64 r, .int .i64 c] w (TabPost w (N - 1) (N - 1) (minM M r c)) := by
  obtain ⟨us, ⟨ma, mb, mo, mcap, rfl, hma, hmc⟩, hrows⟩ := hM
  obtain rfl := hma (by omega)
  have HMC := Lib.hid hmc
  have HROWS := Lib.hid hrows
  obtain ⟨i0, hi, hz0, hz1, hz2⟩ := info_parts Try.info3
  obtain ⟨i1, hii, hy0, hy1, hy2⟩ := info_parts Try.infoInts
  have hO0 := own_zeroT w w.heap.size 25 1 (Nat.le_refl _)
  have hT0 := TabL.nil _ w.heap.size w.heap.size (N - 1) hO0
  have hK0 : Kept w (w.alloc (.cells #[] 25)) := (Kept.refl w).alloc _
  obtain ⟨R, HR⟩ : ∃ R, Hid (R = minM M r c) := ⟨_, rfl⟩
  rw [← HR.out]
  clear hO0 hmc hrows hma
  go_enter Try.func60, Try.ntmps60
  go_wp2_with fail
  generalize w.alloc (.cells #[] 25) = W0 at *
  go_loopg [7, 8] N (fun g s7 s8 wr => ∃ k : Nat, k ≤ N ∧ g = N - k ∧ s8 = .int .i64 (k : Int) ∧ Kept w wr ∧ TabL wr w.heap.size w.heap.size s7 (rowsL R (cutN r k)) (N - 1))
  case atStart => exact ⟨0, Nat.zero_le _, rfl, rfl, hK0, by unfold cutN; rw [if_neg (by omega)]; exact hT0⟩
  case round =>
    obtain ⟨k, hk, rfl, rfl, hK, hT⟩ := hrel
    clear hK0 hT0
    by_cases hlt : k < N
    · have s1 : (k : Int) < (N : Int) := by omega
      by_cases hkr : k = r
      · subst hkr
        have hT' : TabL wr w.heap.size w.heap.size u7 (rowsL R (cutN k (k + 1))) (N - 1) := by rw [cutN_same]; exact hT
        clear hT
        go_wp2_with fail
        go_roundg (N - (k + 1))
        case measure => omega
        case rel => exact ⟨k + 1, by omega, rfl, by go_num, hK, hT'⟩
      · have e1 : ((k : Int) != (r : Int)) = true := by simp; omega
        have e2 : ((k : Int) == (r : Int)) = false := by simp; omega
        have HKR := Lib.hid hkr
        have hN2 : 2 ≤ N := by omega
        obtain ⟨xb, xo, xcap, hux, hx1, hx2, hxc⟩ := HROWS.out k hlt
        have t0 := hK.cellSome (HMC.out k hlt)
        rw [hux] at t0
        have HXC := Lib.hid hxc
        have hcx : c ≤ xcap := by omega
        have hcN : c + 1 ≤ N := by omega
        have hcI : (c : Int) + 1 ≤ (N : Int) := by omega
        have hcT : ((c : Int) + 1).toNat = c + 1 := by omega
        have hcP : (0 : Int) ≤ (c : Int) + 1 := by omega
        have s2 : (0 : Int) ≤ (k : Int) := by omega
        have s3 : IntKind.i64.wrap ((c : Int) + 1) = (c : Int) + 1 := IntWalk.i64_in _ (by omega)
        obtain ⟨vs, hv1, hv2, hv3⟩ := hT
        rw [rowsL_len] at hv1 hv2
        obtain ⟨q, HQ⟩ : ∃ q, Hid (q = cutN r k) := ⟨_, rfl⟩
        have hqN : q ≤ 100 := by rw [HQ.out]; unfold cutN; split <;> omega
        rw [← HQ.out] at hv1 hv2 hv3
        have HV1 := Lib.hid hv1
        have hwk := Kept.size hK
        unfold maxLen at hx2
        clear hux hxc hkr hv1
        by_cases hxe : xcap = c + 1
        · subst hxe
          have hcc : (c : Int) ≤ (c : Int) + 1 := by omega
          go_wp2_with fail
          refine wp_region_held_drew (S := (fun w' => w'.cell? ⟨mb, mo + k, none⟩ = some (.slice (some ⟨xb, xo, none⟩) N (c + 1)) ∧ Kept w w')) (by kernel_rfl) ?_ (fun hHeld => ?_)
          · (try dsimp only)
            first | exact ⟨t0', hK7⟩ | exact ⟨Kept.cellSome (w := wr) (by repeat (first | assumption | exact Kept.refl _ | apply Kept.drew | apply Kept.drewN | apply Kept.alloc | refine Kept.trans ?_ (by assumption))) t0, (by repeat (first | assumption | exact Kept.refl _ | apply Kept.drew | apply Kept.drewN | apply Kept.alloc | refine Kept.trans ?_ (by assumption)))⟩
          refine wpAnyH_take (i := 0) (oi := { dst := some 19, op := Go.Op.move (Go.Operand.tmp 7), type := 63, pos := "ref.go:154", after := #[], guard := none }) (v := ?v1) rfl (by kernel_rfl) (by kernel_rfl) (by kernel_rfl) (fun _ _ _ h => h) (Or.inl ⟨by rfl, ?hy1⟩) (by assumption) ?rs1
          case hy1 =>
            intro w hSw
            (try dsimp only at hSw)
            go_simp
            try with_reducible rfl
          (try simp only [Act.put, List.setIfInBounds_toArray, List.set_cons_zero, List.set_cons_succ])
          refine wpAnyH_take (i := 2) (oi := { dst := some 21, op := Go.Op.move (Go.Operand.tmp 0), type := 63, pos := "ref.go:154", after := #[], guard := none }) (v := ?v2) rfl (by kernel_rfl) (by kernel_rfl) (by kernel_rfl) (fun _ _ _ h => h) (Or.inl ⟨by rfl, ?hy2⟩) (by assumption) ?rs2
          case hy2 =>
            intro w hSw
            (try dsimp only at hSw)
            go_simp
            try with_reducible rfl
          (try simp only [Act.put, List.setIfInBounds_toArray, List.set_cons_zero, List.set_cons_succ])
          refine wpAnyH_take (i := 3) (oi := { dst := some 22, op := Go.Op.move (Go.Operand.tmp 8), type := 3, pos := "ref.go:154", after := #[], guard := none }) (v := ?v3) rfl (by kernel_rfl) (by kernel_rfl) (by kernel_rfl) (fun _ _ _ h => h) (Or.inl ⟨by rfl, ?hy3⟩) (by assumption) ?rs3
          case hy3 =>
            intro w hSw
            (try dsimp only at hSw)
            go_simp
            try with_reducible rfl
          (try simp only [Act.put, List.setIfInBounds_toArray, List.set_cons_zero, List.set_cons_succ])
          refine wpAnyH_take (i := 4) (oi := { dst := some 23, op := Go.Op.indexAddr 63 (Go.Operand.tmp 21) (Go.Operand.tmp 22), type := 0, pos := "ref.go:154", after := #[{ on := 2, ground := Go.Ground.data }, { on := 3, ground := Go.Ground.data }], guard := none }) (v := ?v4) rfl (by kernel_rfl) (by kernel_rfl) (by kernel_rfl) (fun _ _ _ h => h) (Or.inl ⟨by rfl, ?hy4⟩) (by assumption) ?rs4
          case hy4 =>
            intro w hSw
            (try dsimp only at hSw)
            go_simp
            try with_reducible rfl
          (try simp only [Act.put, List.setIfInBounds_toArray, List.set_cons_zero, List.set_cons_succ])
          refine wpAnyH_take (i := 5) (oi := { dst := some 24, op := Go.Op.load 25 (Go.Operand.tmp 23), type := 25, pos := "ref.go:154", after := #[{ on := 4, ground := Go.Ground.data }], guard := none }) (v := ?v5) rfl (by kernel_rfl) (by kernel_rfl) (by kernel_rfl) (fun _ _ _ h => h) (Or.inl ⟨by rfl, ?hy5⟩) (by assumption) ?rs5
          case hy5 =>
            intro w hSw
            (try dsimp only at hSw)
            go_simp
            try with_reducible rfl
          (try simp only [Act.put, List.setIfInBounds_toArray, List.set_cons_zero, List.set_cons_succ])
          refine wpAnyH_take (i := 6) (oi := { dst := some 25, op := Go.Op.move (Go.Operand.tmp 2), type := 3, pos := "ref.go:154", after := #[], guard := none }) (v := ?v6) rfl (by kernel_rfl) (by kernel_rfl) (by kernel_rfl) (fun _ _ _ h => h) (Or.inl ⟨by rfl, ?hy6⟩) (by assumption) ?rs6
          case hy6 =>
            intro w hSw
            (try dsimp only at hSw)
            go_simp
            try with_reducible rfl
          (try simp only [Act.put, List.setIfInBounds_toArray, List.set_cons_zero, List.set_cons_succ])
          refine wpAnyH_take (i := 7) (oi := { dst := some 26, op := Go.Op.slice 25 (Go.Operand.tmp 24) none (some (Go.Operand.tmp 25)) none, type := 25, pos := "ref.go:154", after := #[{ on := 5, ground := Go.Ground.data }, { on := 6, ground := Go.Ground.data }], guard := none }) (v := ?v7) rfl (by kernel_rfl) (by kernel_rfl) (by kernel_rfl) (fun _ _ _ h => h) (Or.inl ⟨by rfl, ?hy7⟩) (by assumption) ?rs7
          case hy7 =>
            intro w hSw
            (try dsimp only at hSw)
            go_simp
            try with_reducible rfl
          (try simp only [Act.put, List.setIfInBounds_toArray, List.set_cons_zero, List.set_cons_succ])
          refine wpAnyH_take (i := 9) (oi := { dst := some 28, op := Go.Op.move (Go.Operand.tmp 0), type := 63, pos := "ref.go:154", after := #[], guard := none }) (v := ?v8) rfl (by kernel_rfl) (by kernel_rfl) (by kernel_rfl) (fun _ _ _ h => h) (Or.inl ⟨by rfl, ?hy8⟩) (by assumption) ?rs8
          case hy8 =>
            intro w hSw
            (try dsimp only at hSw)
            go_simp
            try with_reducible rfl
          (try simp only [Act.put, List.setIfInBounds_toArray, List.set_cons_zero, List.set_cons_succ])
          refine wpAnyH_take (i := 10) (oi := { dst := some 29, op := Go.Op.move (Go.Operand.tmp 8), type := 3, pos := "ref.go:154", after := #[], guard := none }) (v := ?v9) rfl (by kernel_rfl) (by kernel_rfl) (by kernel_rfl) (fun _ _ _ h => h) (Or.inl ⟨by rfl, ?hy9⟩) (by assumption) ?rs9
          case hy9 =>
            intro w hSw
            (try dsimp only at hSw)
            go_simp
            try with_reducible rfl
          (try simp only [Act.put, List.setIfInBounds_toArray, List.set_cons_zero, List.set_cons_succ])
          refine wpAnyH_take (i := 11) (oi := { dst := some 30, op := Go.Op.indexAddr 63 (Go.Operand.tmp 28) (Go.Operand.tmp 29), type := 0, pos := "ref.go:154", after := #[{ on := 9, ground := Go.Ground.data }, { on := 10, ground := Go.Ground.data }], guard := none }) (v := ?v10) rfl (by kernel_rfl) (by kernel_rfl) (by kernel_rfl) (fun _ _ _ h => h) (Or.inl ⟨by rfl, ?hy10⟩) (by assumption) ?rs10
          case hy10 =>
            intro w hSw
            (try dsimp only at hSw)
            go_simp
            try with_reducible rfl
          (try simp only [Act.put, List.setIfInBounds_toArray, List.set_cons_zero, List.set_cons_succ])
          refine wpAnyH_take (i := 12) (oi := { dst := some 31, op := Go.Op.load 25 (Go.Operand.tmp 30), type := 25, pos := "ref.go:154", after := #[{ on := 11, ground := Go.Ground.data }], guard := none }) (v := ?v11) rfl (by kernel_rfl) (by kernel_rfl) (by kernel_rfl) (fun _ _ _ h => h) (Or.inl ⟨by rfl, ?hy11⟩) (by assumption) ?rs11
          case hy11 =>
            intro w hSw
            (try dsimp only at hSw)
            go_simp
            try with_reducible rfl
          (try simp only [Act.put, List.setIfInBounds_toArray, List.set_cons_zero, List.set_cons_succ])
          refine wpAnyH_take (i := 13) (oi := { dst := some 32, op := Go.Op.move (Go.Operand.tmp 2), type := 3, pos := "ref.go:154", after := #[], guard := none }) (v := ?v12) rfl (by kernel_rfl) (by kernel_rfl) (by kernel_rfl) (fun _ _ _ h => h) (Or.inl ⟨by rfl, ?hy12⟩) (by assumption) ?rs12
          case hy12 =>
            intro w hSw
            (try dsimp only at hSw)
            go_simp
            try with_reducible rfl
          (try simp only [Act.put, List.setIfInBounds_toArray, List.set_cons_zero, List.set_cons_succ])
          refine wpAnyH_take (i := 14) (oi := { dst := some 33, op := Go.Op.binOp Go.BinOp.add 3 (Go.Operand.tmp 32) (Go.Operand.const (Go.Value.int Go.IntKind.i64 1)) 3, type := 3, pos := "ref.go:154", after := #[{ on := 13, ground := Go.Ground.data }], guard := none }) (v := ?v13) rfl (by kernel_rfl) (by kernel_rfl) (by kernel_rfl) (fun _ _ _ h => h) (Or.inl ⟨by rfl, ?hy13⟩) (by assumption) ?rs13
          case hy13 =>
            intro w hSw
            (try dsimp only at hSw)
            go_simp
            try with_reducible rfl
          (try simp only [Act.put, List.setIfInBounds_toArray, List.set_cons_zero, List.set_cons_succ])
          refine wpAnyH_take (i := 15) (oi := { dst := some 34, op := Go.Op.slice 25 (Go.Operand.tmp 31) (some (Go.Operand.tmp 33)) none none, type := 25, pos := "ref.go:154", after := #[{ on := 12, ground := Go.Ground.data }, { on := 14, ground := Go.Ground.data }], guard := none }) (v := ?v14) rfl (by kernel_rfl) (by kernel_rfl) (by kernel_rfl) (fun _ _ _ h => h) (Or.inl ⟨by rfl, ?hy14⟩) (by assumption) ?rs14
          case hy14 =>
            intro w hSw
            (try dsimp only at hSw)
            go_simp
            try with_reducible rfl
          (try simp only [Act.put, List.setIfInBounds_toArray, List.set_cons_zero, List.set_cons_succ])
          refine wpAnyH_ready (rs := [1]) (by kernel_rfl) (by simp) ?_
          refine AllReadyH.cons (o := { dst := some 20, op := Go.Op.buildSlice 25 0 #[], type := 25, pos := "ref.go:154", after := #[], guard := none }) rfl (fun K2 hK2 => ?_) AllReadyH.nil
          go_simp
          skip
          (try go_wp2_with fail)
          refine hK2.out _ _ ?_ (fun hHeld => ?_)
          · (try dsimp only)
            first | exact ⟨t0', hK7⟩ | exact ⟨Kept.cellSome (w := wr) (by repeat (first | assumption | exact Kept.refl _ | apply Kept.drew | apply Kept.drewN | apply Kept.alloc | refine Kept.trans ?_ (by assumption))) t0, (by repeat (first | assumption | exact Kept.refl _ | apply Kept.drew | apply Kept.drewN | apply Kept.alloc | refine Kept.trans ?_ (by assumption)))⟩
          clear hK2 K2
          (try simp only [Act.put, List.setIfInBounds_toArray, List.set_cons_zero, List.set_cons_succ])
          refine wpAnyH_ready (rs := [8]) (by kernel_rfl) (by simp) ?_
          refine AllReadyH.cons (o := { dst := some 27, op := Go.Op.call { callee := Go.Callee.builtin Go.Builtin.append, args := #[Go.Operand.tmp 20, Go.Operand.tmp 26], argTypes := #[25, 25] }, type := 25, pos := "ref.go:154", after := #[{ on := 1, ground := Go.Ground.data }, { on := 7, ground := Go.Ground.data }], guard := none }) rfl (fun K2 hK2 => ?_) AllReadyH.nil
          rw [if_pos (by rfl)]
          have hO1 : ((wr.alloc (.cells #[] 3)).drew).ownsRow wr.heap.size 3 1 (.slice (some ⟨wr.heap.size, 0, none⟩) 0 0) 0 [] := own_kept (own_zero wr wr.heap.size (Nat.le_refl _)) ((Kept.refl _).drew)
          have hk1 : Kept wr ((wr.alloc (.cells #[] 3)).drew) := ((Kept.refl _).alloc _).drew
          refine wp_append_own _ _ _ 25 rfl wr.heap.size 3 i0 (.int .i64 0) 1 8 Try.underlying25 hi hz0 hz1 hz2 rfl (by decide) _ _ _ rfl hO1 ⟨xb, xo, none⟩ c _ (ints (M k) c) rfl (by simp [ints]) (fun j u h => by obtain ⟨h1, rfl⟩ := ints_get h; rw [add_at]; exact hk1.cellSome (hK.cellSome (HXC.out j (by omega)))) (by intro u hu; simp [ints] at hu; obtain ⟨i, _, rfl⟩ := hu; rfl) (by unfold maxLen; omega) (by omega) (Kept.size hk1) ?_
          intro v27 w3 hO3 hgr3 _
          have hk3 : Kept wr w3 := hk1.step (grew_X hgr3 hO1) (fun i hi => hi)
          rw [Nat.zero_add, List.nil_append] at hO3
          clear hgr3
          refine hK2.out _ _ ?_ (fun hHeld => ?_)
          · (try dsimp only)
            first | exact ⟨t0', hK7⟩ | exact ⟨Kept.cellSome (w := wr) (by repeat (first | assumption | exact Kept.refl _ | apply Kept.drew | apply Kept.drewN | apply Kept.alloc | refine Kept.trans ?_ (by assumption))) t0, (by repeat (first | assumption | exact Kept.refl _ | apply Kept.drew | apply Kept.drewN | apply Kept.alloc | refine Kept.trans ?_ (by assumption)))⟩
          clear hK2 K2
          (try simp only [Act.put, List.setIfInBounds_toArray, List.set_cons_zero, List.set_cons_succ])
          refine wpAnyH_ready (rs := [16]) (by kernel_rfl) (by simp) ?_
          refine AllReadyH.cons (o := { dst := some 35, op := Go.Op.call { callee := Go.Callee.builtin Go.Builtin.append, args := #[Go.Operand.tmp 27, Go.Operand.tmp 34], argTypes := #[25, 25] }, type := 25, pos := "ref.go:154", after := #[{ on := 8, ground := Go.Ground.data }, { on := 15, ground := Go.Ground.data }, { on := 8, ground := Go.Ground.chain }], guard := none }) rfl (fun K2 hK2 => ?_) AllReadyH.nil
          rw [if_pos (by rfl)]
          refine wp_append_own _ _ _ 25 rfl wr.heap.size 3 i0 (.int .i64 0) 1 8 Try.underlying25 hi hz0 hz1 hz2 rfl (by decide) _ _ _ rfl hO3 ⟨xb, xo, none⟩ 0 _ (ints (fun j => M k (c + 1 + j)) (N - 1 - c)) rfl (by simp [ints]; omega) (fun j u h => by obtain ⟨h1, rfl⟩ := ints_get h; omega) (by intro u hu; simp [ints] at hu; obtain ⟨i, _, rfl⟩ := hu; rfl) (by unfold maxLen; omega) (by omega) (Kept.size hk3) ?_
          intro v35 w4 hO4 hgr4 _
          have hk4 : Kept wr w4 := hk3.step (grew_X hgr4 hO3) (fun i hi => hi)
          have hO5 : w4.ownsRow wr.heap.size 3 1 v35 (N - 1) (ints (minM M r c (cutN r k)) (N - 1)) := by
            rw [← ints_minor M HKR.out hc]
            have h := hO4
            rw [show c + 0 = N - 1 by omega] at h
            exact h
          rw [← HR.out, ← HQ.out] at hO5
          obtain ⟨b35, cap35, rfl, hb35, hl35⟩ := hO5.form (by omega)
          clear hO4 hgr4 hO3
          refine hK2.out _ _ ?_ (fun hHeld => ?_)
          · (try dsimp only)
            first | exact ⟨t0', hK7⟩ | exact ⟨Kept.cellSome (w := wr) (by repeat (first | assumption | exact Kept.refl _ | apply Kept.drew | apply Kept.drewN | apply Kept.alloc | refine Kept.trans ?_ (by assumption))) t0, (by repeat (first | assumption | exact Kept.refl _ | apply Kept.drew | apply Kept.drewN | apply Kept.alloc | refine Kept.trans ?_ (by assumption)))⟩
          clear hK2 K2
          (try simp only [Act.put, List.setIfInBounds_toArray, List.set_cons_zero, List.set_cons_succ])
          refine wpAnyH_ready (rs := [17]) (by kernel_rfl) (by simp) ?_
          refine AllReadyH.cons (o := { dst := some 36, op := Go.Op.buildSlice 63 1 #[(0, Go.Operand.tmp 35)], type := 63, pos := "ref.go:154", after := #[{ on := 16, ground := Go.Ground.data }], guard := none }) rfl (fun K2 hK2 => ?_) AllReadyH.nil
          go_simp
          skip
          (try go_wp2_with fail)
          refine hK2.out _ _ ?_ (fun hHeld => ?_)
          · (try dsimp only)
            first | exact ⟨t0', hK7⟩ | exact ⟨Kept.cellSome (w := wr) (by repeat (first | assumption | exact Kept.refl _ | apply Kept.drew | apply Kept.drewN | apply Kept.alloc | refine Kept.trans ?_ (by assumption))) t0, (by repeat (first | assumption | exact Kept.refl _ | apply Kept.drew | apply Kept.drewN | apply Kept.alloc | refine Kept.trans ?_ (by assumption)))⟩
          clear hK2 K2
          (try simp only [Act.put, List.setIfInBounds_toArray, List.set_cons_zero, List.set_cons_succ])
          refine wpAnyH_ready (rs := [18]) (by kernel_rfl) (by simp) ?_
          refine AllReadyH.cons (o := { dst := some 37, op := Go.Op.call { callee := Go.Callee.builtin Go.Builtin.append, args := #[Go.Operand.tmp 19, Go.Operand.tmp 36], argTypes := #[63, 63] }, type := 63, pos := "ref.go:154", after := #[{ on := 0, ground := Go.Ground.data }, { on := 17, ground := Go.Ground.data }, { on := 16, ground := Go.Ground.chain }], guard := none }) rfl (fun K2 hK2 => ?_) AllReadyH.nil
          rw [if_pos (by rfl)]
          have hk6 : Kept wr (w4.alloc (.cells #[.slice (some ⟨b35, 0, none⟩) (N - 1 : Nat) cap35] 25)) := hk4.alloc _
          have hV6 : (w4.alloc (.cells #[.slice (some ⟨b35, 0, none⟩) (N - 1 : Nat) cap35] 25)).ownsRow w.heap.size 25 1 u7 q vs := own_kept hv2 hk6
          refine wp_append_own _ _ _ 63 rfl w.heap.size 25 i1 (.slice none 0 0) 1 24 Try.underlying63 hii hy0 hy1 hy2 rfl (by decide) _ _ _ rfl hV6 ⟨w4.heap.size, 0, none⟩ 1 1 [.slice (some ⟨b35, 0, none⟩) (N - 1 : Nat) cap35] rfl rfl (cell_one_new w4 (.slice (some ⟨b35, 0, none⟩) (N - 1 : Nat) cap35) 25) (by simp [Value.oneCell']) (by unfold maxLen; omega) (by omega) (by have := Kept.size hk6; omega) ?_
          intro v37 w7 hO7 hgr7 _
          have hX7 := grew_X hgr7 hV6
          have hK7 : Kept w w7 := (hK.trans hk6).step hX7 (fun i hi => hi)
          have t0' : w7.cell? ⟨mb, mo + k, none⟩ = some (.slice (some ⟨xb, xo, none⟩) N (c + 1)) := by
            rw [World.cell?_of_block (hX7.block mb (Nat.lt_of_lt_of_le (World.block_lt_of_cell? _ _ t0) (Kept.size hk6)) (Nat.not_le.2 (World.block_lt_of_cell? _ _ (HMC.out k hlt))))]
            exact hk6.cellSome t0
          refine hK2.out _ _ ?_ (fun hHeld => ?_)
          · (try dsimp only)
            first | exact ⟨t0', hK7⟩ | exact ⟨Kept.cellSome (w := wr) (by repeat (first | assumption | exact Kept.refl _ | apply Kept.drew | apply Kept.drewN | apply Kept.alloc | refine Kept.trans ?_ (by assumption))) t0, (by repeat (first | assumption | exact Kept.refl _ | apply Kept.drew | apply Kept.drewN | apply Kept.alloc | refine Kept.trans ?_ (by assumption)))⟩
          clear hK2 K2
          (try simp only [Act.put, List.setIfInBounds_toArray, List.set_cons_zero, List.set_cons_succ])
          refine wpAnyH_take (i := 19) (oi := { dst := some 7, op := Go.Op.assign (Go.Operand.tmp 37), type := 63, pos := "ref.go:154", after := #[{ on := 18, ground := Go.Ground.data }, { on := 18, ground := Go.Ground.chain }, { on := 0, ground := Go.Ground.phase }, { on := 1, ground := Go.Ground.phase }, { on := 2, ground := Go.Ground.phase }, { on := 3, ground := Go.Ground.phase }, { on := 4, ground := Go.Ground.phase }, { on := 5, ground := Go.Ground.phase }, { on := 6, ground := Go.Ground.phase }, { on := 7, ground := Go.Ground.phase }, { on := 8, ground := Go.Ground.phase }, { on := 9, ground := Go.Ground.phase }, { on := 10, ground := Go.Ground.phase }, { on := 11, ground := Go.Ground.phase }, { on := 12, ground := Go.Ground.phase }, { on := 13, ground := Go.Ground.phase }, { on := 14, ground := Go.Ground.phase }, { on := 15, ground := Go.Ground.phase }, { on := 16, ground := Go.Ground.phase }, { on := 17, ground := Go.Ground.phase }, { on := 18, ground := Go.Ground.phase }], guard := none }) (v := ?v15) rfl (by kernel_rfl) (by kernel_rfl) (by kernel_rfl) (fun _ _ _ h => h) (Or.inl ⟨by rfl, ?hy15⟩) (by assumption) ?rs15
          case hy15 =>
            intro w hSw
            (try dsimp only at hSw)
            go_simp
            try with_reducible rfl
          (try simp only [Act.put, List.setIfInBounds_toArray, List.set_cons_zero, List.set_cons_succ])
          refine wpAnyH_done (by kernel_rfl) ?_ _
          go_wp2_with fail
          have hT7 : TabL w7 w.heap.size w.heap.size v37 (rowsL R (cutN r (k + 1))) (N - 1) := by
            rw [cutN_step HKR.out, rowsL_succ, ← HQ.out]
            refine TabL.grow (by rw [rowsL_len]; exact HV1.out) (by rw [rowsL_len]; exact hV6) (fun i x hx => ?_) (own_base (own_kept hO5 ((Kept.refl w4).alloc _)) hwk) (by rw [rowsL_len]; exact hO7) hgr7
            obtain ⟨u, h4, h5⟩ := hv3 i x hx
            exact ⟨u, h4, own_kept h5 hk6⟩
          clear hO7 hgr7 hX7 hv2 hv3 hk6 hV6 hO5 t0 hK
          go_wp2_with fail
          go_roundg (N - (k + 1))
          case measure => omega
          case rel => exact ⟨k + 1, by omega, rfl, by go_num, hK7, hT7⟩
        · go_wp2_with fail
          refine wp_region_held_drew (S := (fun w' => w'.cell? ⟨mb, mo + k, none⟩ = some (.slice (some ⟨xb, xo, none⟩) N (xcap)) ∧ Kept w w')) (by kernel_rfl) ?_ (fun hHeld => ?_)
          · (try dsimp only)
            first | exact ⟨t0', hK7⟩ | exact ⟨Kept.cellSome (w := wr) (by repeat (first | assumption | exact Kept.refl _ | apply Kept.drew | apply Kept.drewN | apply Kept.alloc | refine Kept.trans ?_ (by assumption))) t0, (by repeat (first | assumption | exact Kept.refl _ | apply Kept.drew | apply Kept.drewN | apply Kept.alloc | refine Kept.trans ?_ (by assumption)))⟩
          refine wpAnyH_take (i := 0) (oi := { dst := some 19, op := Go.Op.move (Go.Operand.tmp 7), type := 63, pos := "ref.go:154", after := #[], guard := none }) (v := ?v16) rfl (by kernel_rfl) (by kernel_rfl) (by kernel_rfl) (fun _ _ _ h => h) (Or.inl ⟨by rfl, ?hy16⟩) (by assumption) ?rs16
          case hy16 =>
            intro w hSw
            (try dsimp only at hSw)
            go_simp
            try with_reducible rfl
          (try simp only [Act.put, List.setIfInBounds_toArray, List.set_cons_zero, List.set_cons_succ])
          refine wpAnyH_take (i := 2) (oi := { dst := some 21, op := Go.Op.move (Go.Operand.tmp 0), type := 63, pos := "ref.go:154", after := #[], guard := none }) (v := ?v17) rfl (by kernel_rfl) (by kernel_rfl) (by kernel_rfl) (fun _ _ _ h => h) (Or.inl ⟨by rfl, ?hy17⟩) (by assumption) ?rs17
          case hy17 =>
            intro w hSw
            (try dsimp only at hSw)
            go_simp
            try with_reducible rfl
          (try simp only [Act.put, List.setIfInBounds_toArray, List.set_cons_zero, List.set_cons_succ])
          refine wpAnyH_take (i := 3) (oi := { dst := some 22, op := Go.Op.move (Go.Operand.tmp 8), type := 3, pos := "ref.go:154", after := #[], guard := none }) (v := ?v18) rfl (by kernel_rfl) (by kernel_rfl) (by kernel_rfl) (fun _ _ _ h => h) (Or.inl ⟨by rfl, ?hy18⟩) (by assumption) ?rs18
          case hy18 =>
            intro w hSw
            (try dsimp only at hSw)
            go_simp
            try with_reducible rfl
          (try simp only [Act.put, List.setIfInBounds_toArray, List.set_cons_zero, List.set_cons_succ])
          refine wpAnyH_take (i := 4) (oi := { dst := some 23, op := Go.Op.indexAddr 63 (Go.Operand.tmp 21) (Go.Operand.tmp 22), type := 0, pos := "ref.go:154", after := #[{ on := 2, ground := Go.Ground.data }, { on := 3, ground := Go.Ground.data }], guard := none }) (v := ?v19) rfl (by kernel_rfl) (by kernel_rfl) (by kernel_rfl) (fun _ _ _ h => h) (Or.inl ⟨by rfl, ?hy19⟩) (by assumption) ?rs19
          case hy19 =>
            intro w hSw
            (try dsimp only at hSw)
            go_simp
            try with_reducible rfl
          (try simp only [Act.put, List.setIfInBounds_toArray, List.set_cons_zero, List.set_cons_succ])
          refine wpAnyH_take (i := 5) (oi := { dst := some 24, op := Go.Op.load 25 (Go.Operand.tmp 23), type := 25, pos := "ref.go:154", after := #[{ on := 4, ground := Go.Ground.data }], guard := none }) (v := ?v20) rfl (by kernel_rfl) (by kernel_rfl) (by kernel_rfl) (fun _ _ _ h => h) (Or.inl ⟨by rfl, ?hy20⟩) (by assumption) ?rs20
          case hy20 =>
            intro w hSw
            (try dsimp only at hSw)
            go_simp
            try with_reducible rfl
          (try simp only [Act.put, List.setIfInBounds_toArray, List.set_cons_zero, List.set_cons_succ])
          refine wpAnyH_take (i := 6) (oi := { dst := some 25, op := Go.Op.move (Go.Operand.tmp 2), type := 3, pos := "ref.go:154", after := #[], guard := none }) (v := ?v21) rfl (by kernel_rfl) (by kernel_rfl) (by kernel_rfl) (fun _ _ _ h => h) (Or.inl ⟨by rfl, ?hy21⟩) (by assumption) ?rs21
          case hy21 =>
            intro w hSw
            (try dsimp only at hSw)
            go_simp
            try with_reducible rfl
          (try simp only [Act.put, List.setIfInBounds_toArray, List.set_cons_zero, List.set_cons_succ])
          refine wpAnyH_take (i := 7) (oi := { dst := some 26, op := Go.Op.slice 25 (Go.Operand.tmp 24) none (some (Go.Operand.tmp 25)) none, type := 25, pos := "ref.go:154", after := #[{ on := 5, ground := Go.Ground.data }, { on := 6, ground := Go.Ground.data }], guard := none }) (v := ?v22) rfl (by kernel_rfl) (by kernel_rfl) (by kernel_rfl) (fun _ _ _ h => h) (Or.inl ⟨by rfl, ?hy22⟩) (by assumption) ?rs22
          case hy22 =>
            intro w hSw
            (try dsimp only at hSw)
            go_simp
            try with_reducible rfl
          (try simp only [Act.put, List.setIfInBounds_toArray, List.set_cons_zero, List.set_cons_succ])
          refine wpAnyH_take (i := 9) (oi := { dst := some 28, op := Go.Op.move (Go.Operand.tmp 0), type := 63, pos := "ref.go:154", after := #[], guard := none }) (v := ?v23) rfl (by kernel_rfl) (by kernel_rfl) (by kernel_rfl) (fun _ _ _ h => h) (Or.inl ⟨by rfl, ?hy23⟩) (by assumption) ?rs23
          case hy23 =>
            intro w hSw
            (try dsimp only at hSw)
            go_simp
            try with_reducible rfl
          (try simp only [Act.put, List.setIfInBounds_toArray, List.set_cons_zero, List.set_cons_succ])
          refine wpAnyH_take (i := 10) (oi := { dst := some 29, op := Go.Op.move (Go.Operand.tmp 8), type := 3, pos := "ref.go:154", after := #[], guard := none }) (v := ?v24) rfl (by kernel_rfl) (by kernel_rfl) (by kernel_rfl) (fun _ _ _ h => h) (Or.inl ⟨by rfl, ?hy24⟩) (by assumption) ?rs24
          case hy24 =>
            intro w hSw
            (try dsimp only at hSw)
            go_simp
            try with_reducible rfl
          (try simp only [Act.put, List.setIfInBounds_toArray, List.set_cons_zero, List.set_cons_succ])
          refine wpAnyH_take (i := 11) (oi := { dst := some 30, op := Go.Op.indexAddr 63 (Go.Operand.tmp 28) (Go.Operand.tmp 29), type := 0, pos := "ref.go:154", after := #[{ on := 9, ground := Go.Ground.data }, { on := 10, ground := Go.Ground.data }], guard := none }) (v := ?v25) rfl (by kernel_rfl) (by kernel_rfl) (by kernel_rfl) (fun _ _ _ h => h) (Or.inl ⟨by rfl, ?hy25⟩) (by assumption) ?rs25
          case hy25 =>
            intro w hSw
            (try dsimp only at hSw)
            go_simp
            try with_reducible rfl
          (try simp only [Act.put, List.setIfInBounds_toArray, List.set_cons_zero, List.set_cons_succ])
          refine wpAnyH_take (i := 12) (oi := { dst := some 31, op := Go.Op.load 25 (Go.Operand.tmp 30), type := 25, pos := "ref.go:154", after := #[{ on := 11, ground := Go.Ground.data }], guard := none }) (v := ?v26) rfl (by kernel_rfl) (by kernel_rfl) (by kernel_rfl) (fun _ _ _ h => h) (Or.inl ⟨by rfl, ?hy26⟩) (by assumption) ?rs26
          case hy26 =>
            intro w hSw
            (try dsimp only at hSw)
            go_simp
            try with_reducible rfl
          (try simp only [Act.put, List.setIfInBounds_toArray, List.set_cons_zero, List.set_cons_succ])
          refine wpAnyH_take (i := 13) (oi := { dst := some 32, op := Go.Op.move (Go.Operand.tmp 2), type := 3, pos := "ref.go:154", after := #[], guard := none }) (v := ?v27) rfl (by kernel_rfl) (by kernel_rfl) (by kernel_rfl) (fun _ _ _ h => h) (Or.inl ⟨by rfl, ?hy27⟩) (by assumption) ?rs27
          case hy27 =>
            intro w hSw
            (try dsimp only at hSw)
            go_simp
            try with_reducible rfl
          (try simp only [Act.put, List.setIfInBounds_toArray, List.set_cons_zero, List.set_cons_succ])
          refine wpAnyH_take (i := 14) (oi := { dst := some 33, op := Go.Op.binOp Go.BinOp.add 3 (Go.Operand.tmp 32) (Go.Operand.const (Go.Value.int Go.IntKind.i64 1)) 3, type := 3, pos := "ref.go:154", after := #[{ on := 13, ground := Go.Ground.data }], guard := none }) (v := ?v28) rfl (by kernel_rfl) (by kernel_rfl) (by kernel_rfl) (fun _ _ _ h => h) (Or.inl ⟨by rfl, ?hy28⟩) (by assumption) ?rs28
          case hy28 =>
            intro w hSw
            (try dsimp only at hSw)
            go_simp
            try with_reducible rfl
          (try simp only [Act.put, List.setIfInBounds_toArray, List.set_cons_zero, List.set_cons_succ])
          refine wpAnyH_take (i := 15) (oi := { dst := some 34, op := Go.Op.slice 25 (Go.Operand.tmp 31) (some (Go.Operand.tmp 33)) none none, type := 25, pos := "ref.go:154", after := #[{ on := 12, ground := Go.Ground.data }, { on := 14, ground := Go.Ground.data }], guard := none }) (v := ?v29) rfl (by kernel_rfl) (by kernel_rfl) (by kernel_rfl) (fun _ _ _ h => h) (Or.inl ⟨by rfl, ?hy29⟩) (by assumption) ?rs29
          case hy29 =>
            intro w hSw
            (try dsimp only at hSw)
            go_simp
            try with_reducible rfl
          (try simp only [Act.put, List.setIfInBounds_toArray, List.set_cons_zero, List.set_cons_succ])
          refine wpAnyH_ready (rs := [1]) (by kernel_rfl) (by simp) ?_
          refine AllReadyH.cons (o := { dst := some 20, op := Go.Op.buildSlice 25 0 #[], type := 25, pos := "ref.go:154", after := #[], guard := none }) rfl (fun K2 hK2 => ?_) AllReadyH.nil
          go_simp
          skip
          (try go_wp2_with fail)
          refine hK2.out _ _ ?_ (fun hHeld => ?_)
          · (try dsimp only)
            first | exact ⟨t0', hK7⟩ | exact ⟨Kept.cellSome (w := wr) (by repeat (first | assumption | exact Kept.refl _ | apply Kept.drew | apply Kept.drewN | apply Kept.alloc | refine Kept.trans ?_ (by assumption))) t0, (by repeat (first | assumption | exact Kept.refl _ | apply Kept.drew | apply Kept.drewN | apply Kept.alloc | refine Kept.trans ?_ (by assumption)))⟩
          clear hK2 K2
          (try simp only [Act.put, List.setIfInBounds_toArray, List.set_cons_zero, List.set_cons_succ])
          refine wpAnyH_ready (rs := [8]) (by kernel_rfl) (by simp) ?_
          refine AllReadyH.cons (o := { dst := some 27, op := Go.Op.call { callee := Go.Callee.builtin Go.Builtin.append, args := #[Go.Operand.tmp 20, Go.Operand.tmp 26], argTypes := #[25, 25] }, type := 25, pos := "ref.go:154", after := #[{ on := 1, ground := Go.Ground.data }, { on := 7, ground := Go.Ground.data }], guard := none }) rfl (fun K2 hK2 => ?_) AllReadyH.nil
          rw [if_pos (by rfl)]
          have hO1 : ((wr.alloc (.cells #[] 3)).drew).ownsRow wr.heap.size 3 1 (.slice (some ⟨wr.heap.size, 0, none⟩) 0 0) 0 [] := own_kept (own_zero wr wr.heap.size (Nat.le_refl _)) ((Kept.refl _).drew)
          have hk1 : Kept wr ((wr.alloc (.cells #[] 3)).drew) := ((Kept.refl _).alloc _).drew
          refine wp_append_own _ _ _ 25 rfl wr.heap.size 3 i0 (.int .i64 0) 1 8 Try.underlying25 hi hz0 hz1 hz2 rfl (by decide) _ _ _ rfl hO1 ⟨xb, xo, none⟩ c _ (ints (M k) c) rfl (by simp [ints]) (fun j u h => by obtain ⟨h1, rfl⟩ := ints_get h; rw [add_at]; exact hk1.cellSome (hK.cellSome (HXC.out j (by omega)))) (by intro u hu; simp [ints] at hu; obtain ⟨i, _, rfl⟩ := hu; rfl) (by unfold maxLen; omega) (by omega) (Kept.size hk1) ?_
          intro v27 w3 hO3 hgr3 _
          have hk3 : Kept wr w3 := hk1.step (grew_X hgr3 hO1) (fun i hi => hi)
          rw [Nat.zero_add, List.nil_append] at hO3
          clear hgr3
          refine hK2.out _ _ ?_ (fun hHeld => ?_)
          · (try dsimp only)
            first | exact ⟨t0', hK7⟩ | exact ⟨Kept.cellSome (w := wr) (by repeat (first | assumption | exact Kept.refl _ | apply Kept.drew | apply Kept.drewN | apply Kept.alloc | refine Kept.trans ?_ (by assumption))) t0, (by repeat (first | assumption | exact Kept.refl _ | apply Kept.drew | apply Kept.drewN | apply Kept.alloc | refine Kept.trans ?_ (by assumption)))⟩
          clear hK2 K2
          (try simp only [Act.put, List.setIfInBounds_toArray, List.set_cons_zero, List.set_cons_succ])
          refine wpAnyH_ready (rs := [16]) (by kernel_rfl) (by simp) ?_
          refine AllReadyH.cons (o := { dst := some 35, op := Go.Op.call { callee := Go.Callee.builtin Go.Builtin.append, args := #[Go.Operand.tmp 27, Go.Operand.tmp 34], argTypes := #[25, 25] }, type := 25, pos := "ref.go:154", after := #[{ on := 8, ground := Go.Ground.data }, { on := 15, ground := Go.Ground.data }, { on := 8, ground := Go.Ground.chain }], guard := none }) rfl (fun K2 hK2 => ?_) AllReadyH.nil
          rw [if_pos (by rfl)]
          refine wp_append_own _ _ _ 25 rfl wr.heap.size 3 i0 (.int .i64 0) 1 8 Try.underlying25 hi hz0 hz1 hz2 rfl (by decide) _ _ _ rfl hO3 ⟨xb, xo + (c + 1), none⟩ (N - (c + 1)) _ (ints (fun j => M k (c + 1 + j)) (N - 1 - c)) rfl (by simp [ints]; omega) (fun j u h => by obtain ⟨h1, rfl⟩ := ints_get h; rw [add_at, Nat.add_assoc]; exact hk3.cellSome (hK.cellSome (HXC.out _ (by omega)))) (by intro u hu; simp [ints] at hu; obtain ⟨i, _, rfl⟩ := hu; rfl) (by unfold maxLen; omega) (by omega) (Kept.size hk3) ?_
          intro v35 w4 hO4 hgr4 _
          have hk4 : Kept wr w4 := hk3.step (grew_X hgr4 hO3) (fun i hi => hi)
          have hO5 : w4.ownsRow wr.heap.size 3 1 v35 (N - 1) (ints (minM M r c (cutN r k)) (N - 1)) := by
            rw [← ints_minor M HKR.out hc]
            have h := hO4
            rw [show c + (N - (c + 1)) = N - 1 by omega] at h
            exact h
          rw [← HR.out, ← HQ.out] at hO5
          obtain ⟨b35, cap35, rfl, hb35, hl35⟩ := hO5.form (by omega)
          clear hO4 hgr4 hO3
          refine hK2.out _ _ ?_ (fun hHeld => ?_)
          · (try dsimp only)
            first | exact ⟨t0', hK7⟩ | exact ⟨Kept.cellSome (w := wr) (by repeat (first | assumption | exact Kept.refl _ | apply Kept.drew | apply Kept.drewN | apply Kept.alloc | refine Kept.trans ?_ (by assumption))) t0, (by repeat (first | assumption | exact Kept.refl _ | apply Kept.drew | apply Kept.drewN | apply Kept.alloc | refine Kept.trans ?_ (by assumption)))⟩
          clear hK2 K2
          (try simp only [Act.put, List.setIfInBounds_toArray, List.set_cons_zero, List.set_cons_succ])
          refine wpAnyH_ready (rs := [17]) (by kernel_rfl) (by simp) ?_
          refine AllReadyH.cons (o := { dst := some 36, op := Go.Op.buildSlice 63 1 #[(0, Go.Operand.tmp 35)], type := 63, pos := "ref.go:154", after := #[{ on := 16, ground := Go.Ground.data }], guard := none }) rfl (fun K2 hK2 => ?_) AllReadyH.nil
          go_simp
          skip
          (try go_wp2_with fail)
          refine hK2.out _ _ ?_ (fun hHeld => ?_)
          · (try dsimp only)
            first | exact ⟨t0', hK7⟩ | exact ⟨Kept.cellSome (w := wr) (by repeat (first | assumption | exact Kept.refl _ | apply Kept.drew | apply Kept.drewN | apply Kept.alloc | refine Kept.trans ?_ (by assumption))) t0, (by repeat (first | assumption | exact Kept.refl _ | apply Kept.drew | apply Kept.drewN | apply Kept.alloc | refine Kept.trans ?_ (by assumption)))⟩
          clear hK2 K2
          (try simp only [Act.put, List.setIfInBounds_toArray, List.set_cons_zero, List.set_cons_succ])
          refine wpAnyH_ready (rs := [18]) (by kernel_rfl) (by simp) ?_
          refine AllReadyH.cons (o := { dst := some 37, op := Go.Op.call { callee := Go.Callee.builtin Go.Builtin.append, args := #[Go.Operand.tmp 19, Go.Operand.tmp 36], argTypes := #[63, 63] }, type := 63, pos := "ref.go:154", after := #[{ on := 0, ground := Go.Ground.data }, { on := 17, ground := Go.Ground.data }, { on := 16, ground := Go.Ground.chain }], guard := none }) rfl (fun K2 hK2 => ?_) AllReadyH.nil
          rw [if_pos (by rfl)]
          have hk6 : Kept wr (w4.alloc (.cells #[.slice (some ⟨b35, 0, none⟩) (N - 1 : Nat) cap35] 25)) := hk4.alloc _
          have hV6 : (w4.alloc (.cells #[.slice (some ⟨b35, 0, none⟩) (N - 1 : Nat) cap35] 25)).ownsRow w.heap.size 25 1 u7 q vs := own_kept hv2 hk6
          refine wp_append_own _ _ _ 63 rfl w.heap.size 25 i1 (.slice none 0 0) 1 24 Try.underlying63 hii hy0 hy1 hy2 rfl (by decide) _ _ _ rfl hV6 ⟨w4.heap.size, 0, none⟩ 1 1 [.slice (some ⟨b35, 0, none⟩) (N - 1 : Nat) cap35] rfl rfl (cell_one_new w4 (.slice (some ⟨b35, 0, none⟩) (N - 1 : Nat) cap35) 25) (by simp [Value.oneCell']) (by unfold maxLen; omega) (by omega) (by have := Kept.size hk6; omega) ?_
          intro v37 w7 hO7 hgr7 _
          have hX7 := grew_X hgr7 hV6
          have hK7 : Kept w w7 := (hK.trans hk6).step hX7 (fun i hi => hi)
          have t0' : w7.cell? ⟨mb, mo + k, none⟩ = some (.slice (some ⟨xb, xo, none⟩) N (xcap)) := by
            rw [World.cell?_of_block (hX7.block mb (Nat.lt_of_lt_of_le (World.block_lt_of_cell? _ _ t0) (Kept.size hk6)) (Nat.not_le.2 (World.block_lt_of_cell? _ _ (HMC.out k hlt))))]
            exact hk6.cellSome t0
          refine hK2.out _ _ ?_ (fun hHeld => ?_)
          · (try dsimp only)
            first | exact ⟨t0', hK7⟩ | exact ⟨Kept.cellSome (w := wr) (by repeat (first | assumption | exact Kept.refl _ | apply Kept.drew | apply Kept.drewN | apply Kept.alloc | refine Kept.trans ?_ (by assumption))) t0, (by repeat (first | assumption | exact Kept.refl _ | apply Kept.drew | apply Kept.drewN | apply Kept.alloc | refine Kept.trans ?_ (by assumption)))⟩
          clear hK2 K2
          (try simp only [Act.put, List.setIfInBounds_toArray, List.set_cons_zero, List.set_cons_succ])
          refine wpAnyH_take (i := 19) (oi := { dst := some 7, op := Go.Op.assign (Go.Operand.tmp 37), type := 63, pos := "ref.go:154", after := #[{ on := 18, ground := Go.Ground.data }, { on := 18, ground := Go.Ground.chain }, { on := 0, ground := Go.Ground.phase }, { on := 1, ground := Go.Ground.phase }, { on := 2, ground := Go.Ground.phase }, { on := 3, ground := Go.Ground.phase }, { on := 4, ground := Go.Ground.phase }, { on := 5, ground := Go.Ground.phase }, { on := 6, ground := Go.Ground.phase }, { on := 7, ground := Go.Ground.phase }, { on := 8, ground := Go.Ground.phase }, { on := 9, ground := Go.Ground.phase }, { on := 10, ground := Go.Ground.phase }, { on := 11, ground := Go.Ground.phase }, { on := 12, ground := Go.Ground.phase }, { on := 13, ground := Go.Ground.phase }, { on := 14, ground := Go.Ground.phase }, { on := 15, ground := Go.Ground.phase }, { on := 16, ground := Go.Ground.phase }, { on := 17, ground := Go.Ground.phase }, { on := 18, ground := Go.Ground.phase }], guard := none }) (v := ?v30) rfl (by kernel_rfl) (by kernel_rfl) (by kernel_rfl) (fun _ _ _ h => h) (Or.inl ⟨by rfl, ?hy30⟩) (by assumption) ?rs30
          case hy30 =>
            intro w hSw
            (try dsimp only at hSw)
            go_simp
            try with_reducible rfl
          (try simp only [Act.put, List.setIfInBounds_toArray, List.set_cons_zero, List.set_cons_succ])
          refine wpAnyH_done (by kernel_rfl) ?_ _
          go_wp2_with fail
          have hT7 : TabL w7 w.heap.size w.heap.size v37 (rowsL R (cutN r (k + 1))) (N - 1) := by
            rw [cutN_step HKR.out, rowsL_succ, ← HQ.out]
            refine TabL.grow (by rw [rowsL_len]; exact HV1.out) (by rw [rowsL_len]; exact hV6) (fun i x hx => ?_) (own_base (own_kept hO5 ((Kept.refl w4).alloc _)) hwk) (by rw [rowsL_len]; exact hO7) hgr7
            obtain ⟨u, h4, h5⟩ := hv3 i x hx
            exact ⟨u, h4, own_kept h5 hk6⟩
          clear hO7 hgr7 hX7 hv2 hv3 hk6 hV6 hO5 t0 hK
          go_wp2_with fail
          go_roundg (N - (k + 1))
          case measure => omega
          case rel => exact ⟨k + 1, by omega, rfl, by go_num, hK7, hT7⟩
    · obtain rfl : k = N := by omega
      rw [cutN_end hr] at hT
      go_wp2_with fail
      go_ret
      exact ⟨_, rfl, hK, hT⟩
end Go.Proofs.Ytlnpipkhofhlnaa
