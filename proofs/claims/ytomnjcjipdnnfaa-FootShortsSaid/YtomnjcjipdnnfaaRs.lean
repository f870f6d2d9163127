/-
  The reference's Short.
-/
import Derived.Test.YtomnjcjipdnnfaaJo
import Derived.Test.YtomnjcjipdnnfaaSt
namespace Go.Proofs.Ytomnjcjipdnnfaa
open Go.RowKit Go.Deep

/-- v is one more than the least so far of those after c, or above n -/
def MinR (n : Nat) (J : Nat → Nat → Prop) (F : Nat → Nat) (c j v : Nat) : Prop := (∀ p, c < p → p < j → J c p → v ≤ F p + 2) ∧ (v ≤ n → ∃ p, c < p ∧ p < j ∧ J c p ∧ v = F p + 2) ∧ v ≤ n + 1
theorem minR_few {n : Nat} {J : Nat → Nat → Prop} {F : Nat → Nat} {c v : Nat} (hc : c + 1 < n) (hF : FewAt n J F (c + 1)) (hone : ∀ i, i + 1 < n → J i (i + 1)) (h : MinR n J F c n v) : 1 ≤ v ∧ FewAt n J (fun i => if i = c then v - 1 else F i) c := by
  have h1 := h.1 (c + 1) (by omega) hc (hone c hc)
  have h2 := few_lt hF hone (n - 1 - (c + 1)) (c + 1) (Nat.le_refl _) (by omega)
  obtain ⟨p, p1, p2, p3, p4⟩ := h.2.1 (by omega)
  exact ⟨by omega, min_few hc hF ⟨⟨p, p1, p2, p3, by omega⟩, fun q q1 q2 q3 => by have := h.1 q q1 q2 q3; omega⟩⟩
set_option maxRecDepth 100000 in
set_option maxHeartbeats 16000000 in
theorem rShort_any (w : World) (n cap1 : Nat) (a1 : Option Addr) (A B : Nat → Int) (lim : Int) (hA : PairsAt w (.slice a1 n cap1) n A B) (hR : InR n A B) (hn : 1 ≤ n) (hn2 : n ≤ 1000) (hl : 0 ≤ lim) :
    Calls Try.prog 33 #[.slice a1 n cap1, .int .i64 lim] w (ShortPost w n (SkipsAt A B lim)) := by
  obtain ⟨i0, hi, hz0, hz1, hz2⟩ := info_parts Try.info3
  have hmk := fun W => mkInts (n : Int) n rfl (by omega) W
  have hrow := row_made_set w (.int .i64 0) (.int .i64 1) n (n - 1) 3
  have hrow0 := (World.rowIs_made w (.int .i64 0) n 3).cell (i := n - 1) (by omega)
  have hrow1 := (World.rowIs_made w (.int .i64 0) n 3).frozen (n - 1)
  have HR := Lib.hid hR
  have HL := Lib.hid hl
  have hone : Hid (∀ i, i + 1 < n → SkipsAt A B lim i (i + 1)) := fun i _ => skips_one i
  have h0 : FewAt n (SkipsAt A B lim) (fun _ => 0) (n - 1) := ⟨rfl, fun i h1 h2 => by omega, fun i j h1 h2 h3 => by omega⟩
  have HH0 := Lib.hid h0
  have en : (n : Int) - 1 = ((n - 1 : Nat) : Int) := by omega
  have sn0 : ((n - 1 : Nat) : Int) < (n : Int) := by omega
  clear hR h0 hl
  go_enter Try.func33, Try.ntmps33
  go_wp2_with fail
  obtain ⟨r, HRR⟩ : ∃ r, Hid (r = w.heap.size) := ⟨_, rfl⟩
  have hrs : Hid (w.heap.size ≤ r) := by rw [HRR.out]; exact Nat.le_refl _
  have hk0 : Kept w (w.alloc (.cells ((madeCells #[.int .i64 0] n).setIfInBounds (n - 1) (.int .i64 1)) 3)) := (Kept.refl w).alloc _
  have hrow2 := hrow.congr (g := fun i => .int .i64 ((if i = n - 1 then 1 else 0 : Nat) : Int)) (fun j _ => by
    by_cases e : j = n - 1
    · simp [e]
    · simp [e])
  rw [← HRR.out] at hrow2 ⊢
  generalize w.alloc (.cells ((madeCells #[.int .i64 0] n).setIfInBounds (n - 1) (.int .i64 1)) 3) = W0 at *
  clear hmk hrow hrow0 hrow1
  have hG0 : Hid (∀ i, n - 1 - 0 ≤ i → i < n → (if i = n - 1 then 1 else 0) = (fun _ : Nat => 0) i + 1) := fun i h1 h2 => by rw [if_pos (by omega)]
  go_loopg [7] n (fun g s7 wr => ∃ (t : Nat) (F G : Nat → Nat), t + 1 ≤ n ∧ g = n - t ∧ s7 = .int .i64 ((n : Int) - 2 - t) ∧ Kept w wr ∧ wr.rowIs r 3 n (fun i => .int .i64 (G i)) ∧ Hid (FewAt n (SkipsAt A B lim) F (n - 1 - t)) ∧ Hid (∀ i, n - 1 - t ≤ i → i < n → G i = F i + 1))
  case atStart => exact ⟨0, fun _ => 0, fun i => if i = n - 1 then 1 else 0, by omega, rfl, by go_num, hk0, hrow2, HH0.out, hG0.out⟩
  case round =>
    obtain ⟨t, F, G, ht, rfl, rfl, hK, hrw, hF, hG⟩ := hrel
    clear HH0 hrow2 hk0 hG0
    by_cases hlt : t + 1 < n
    · obtain ⟨c, hc⟩ : ∃ c, c = n - 2 - t := ⟨_, rfl⟩
      have ec : (n : Int) - 2 - (t : Int) = (c : Int) := by omega
      have t0 := hrw.cell (i := c) (by omega)
      have t1 := hrw.frozen c
      have s1 : (0 : Int) ≤ (c : Int) := by omega
      have s2 : (c : Int) < (n : Int) := by omega
      have HC := Lib.hid hc
      rw [ec]
      clear hc ec
      go_wp2_with fail
      have hset := (hrw.set c (.int .i64 ((n : Int) + 1))).congr (g := fun i => .int .i64 ((if i = c then n + 1 else G i : Nat) : Int)) (fun j hj => by
        by_cases e : j = c
        · subst e; simp
        · simp [e])
      have hkS : Kept w (wr.setCell ⟨r, c, none⟩ (.int .i64 ((n : Int) + 1))) := hK.setCell hrs.out _
      have hM0 : Hid (MinR n (SkipsAt A B lim) F c (c + 1) (n + 1)) := ⟨fun p h1 h2 => by omega, fun h => by omega, Nat.le_refl _⟩
      generalize wr.setCell ⟨r, c, none⟩ (.int .i64 ((n : Int) + 1)) = W1 at *
      clear t0 t1
      go_loopg [8] (n - (c + 1)) (fun g s8 wi => ∃ (j v : Nat), c + 1 ≤ j ∧ j ≤ n ∧ g = n - j ∧ s8 = .int .i64 j ∧ Kept w wi ∧ wi.rowIs r 3 n (fun i => .int .i64 ((if i = c then v else G i : Nat) : Int)) ∧ Hid (MinR n (SkipsAt A B lim) F c j v))
      case atStart => exact ⟨c + 1, n + 1, Nat.le_refl _, by omega, rfl, by go_num, hkS, hset, hM0.out⟩
      case round =>
        rename_i wr0
        clear hset hkS hM0 hK hrw
        obtain ⟨j, v, hj1, hj2, rfl, rfl, hK, hrw, hM⟩ := hrel
        by_cases hlt2 : j < n
        · have hAj := hA.kept hK
          have hcj : c < j := by omega
          have x0 := hrw.cell (i := j) hlt2
          have x1 := hrw.cell (i := c) (by omega)
          simp only [if_true, show ¬ (j = c) by omega, if_false] at x0 x1
          have hGj := hG.out j (by have := HC.out; omega) hlt2
          have hbj := few_lt hF.out hone.out (n - 1 - j) j (by have := HC.out; omega) (by omega)
          have hvb := hM.out.2.2
          obtain ⟨fj, HFJ⟩ : ∃ fj : Int, Hid (fj = (G j : Int)) := ⟨_, rfl⟩
          obtain ⟨fc, HFC⟩ : ∃ fc : Int, Hid (fc = (v : Int)) := ⟨_, rfl⟩
          rw [← HFJ.out] at x0
          rw [← HFC.out] at x1
          have s3 : (j : Int) < (n : Int) := by omega
          have s4 : (0 : Int) ≤ (j : Int) := by omega
          have s5 : IntKind.i64.wrap (fc - 1) = fc - 1 := IntWalk.i64_in _ (by rw [HFC.out]; omega)
          have s6 : 0 ≤ fc ∧ fc ≤ 1001 := by rw [HFC.out]; omega
          have s7 : 0 ≤ fj ∧ fj ≤ 1001 := by rw [HFJ.out]; omega
          obtain ⟨s8, s9⟩ := s6
          obtain ⟨s10, s11⟩ := s7
          by_cases hgo : F j + 2 < v
          · have hd : decide (fj < fc - 1) = true := decide_eq_true (by rw [HFJ.out, HFC.out]; omega)
            have JNS := Lib.hid (fun (W : World) (v : Value) (x y z : Int) (q1 : v = .slice a1 n cap1) (q2 : x = (c : Int)) (q3 : y = (j : Int)) (q4 : z = lim) (hk : Kept wr W) => (show Calls Try.prog 59 #[v, .int .i64 x, .int .i64 y, .int .i64 z] W (SkipsPost W A B lim c j) by subst q1; subst q2; subst q3; subst q4; exact joins_any W n c j cap1 a1 A B z (hAj.kept hk) HR.out hcj hlt2 hn2 HL.out))
            clear hAj hvb hbj hGj
            go_wp2_with fail
            refine wp_region_held_drew (S := (fun w' => w'.cell? ⟨r, j, none⟩ = some (.int .i64 fj) ∧ w'.cell? ⟨r, c, none⟩ = some (.int .i64 fc) ∧ Kept wr w')) (by kernel_rfl) ?_ (fun hHeld => ?_)
            · (try dsimp only)
              exact keep2 x0 x1 (by repeat (first | assumption | exact Kept.refl _ | apply Kept.drew | apply Kept.drewN | apply Kept.alloc | refine Kept.trans ?_ (by assumption)))
            refine wpAnyH_take (i := 0) (oi := { dst := some 38, op := Go.Op.move (Go.Operand.tmp 6), type := 27, pos := "ref.go:163", after := #[], guard := none }) (v := ?v1) rfl (by kernel_rfl) (by kernel_rfl) (by kernel_rfl) (fun _ _ _ h => h) (Or.inl ⟨by rfl, ?hy1⟩) (by assumption) ?rs1
            case hy1 =>
              intro w hSw
              (try dsimp only at hSw)
              go_simp
              try with_reducible rfl
            (try simp only [Act.put, List.setIfInBounds_toArray, List.set_cons_zero, List.set_cons_succ])
            refine wpAnyH_take (i := 1) (oi := { dst := some 39, op := Go.Op.move (Go.Operand.tmp 8), type := 3, pos := "ref.go:163", after := #[], guard := none }) (v := ?v2) rfl (by kernel_rfl) (by kernel_rfl) (by kernel_rfl) (fun _ _ _ h => h) (Or.inl ⟨by rfl, ?hy2⟩) (by assumption) ?rs2
            case hy2 =>
              intro w hSw
              (try dsimp only at hSw)
              go_simp
              try with_reducible rfl
            (try simp only [Act.put, List.setIfInBounds_toArray, List.set_cons_zero, List.set_cons_succ])
            refine wpAnyH_take (i := 2) (oi := { dst := some 40, op := Go.Op.indexAddr 27 (Go.Operand.tmp 38) (Go.Operand.tmp 39), type := 0, pos := "ref.go:163", after := #[{ on := 0, ground := Go.Ground.data }, { on := 1, ground := Go.Ground.data }], guard := none }) (v := ?v3) rfl (by kernel_rfl) (by kernel_rfl) (by kernel_rfl) (fun _ _ _ h => h) (Or.inl ⟨by rfl, ?hy3⟩) (by assumption) ?rs3
            case hy3 =>
              intro w hSw
              (try dsimp only at hSw)
              go_simp
              try with_reducible rfl
            (try simp only [Act.put, List.setIfInBounds_toArray, List.set_cons_zero, List.set_cons_succ])
            refine wpAnyH_take (i := 3) (oi := { dst := some 41, op := Go.Op.load 3 (Go.Operand.tmp 40), type := 3, pos := "ref.go:163", after := #[{ on := 2, ground := Go.Ground.data }], guard := none }) (v := ?v4) rfl (by kernel_rfl) (by kernel_rfl) (by kernel_rfl) (fun _ _ _ h => h) (Or.inl ⟨by rfl, ?hy4⟩) (by assumption) ?rs4
            case hy4 =>
              intro w hSw
              (try dsimp only at hSw)
              go_simp
              try with_reducible rfl
            (try simp only [Act.put, List.setIfInBounds_toArray, List.set_cons_zero, List.set_cons_succ])
            refine wpAnyH_take (i := 4) (oi := { dst := some 42, op := Go.Op.move (Go.Operand.tmp 6), type := 27, pos := "ref.go:163", after := #[], guard := none }) (v := ?v5) rfl (by kernel_rfl) (by kernel_rfl) (by kernel_rfl) (fun _ _ _ h => h) (Or.inl ⟨by rfl, ?hy5⟩) (by assumption) ?rs5
            case hy5 =>
              intro w hSw
              (try dsimp only at hSw)
              go_simp
              try with_reducible rfl
            (try simp only [Act.put, List.setIfInBounds_toArray, List.set_cons_zero, List.set_cons_succ])
            refine wpAnyH_take (i := 5) (oi := { dst := some 43, op := Go.Op.move (Go.Operand.tmp 7), type := 3, pos := "ref.go:163", after := #[], guard := none }) (v := ?v6) rfl (by kernel_rfl) (by kernel_rfl) (by kernel_rfl) (fun _ _ _ h => h) (Or.inl ⟨by rfl, ?hy6⟩) (by assumption) ?rs6
            case hy6 =>
              intro w hSw
              (try dsimp only at hSw)
              go_simp
              try with_reducible rfl
            (try simp only [Act.put, List.setIfInBounds_toArray, List.set_cons_zero, List.set_cons_succ])
            refine wpAnyH_take (i := 6) (oi := { dst := some 44, op := Go.Op.indexAddr 27 (Go.Operand.tmp 42) (Go.Operand.tmp 43), type := 0, pos := "ref.go:163", after := #[{ on := 4, ground := Go.Ground.data }, { on := 5, ground := Go.Ground.data }], guard := none }) (v := ?v7) rfl (by kernel_rfl) (by kernel_rfl) (by kernel_rfl) (fun _ _ _ h => h) (Or.inl ⟨by rfl, ?hy7⟩) (by assumption) ?rs7
            case hy7 =>
              intro w hSw
              (try dsimp only at hSw)
              go_simp
              try with_reducible rfl
            (try simp only [Act.put, List.setIfInBounds_toArray, List.set_cons_zero, List.set_cons_succ])
            refine wpAnyH_take (i := 7) (oi := { dst := some 45, op := Go.Op.load 3 (Go.Operand.tmp 44), type := 3, pos := "ref.go:163", after := #[{ on := 6, ground := Go.Ground.data }], guard := none }) (v := ?v8) rfl (by kernel_rfl) (by kernel_rfl) (by kernel_rfl) (fun _ _ _ h => h) (Or.inl ⟨by rfl, ?hy8⟩) (by assumption) ?rs8
            case hy8 =>
              intro w hSw
              (try dsimp only at hSw)
              go_simp
              try with_reducible rfl
            (try simp only [Act.put, List.setIfInBounds_toArray, List.set_cons_zero, List.set_cons_succ])
            refine wpAnyH_take (i := 8) (oi := { dst := some 46, op := Go.Op.binOp Go.BinOp.sub 3 (Go.Operand.tmp 45) (Go.Operand.const (Go.Value.int Go.IntKind.i64 1)) 3, type := 3, pos := "ref.go:163", after := #[{ on := 7, ground := Go.Ground.data }], guard := none }) (v := ?v9) rfl (by kernel_rfl) (by kernel_rfl) (by kernel_rfl) (fun _ _ _ h => h) (Or.inl ⟨by rfl, ?hy9⟩) (by assumption) ?rs9
            case hy9 =>
              intro w hSw
              (try dsimp only at hSw)
              go_simp
              try with_reducible rfl
            (try simp only [Act.put, List.setIfInBounds_toArray, List.set_cons_zero, List.set_cons_succ])
            refine wpAnyH_take (i := 9) (oi := { dst := some 47, op := Go.Op.binOp Go.BinOp.lss 3 (Go.Operand.tmp 41) (Go.Operand.tmp 46) 3, type := 4, pos := "ref.go:163", after := #[{ on := 3, ground := Go.Ground.data }, { on := 8, ground := Go.Ground.data }], guard := none }) (v := ?v10) rfl (by kernel_rfl) (by kernel_rfl) (by kernel_rfl) (fun _ _ _ h => h) (Or.inl ⟨by rfl, ?hy10⟩) (by assumption) ?rs10
            case hy10 =>
              intro w hSw
              (try dsimp only at hSw)
              go_simp
              try with_reducible rfl
            (try simp only [Act.put, List.setIfInBounds_toArray, List.set_cons_zero, List.set_cons_succ])
            refine wpAnyH_take (i := 10) (oi := { dst := some 48, op := Go.Op.move (Go.Operand.tmp 47), type := 4, pos := "ref.go:163", after := #[{ on := 9, ground := Go.Ground.data }], guard := none }) (v := ?v11) rfl (by kernel_rfl) (by kernel_rfl) (by kernel_rfl) (fun _ _ _ h => h) (Or.inl ⟨by rfl, ?hy11⟩) (by assumption) ?rs11
            case hy11 =>
              intro w hSw
              (try dsimp only at hSw)
              go_simp
              try with_reducible rfl
            (try simp only [Act.put, List.setIfInBounds_toArray, List.set_cons_zero, List.set_cons_succ])
            refine wpAnyH_take (i := 11) (oi := { dst := some 49, op := Go.Op.move (Go.Operand.tmp 0), type := 22, pos := "ref.go:163", after := #[{ on := 10, ground := Go.Ground.guard }], guard := some (10, true) }) (v := ?v12) rfl (by kernel_rfl) (by kernel_rfl) (by kernel_rfl) (fun _ _ _ h => h) (Or.inl ⟨by rfl, ?hy12⟩) (by assumption) ?rs12
            case hy12 =>
              intro w hSw
              (try dsimp only at hSw)
              go_simp
              try with_reducible rfl
            (try simp only [Act.put, List.setIfInBounds_toArray, List.set_cons_zero, List.set_cons_succ])
            refine wpAnyH_take (i := 12) (oi := { dst := some 50, op := Go.Op.move (Go.Operand.tmp 7), type := 3, pos := "ref.go:163", after := #[{ on := 10, ground := Go.Ground.guard }], guard := some (10, true) }) (v := ?v13) rfl (by kernel_rfl) (by kernel_rfl) (by kernel_rfl) (fun _ _ _ h => h) (Or.inl ⟨by rfl, ?hy13⟩) (by assumption) ?rs13
            case hy13 =>
              intro w hSw
              (try dsimp only at hSw)
              go_simp
              try with_reducible rfl
            (try simp only [Act.put, List.setIfInBounds_toArray, List.set_cons_zero, List.set_cons_succ])
            refine wpAnyH_take (i := 13) (oi := { dst := some 51, op := Go.Op.move (Go.Operand.tmp 8), type := 3, pos := "ref.go:163", after := #[{ on := 10, ground := Go.Ground.guard }], guard := some (10, true) }) (v := ?v14) rfl (by kernel_rfl) (by kernel_rfl) (by kernel_rfl) (fun _ _ _ h => h) (Or.inl ⟨by rfl, ?hy14⟩) (by assumption) ?rs14
            case hy14 =>
              intro w hSw
              (try dsimp only at hSw)
              go_simp
              try with_reducible rfl
            (try simp only [Act.put, List.setIfInBounds_toArray, List.set_cons_zero, List.set_cons_succ])
            refine wpAnyH_take (i := 14) (oi := { dst := some 52, op := Go.Op.move (Go.Operand.tmp 1), type := 3, pos := "ref.go:163", after := #[{ on := 10, ground := Go.Ground.guard }], guard := some (10, true) }) (v := ?v15) rfl (by kernel_rfl) (by kernel_rfl) (by kernel_rfl) (fun _ _ _ h => h) (Or.inl ⟨by rfl, ?hy15⟩) (by assumption) ?rs15
            case hy15 =>
              intro w hSw
              (try dsimp only at hSw)
              go_simp
              try with_reducible rfl
            (try simp only [Act.put, List.setIfInBounds_toArray, List.set_cons_zero, List.set_cons_succ])
            refine wpAnyH_ready (rs := [15]) (by kernel_rfl) (by simp) ?_
            refine AllReadyH.cons (o := { dst := some 53, op := Go.Op.call { callee := Go.Callee.value (Go.Operand.func 59), args := #[Go.Operand.tmp 49, Go.Operand.tmp 50, Go.Operand.tmp 51, Go.Operand.tmp 52], argTypes := #[22, 3, 3, 3] }, type := 4, pos := "ref.go:163", after := #[{ on := 11, ground := Go.Ground.data }, { on := 12, ground := Go.Ground.data }, { on := 13, ground := Go.Ground.data }, { on := 14, ground := Go.Ground.data }, { on := 10, ground := Go.Ground.chain }, { on := 10, ground := Go.Ground.guard }], guard := some (10, true) }) rfl (fun K2 hK2 => ?_) AllReadyH.nil
            go_simp
            (go_at_call 59; refine (JNS.out _ _ _ _ _ (by rfl) (by rfl) (by rfl) (by rfl) (by repeat (first | assumption | exact Kept.refl _ | apply Kept.drew | apply Kept.drewN | apply Kept.alloc | refine Kept.trans ?_ (by assumption)))).mono ?_; rintro e w5 ⟨b, rfl, hb, hk5⟩)
            go_wp2_with fail
            refine hK2.out _ _ ?_ (fun hHeld => ?_)
            · (try dsimp only)
              exact keep2 x0 x1 (by repeat (first | assumption | exact Kept.refl _ | apply Kept.drew | apply Kept.drewN | apply Kept.alloc | refine Kept.trans ?_ (by assumption)))
            clear hK2 K2
            (try simp only [Act.put, List.setIfInBounds_toArray, List.set_cons_zero, List.set_cons_succ])
            refine wpAnyH_take (i := 16) (oi := { dst := some 54, op := Go.Op.pick (Go.Operand.tmp 48) (Go.Operand.tmp 53) (Go.Operand.const (Go.Value.bool false)), type := 4, pos := "ref.go:163", after := #[{ on := 10, ground := Go.Ground.data }, { on := 15, ground := Go.Ground.data }], guard := none }) (v := ?v16) rfl (by kernel_rfl) (by kernel_rfl) (by kernel_rfl) (fun _ _ _ h => h) (Or.inl ⟨by rfl, ?hy16⟩) (by assumption) ?rs16
            case hy16 =>
              intro w hSw
              (try dsimp only at hSw)
              go_simp
              try with_reducible rfl
            (try simp only [Act.put, List.setIfInBounds_toArray, List.set_cons_zero, List.set_cons_succ])
            refine wpAnyH_done (by kernel_rfl) ?_ _
            have hKW : Kept wr w5 := (by repeat (first | assumption | exact Kept.refl _ | apply Kept.drew | apply Kept.drewN | apply Kept.alloc | refine Kept.trans ?_ (by assumption)))
            have hHB := Lib.hid hb
            have hKw := hK.trans hKW
            have hrw5 := hKW.row hrw
            have y0 := hKW.cellSome x0
            have y1 := hKW.cellSome x1
            have y2 := hrw5.frozen c
            clear hb hK hKW hrw hHeld x0 x1 JNS
            cases b
            · have hM2 : Hid (MinR n (SkipsAt A B lim) F c (j + 1) v) := ⟨fun p h1 h2 h3 => by
                by_cases e : p = j
                · subst e; exact absurd (hHB.out.2 h3) (by simp)
                · exact hM.out.1 p h1 (by omega) h3, fun h => by
                obtain ⟨p, p1, p2, p3, p4⟩ := hM.out.2.1 h
                exact ⟨p, p1, by omega, p3, p4⟩, hM.out.2.2⟩
              clear hHB hM
              go_wp2_with fail
              go_roundg (n - (j + 1))
              case measure => omega
              case rel => exact ⟨j + 1, v, by omega, by omega, rfl, by go_num, hKw, hrw5, hM2⟩
            · have hJ : SkipsAt A B lim c j := hHB.out.1 rfl
              have hM2 : Hid (MinR n (SkipsAt A B lim) F c (j + 1) (F j + 2)) := by
                refine ⟨fun p h1 h2 h3 => ?_, fun _ => ⟨j, hcj, by omega, hJ, rfl⟩, by have := hM.out.2.2; omega⟩
                by_cases e : p = j
                · subst e; omega
                · have := hM.out.1 p h1 (by omega) h3; omega
              have hGj2 : Hid (fj = (F j : Int) + 1) := by show _ = _; rw [HFJ.out, hG.out j (by have := HC.out; omega) hlt2]; omega
              clear hHB hM hJ
              go_wp2_with fail
              have hset := (hrw5.set c (.int .i64 (fj + 1))).congr (g := fun i => .int .i64 ((if i = c then F j + 2 else G i : Nat) : Int)) (fun k hk => by
                by_cases e : k = c
                · subst e
                  simp only [if_true]
                  congr 1
                  rw [hGj2.out]
                  omega
                · simp [e])
              have hkS : Kept w (w5.setCell ⟨r, c, none⟩ (.int .i64 (fj + 1))) := hKw.setCell hrs.out _
              generalize w5.setCell ⟨r, c, none⟩ (.int .i64 (fj + 1)) = W2 at *
              clear y0 y1 y2
              go_wp2_with fail
              go_roundg (n - (j + 1))
              case measure => omega
              case rel => exact ⟨j + 1, F j + 2, by omega, by omega, rfl, by go_num, hkS, hset, hM2⟩
          · have hd : decide (fj < fc - 1) = false := decide_eq_false (by rw [HFJ.out, HFC.out]; omega)
            clear hAj hvb hbj hGj
            go_wp2_with fail
            refine wp_region_held_drew (S := (fun w' => w'.cell? ⟨r, j, none⟩ = some (.int .i64 fj) ∧ w'.cell? ⟨r, c, none⟩ = some (.int .i64 fc) ∧ Kept wr w')) (by kernel_rfl) ?_ (fun hHeld => ?_)
            · (try dsimp only)
              exact keep2 x0 x1 (by repeat (first | assumption | exact Kept.refl _ | apply Kept.drew | apply Kept.drewN | apply Kept.alloc | refine Kept.trans ?_ (by assumption)))
            refine wpAnyH_take (i := 0) (oi := { dst := some 38, op := Go.Op.move (Go.Operand.tmp 6), type := 27, pos := "ref.go:163", after := #[], guard := none }) (v := ?v17) rfl (by kernel_rfl) (by kernel_rfl) (by kernel_rfl) (fun _ _ _ h => h) (Or.inl ⟨by rfl, ?hy17⟩) (by assumption) ?rs17
            case hy17 =>
              intro w hSw
              (try dsimp only at hSw)
              go_simp
              try with_reducible rfl
            (try simp only [Act.put, List.setIfInBounds_toArray, List.set_cons_zero, List.set_cons_succ])
            refine wpAnyH_take (i := 1) (oi := { dst := some 39, op := Go.Op.move (Go.Operand.tmp 8), type := 3, pos := "ref.go:163", after := #[], guard := none }) (v := ?v18) rfl (by kernel_rfl) (by kernel_rfl) (by kernel_rfl) (fun _ _ _ h => h) (Or.inl ⟨by rfl, ?hy18⟩) (by assumption) ?rs18
            case hy18 =>
              intro w hSw
              (try dsimp only at hSw)
              go_simp
              try with_reducible rfl
            (try simp only [Act.put, List.setIfInBounds_toArray, List.set_cons_zero, List.set_cons_succ])
            refine wpAnyH_take (i := 2) (oi := { dst := some 40, op := Go.Op.indexAddr 27 (Go.Operand.tmp 38) (Go.Operand.tmp 39), type := 0, pos := "ref.go:163", after := #[{ on := 0, ground := Go.Ground.data }, { on := 1, ground := Go.Ground.data }], guard := none }) (v := ?v19) rfl (by kernel_rfl) (by kernel_rfl) (by kernel_rfl) (fun _ _ _ h => h) (Or.inl ⟨by rfl, ?hy19⟩) (by assumption) ?rs19
            case hy19 =>
              intro w hSw
              (try dsimp only at hSw)
              go_simp
              try with_reducible rfl
            (try simp only [Act.put, List.setIfInBounds_toArray, List.set_cons_zero, List.set_cons_succ])
            refine wpAnyH_take (i := 3) (oi := { dst := some 41, op := Go.Op.load 3 (Go.Operand.tmp 40), type := 3, pos := "ref.go:163", after := #[{ on := 2, ground := Go.Ground.data }], guard := none }) (v := ?v20) rfl (by kernel_rfl) (by kernel_rfl) (by kernel_rfl) (fun _ _ _ h => h) (Or.inl ⟨by rfl, ?hy20⟩) (by assumption) ?rs20
            case hy20 =>
              intro w hSw
              (try dsimp only at hSw)
              go_simp
              try with_reducible rfl
            (try simp only [Act.put, List.setIfInBounds_toArray, List.set_cons_zero, List.set_cons_succ])
            refine wpAnyH_take (i := 4) (oi := { dst := some 42, op := Go.Op.move (Go.Operand.tmp 6), type := 27, pos := "ref.go:163", after := #[], guard := none }) (v := ?v21) rfl (by kernel_rfl) (by kernel_rfl) (by kernel_rfl) (fun _ _ _ h => h) (Or.inl ⟨by rfl, ?hy21⟩) (by assumption) ?rs21
            case hy21 =>
              intro w hSw
              (try dsimp only at hSw)
              go_simp
              try with_reducible rfl
            (try simp only [Act.put, List.setIfInBounds_toArray, List.set_cons_zero, List.set_cons_succ])
            refine wpAnyH_take (i := 5) (oi := { dst := some 43, op := Go.Op.move (Go.Operand.tmp 7), type := 3, pos := "ref.go:163", after := #[], guard := none }) (v := ?v22) rfl (by kernel_rfl) (by kernel_rfl) (by kernel_rfl) (fun _ _ _ h => h) (Or.inl ⟨by rfl, ?hy22⟩) (by assumption) ?rs22
            case hy22 =>
              intro w hSw
              (try dsimp only at hSw)
              go_simp
              try with_reducible rfl
            (try simp only [Act.put, List.setIfInBounds_toArray, List.set_cons_zero, List.set_cons_succ])
            refine wpAnyH_take (i := 6) (oi := { dst := some 44, op := Go.Op.indexAddr 27 (Go.Operand.tmp 42) (Go.Operand.tmp 43), type := 0, pos := "ref.go:163", after := #[{ on := 4, ground := Go.Ground.data }, { on := 5, ground := Go.Ground.data }], guard := none }) (v := ?v23) rfl (by kernel_rfl) (by kernel_rfl) (by kernel_rfl) (fun _ _ _ h => h) (Or.inl ⟨by rfl, ?hy23⟩) (by assumption) ?rs23
            case hy23 =>
              intro w hSw
              (try dsimp only at hSw)
              go_simp
              try with_reducible rfl
            (try simp only [Act.put, List.setIfInBounds_toArray, List.set_cons_zero, List.set_cons_succ])
            refine wpAnyH_take (i := 7) (oi := { dst := some 45, op := Go.Op.load 3 (Go.Operand.tmp 44), type := 3, pos := "ref.go:163", after := #[{ on := 6, ground := Go.Ground.data }], guard := none }) (v := ?v24) rfl (by kernel_rfl) (by kernel_rfl) (by kernel_rfl) (fun _ _ _ h => h) (Or.inl ⟨by rfl, ?hy24⟩) (by assumption) ?rs24
            case hy24 =>
              intro w hSw
              (try dsimp only at hSw)
              go_simp
              try with_reducible rfl
            (try simp only [Act.put, List.setIfInBounds_toArray, List.set_cons_zero, List.set_cons_succ])
            refine wpAnyH_take (i := 8) (oi := { dst := some 46, op := Go.Op.binOp Go.BinOp.sub 3 (Go.Operand.tmp 45) (Go.Operand.const (Go.Value.int Go.IntKind.i64 1)) 3, type := 3, pos := "ref.go:163", after := #[{ on := 7, ground := Go.Ground.data }], guard := none }) (v := ?v25) rfl (by kernel_rfl) (by kernel_rfl) (by kernel_rfl) (fun _ _ _ h => h) (Or.inl ⟨by rfl, ?hy25⟩) (by assumption) ?rs25
            case hy25 =>
              intro w hSw
              (try dsimp only at hSw)
              go_simp
              try with_reducible rfl
            (try simp only [Act.put, List.setIfInBounds_toArray, List.set_cons_zero, List.set_cons_succ])
            refine wpAnyH_take (i := 9) (oi := { dst := some 47, op := Go.Op.binOp Go.BinOp.lss 3 (Go.Operand.tmp 41) (Go.Operand.tmp 46) 3, type := 4, pos := "ref.go:163", after := #[{ on := 3, ground := Go.Ground.data }, { on := 8, ground := Go.Ground.data }], guard := none }) (v := ?v26) rfl (by kernel_rfl) (by kernel_rfl) (by kernel_rfl) (fun _ _ _ h => h) (Or.inl ⟨by rfl, ?hy26⟩) (by assumption) ?rs26
            case hy26 =>
              intro w hSw
              (try dsimp only at hSw)
              go_simp
              try with_reducible rfl
            (try simp only [Act.put, List.setIfInBounds_toArray, List.set_cons_zero, List.set_cons_succ])
            refine wpAnyH_take (i := 10) (oi := { dst := some 48, op := Go.Op.move (Go.Operand.tmp 47), type := 4, pos := "ref.go:163", after := #[{ on := 9, ground := Go.Ground.data }], guard := none }) (v := ?v27) rfl (by kernel_rfl) (by kernel_rfl) (by kernel_rfl) (fun _ _ _ h => h) (Or.inl ⟨by rfl, ?hy27⟩) (by assumption) ?rs27
            case hy27 =>
              intro w hSw
              (try dsimp only at hSw)
              go_simp
              try with_reducible rfl
            (try simp only [Act.put, List.setIfInBounds_toArray, List.set_cons_zero, List.set_cons_succ])
            refine wpAnyH_take (i := 11) (oi := { dst := some 49, op := Go.Op.move (Go.Operand.tmp 0), type := 22, pos := "ref.go:163", after := #[{ on := 10, ground := Go.Ground.guard }], guard := some (10, true) }) (v := undef) rfl (by kernel_rfl) (by kernel_rfl) (by kernel_rfl) (fun _ _ _ h => h) (Or.inr ⟨by rfl, rfl⟩) (by assumption) ?_
            (try simp only [Act.put, List.setIfInBounds_toArray, List.set_cons_zero, List.set_cons_succ])
            refine wpAnyH_take (i := 12) (oi := { dst := some 50, op := Go.Op.move (Go.Operand.tmp 7), type := 3, pos := "ref.go:163", after := #[{ on := 10, ground := Go.Ground.guard }], guard := some (10, true) }) (v := undef) rfl (by kernel_rfl) (by kernel_rfl) (by kernel_rfl) (fun _ _ _ h => h) (Or.inr ⟨by rfl, rfl⟩) (by assumption) ?_
            (try simp only [Act.put, List.setIfInBounds_toArray, List.set_cons_zero, List.set_cons_succ])
            refine wpAnyH_take (i := 13) (oi := { dst := some 51, op := Go.Op.move (Go.Operand.tmp 8), type := 3, pos := "ref.go:163", after := #[{ on := 10, ground := Go.Ground.guard }], guard := some (10, true) }) (v := undef) rfl (by kernel_rfl) (by kernel_rfl) (by kernel_rfl) (fun _ _ _ h => h) (Or.inr ⟨by rfl, rfl⟩) (by assumption) ?_
            (try simp only [Act.put, List.setIfInBounds_toArray, List.set_cons_zero, List.set_cons_succ])
            refine wpAnyH_take (i := 14) (oi := { dst := some 52, op := Go.Op.move (Go.Operand.tmp 1), type := 3, pos := "ref.go:163", after := #[{ on := 10, ground := Go.Ground.guard }], guard := some (10, true) }) (v := undef) rfl (by kernel_rfl) (by kernel_rfl) (by kernel_rfl) (fun _ _ _ h => h) (Or.inr ⟨by rfl, rfl⟩) (by assumption) ?_
            (try simp only [Act.put, List.setIfInBounds_toArray, List.set_cons_zero, List.set_cons_succ])
            refine wpAnyH_take (i := 15) (oi := { dst := some 53, op := Go.Op.call { callee := Go.Callee.value (Go.Operand.func 59), args := #[Go.Operand.tmp 49, Go.Operand.tmp 50, Go.Operand.tmp 51, Go.Operand.tmp 52], argTypes := #[22, 3, 3, 3] }, type := 4, pos := "ref.go:163", after := #[{ on := 11, ground := Go.Ground.data }, { on := 12, ground := Go.Ground.data }, { on := 13, ground := Go.Ground.data }, { on := 14, ground := Go.Ground.data }, { on := 10, ground := Go.Ground.chain }, { on := 10, ground := Go.Ground.guard }], guard := some (10, true) }) (v := undef) rfl (by kernel_rfl) (by kernel_rfl) (by kernel_rfl) (fun _ _ _ h => h) (Or.inr ⟨by rfl, rfl⟩) (by assumption) ?_
            (try simp only [Act.put, List.setIfInBounds_toArray, List.set_cons_zero, List.set_cons_succ])
            refine wpAnyH_take (i := 16) (oi := { dst := some 54, op := Go.Op.pick (Go.Operand.tmp 48) (Go.Operand.tmp 53) (Go.Operand.const (Go.Value.bool false)), type := 4, pos := "ref.go:163", after := #[{ on := 10, ground := Go.Ground.data }, { on := 15, ground := Go.Ground.data }], guard := none }) (v := ?v28) rfl (by kernel_rfl) (by kernel_rfl) (by kernel_rfl) (fun _ _ _ h => h) (Or.inl ⟨by rfl, ?hy28⟩) (by assumption) ?rs28
            case hy28 =>
              intro w hSw
              (try dsimp only at hSw)
              go_simp
              try with_reducible rfl
            (try simp only [Act.put, List.setIfInBounds_toArray, List.set_cons_zero, List.set_cons_succ])
            refine wpAnyH_done (by kernel_rfl) ?_ _
            have hKW : Kept wr wr.drew := (by repeat (first | assumption | exact Kept.refl _ | apply Kept.drew | apply Kept.drewN | apply Kept.alloc | refine Kept.trans ?_ (by assumption)))
            have hKw := hK.trans hKW
            have hrw5 := hKW.row hrw
            have hM2 : Hid (MinR n (SkipsAt A B lim) F c (j + 1) v) := ⟨fun p h1 h2 h3 => by
              by_cases e : p = j
              · subst e; omega
              · exact hM.out.1 p h1 (by omega) h3, fun h => by
              obtain ⟨p, p1, p2, p3, p4⟩ := hM.out.2.1 h
              exact ⟨p, p1, by omega, p3, p4⟩, hM.out.2.2⟩
            clear hK hKW hrw hHeld x0 x1 hM hgo
            go_wp2_with fail
            go_roundg (n - (j + 1))
            case measure => omega
            case rel => exact ⟨j + 1, v, by omega, by omega, rfl, by go_num, hKw, hrw5, hM2⟩
        · obtain rfl : j = n := by omega
          have hfin := minR_few (J := SkipsAt A B lim) (F := F) (c := c) (v := v) (by have := HC.out; omega) (by rw [show c + 1 = j - 1 - t by have := HC.out; omega]; exact hF.out) hone.out hM.out
          have hF2 : Hid (FewAt j (SkipsAt A B lim) (fun i => if i = c then v - 1 else F i) (j - 1 - (t + 1))) := by
            rw [show j - 1 - (t + 1) = c by have := HC.out; omega]
            exact hfin.2
          have hG2 : Hid (∀ i, j - 1 - (t + 1) ≤ i → i < j → (if i = c then v else G i) = (fun i => if i = c then v - 1 else F i) i + 1) := fun i h1 h2 => by
            by_cases e : i = c
            · simp only [e, if_true]; have := hfin.1; omega
            · simp only [e, if_false]; exact hG.out i (by have := HC.out; omega) h2
          have ec : (c : Int) - 1 = (j : Int) - 2 - ((t + 1 : Nat) : Int) := by have := HC.out; omega
          have hEC := Lib.hid ec
          clear ec hM hF hG hfin
          go_wp2_with fail
          go_roundg (j - (t + 1))
          case measure => omega
          case rel => exact ⟨t + 1, _, fun i => if i = c then v else G i, by omega, rfl, by rw [← hEC.out], hK, hrw, hF2.out, hG2.out⟩
    · have ec : (n : Int) - 2 - (t : Int) = -1 := by omega
      rw [ec]
      have HF : Hid (FewAt n (SkipsAt A B lim) F 0) := by rw [show 0 = n - 1 - t by omega]; exact hF.out
      have HG : Hid (∀ i, i < n → G i = F i + 1) := fun i h => hG.out i (by omega) h
      clear ec hF hG
      have hO1 := ints_one wr wr.heap.size wr.heap.size 0 rfl (Nat.le_refl _)
      have hrlt : r < wr.heap.size := hrw.lt
      have hwle : w.heap.size ≤ wr.heap.size := hK.size
      have hk2 := hK.alloc (.cells #[.int .i64 0] 3)
      have hrw2 := ((Kept.refl wr).alloc (.cells #[.int .i64 0] 3)).row hrw
      have hsz1 : wr.heap.size ≤ (wr.alloc (.cells #[.int .i64 0] 3)).heap.size := by simp
      have hS0 : Hid (ShortTo n (SkipsAt A B lim) F (fun _ => 0) 0) := ShortTo.one (by omega)
      go_wp2_with fail
      generalize wr.alloc (.cells #[.int .i64 0] 3) = W1 at *
      generalize wr.heap.size = B0 at *
      clear hrw hK
      go_loopg [9, 10] n (fun g s9 s10 wi => ∃ (t : Nat) (s : Nat → Nat), g = n - s t ∧ s10 = .int .i64 (s t) ∧ Kept w wi ∧ wi.rowIs r 3 n (fun i => .int .i64 (G i)) ∧ B0 ≤ wi.heap.size ∧ wi.ownsRow B0 3 1 s9 (t + 1) (ints (fun t => (s t : Int)) (t + 1)) ∧ Hid (ShortTo n (SkipsAt A B lim) F s t))
      case atStart => exact ⟨0, fun _ => 0, rfl, rfl, hk2, hrw2, hsz1, hO1, hS0.out⟩
      case round =>
        rename_i wr0
        obtain ⟨t, s, rfl, rfl, hK, hrw, hsz, hO, hS⟩ := hrel
        clear hO1 hk2 hrw2 hS0 hsz1
        obtain ⟨oa, ocap, rfl, hc1, _, hc2, hg⟩ := own_form hO
        obtain ⟨g, rfl, hg⟩ := hg (by omega)
        have hst := hS.out.low t (Nat.le_refl _)
        have hft := hS.out.few t (Nat.le_refl _)
        obtain ⟨i, HI⟩ : ∃ i, Hid (i = s t) := ⟨_, rfl⟩
        rw [← HI.out] at hst hft ⊢
        by_cases hlt3 : i + 1 < n
        · have s1 : (i : Int) < (n : Int) - 1 := by omega
          have s1' : i < n - 1 := by omega
          have hs0 : Hid (∀ p, i < p → p < i + 1 → ¬ (SkipsAt A B lim i p ∧ F i = F p + 1)) := fun p h1 h2 => by omega
          go_wp2_with fail
          have hcell : Hid (∀ W : World, Kept wr W → W.ownsRow B0 3 1 (.slice (some ⟨g, 0, none⟩) (t + 1) ocap) (t + 1) (ints (fun t => (s t : Int)) (t + 1))) := fun W h => own_kept hO h
          go_loopg [10, 11] (n - (i + 1)) (fun g s10 s11 wi => ∃ (j : Nat), i + 1 ≤ j ∧ j ≤ n ∧ g = n - j ∧ s10 = .int .i64 i ∧ s11 = .int .i64 j ∧ Kept wr wi ∧ wi.rowIs r 3 n (fun i => .int .i64 (G i)) ∧ Hid (∀ p, i < p → p < j → ¬ (SkipsAt A B lim i p ∧ F i = F p + 1)))
          case atStart => exact ⟨i + 1, Nat.le_refl _, by omega, rfl, rfl, by go_num, Kept.refl _, hrw, hs0.out⟩
          case round =>
            rename_i wr1
            clear hs0 hrw
            obtain ⟨j, hj1, hj2, rfl, rfl, rfl, hK4, hrw, hseen⟩ := hrel
            by_cases hlt2 : j < n
            · have hAj := hA.kept (hK.trans hK4)
              have hcj : i < j := by omega
              have x0 := hrw.cell (i := j) hlt2
              have x1 := hrw.cell (i := i) (by omega)
              have hGj := HG.out j hlt2
              have hGi := HG.out i (by omega)
              have hbj := few_lt HF.out hone.out (n - 1 - j) j (by omega) (by omega)
              have hbi := few_lt HF.out hone.out (n - 1 - i) i (by omega) (by omega)
              obtain ⟨fj, HFJ⟩ : ∃ fj : Int, Hid (fj = (G j : Int)) := ⟨_, rfl⟩
              obtain ⟨fc, HFC⟩ : ∃ fc : Int, Hid (fc = (G i : Int)) := ⟨_, rfl⟩
              rw [← HFJ.out] at x0
              rw [← HFC.out] at x1
              have s3 : (j : Int) < (n : Int) := by omega
              have s4 : (0 : Int) ≤ (j : Int) := by omega
              have s2 : (i : Int) < (n : Int) := by omega
              have s0 : (0 : Int) ≤ (i : Int) := by omega
              have s5 : IntKind.i64.wrap (fc - 1) = fc - 1 := IntWalk.i64_in _ (by rw [HFC.out]; omega)
              have s6 : 0 ≤ fc ∧ fc ≤ 1001 := by rw [HFC.out]; omega
              obtain ⟨s8, s9⟩ := s6
              by_cases hgo : F i = F j + 1
              · have hd : (fj == fc - 1) = true := by rw [beq_iff_eq, HFJ.out, HFC.out]; omega
                have JNS := Lib.hid (fun (W : World) (v : Value) (x y z : Int) (q1 : v = .slice a1 n cap1) (q2 : x = (i : Int)) (q3 : y = (j : Int)) (q4 : z = lim) (hk : Kept wr W) => (show Calls Try.prog 59 #[v, .int .i64 x, .int .i64 y, .int .i64 z] W (SkipsPost W A B lim i j) by subst q1; subst q2; subst q3; subst q4; exact joins_any W n i j cap1 a1 A B z (hAj.kept hk) HR.out hcj hlt2 hn2 HL.out))
                clear hAj hbj hGj hbi hGi
                go_wp2_with fail
                refine wp_region_held_drew (S := (fun w' => w'.cell? ⟨r, j, none⟩ = some (.int .i64 fj) ∧ w'.cell? ⟨r, i, none⟩ = some (.int .i64 fc) ∧ Kept wr w')) (by kernel_rfl) ?_ (fun hHeld => ?_)
                · (try dsimp only)
                  exact keep2 x0 x1 (by repeat (first | assumption | exact Kept.refl _ | apply Kept.drew | apply Kept.drewN | apply Kept.alloc | refine Kept.trans ?_ (by assumption)))
                refine wpAnyH_take (i := 0) (oi := { dst := some 75, op := Go.Op.move (Go.Operand.tmp 6), type := 27, pos := "ref.go:171", after := #[], guard := none }) (v := ?v29) rfl (by kernel_rfl) (by kernel_rfl) (by kernel_rfl) (fun _ _ _ h => h) (Or.inl ⟨by rfl, ?hy29⟩) (by assumption) ?rs29
                case hy29 =>
                  intro w hSw
                  (try dsimp only at hSw)
                  go_simp
                  try with_reducible rfl
                (try simp only [Act.put, List.setIfInBounds_toArray, List.set_cons_zero, List.set_cons_succ])
                refine wpAnyH_take (i := 1) (oi := { dst := some 76, op := Go.Op.move (Go.Operand.tmp 11), type := 3, pos := "ref.go:171", after := #[], guard := none }) (v := ?v30) rfl (by kernel_rfl) (by kernel_rfl) (by kernel_rfl) (fun _ _ _ h => h) (Or.inl ⟨by rfl, ?hy30⟩) (by assumption) ?rs30
                case hy30 =>
                  intro w hSw
                  (try dsimp only at hSw)
                  go_simp
                  try with_reducible rfl
                (try simp only [Act.put, List.setIfInBounds_toArray, List.set_cons_zero, List.set_cons_succ])
                refine wpAnyH_take (i := 2) (oi := { dst := some 77, op := Go.Op.indexAddr 27 (Go.Operand.tmp 75) (Go.Operand.tmp 76), type := 0, pos := "ref.go:171", after := #[{ on := 0, ground := Go.Ground.data }, { on := 1, ground := Go.Ground.data }], guard := none }) (v := ?v31) rfl (by kernel_rfl) (by kernel_rfl) (by kernel_rfl) (fun _ _ _ h => h) (Or.inl ⟨by rfl, ?hy31⟩) (by assumption) ?rs31
                case hy31 =>
                  intro w hSw
                  (try dsimp only at hSw)
                  go_simp
                  try with_reducible rfl
                (try simp only [Act.put, List.setIfInBounds_toArray, List.set_cons_zero, List.set_cons_succ])
                refine wpAnyH_take (i := 3) (oi := { dst := some 78, op := Go.Op.load 3 (Go.Operand.tmp 77), type := 3, pos := "ref.go:171", after := #[{ on := 2, ground := Go.Ground.data }], guard := none }) (v := ?v32) rfl (by kernel_rfl) (by kernel_rfl) (by kernel_rfl) (fun _ _ _ h => h) (Or.inl ⟨by rfl, ?hy32⟩) (by assumption) ?rs32
                case hy32 =>
                  intro w hSw
                  (try dsimp only at hSw)
                  go_simp
                  try with_reducible rfl
                (try simp only [Act.put, List.setIfInBounds_toArray, List.set_cons_zero, List.set_cons_succ])
                refine wpAnyH_take (i := 4) (oi := { dst := some 79, op := Go.Op.move (Go.Operand.tmp 6), type := 27, pos := "ref.go:171", after := #[], guard := none }) (v := ?v33) rfl (by kernel_rfl) (by kernel_rfl) (by kernel_rfl) (fun _ _ _ h => h) (Or.inl ⟨by rfl, ?hy33⟩) (by assumption) ?rs33
                case hy33 =>
                  intro w hSw
                  (try dsimp only at hSw)
                  go_simp
                  try with_reducible rfl
                (try simp only [Act.put, List.setIfInBounds_toArray, List.set_cons_zero, List.set_cons_succ])
                refine wpAnyH_take (i := 5) (oi := { dst := some 80, op := Go.Op.move (Go.Operand.tmp 10), type := 3, pos := "ref.go:171", after := #[], guard := none }) (v := ?v34) rfl (by kernel_rfl) (by kernel_rfl) (by kernel_rfl) (fun _ _ _ h => h) (Or.inl ⟨by rfl, ?hy34⟩) (by assumption) ?rs34
                case hy34 =>
                  intro w hSw
                  (try dsimp only at hSw)
                  go_simp
                  try with_reducible rfl
                (try simp only [Act.put, List.setIfInBounds_toArray, List.set_cons_zero, List.set_cons_succ])
                refine wpAnyH_take (i := 6) (oi := { dst := some 81, op := Go.Op.indexAddr 27 (Go.Operand.tmp 79) (Go.Operand.tmp 80), type := 0, pos := "ref.go:171", after := #[{ on := 4, ground := Go.Ground.data }, { on := 5, ground := Go.Ground.data }], guard := none }) (v := ?v35) rfl (by kernel_rfl) (by kernel_rfl) (by kernel_rfl) (fun _ _ _ h => h) (Or.inl ⟨by rfl, ?hy35⟩) (by assumption) ?rs35
                case hy35 =>
                  intro w hSw
                  (try dsimp only at hSw)
                  go_simp
                  try with_reducible rfl
                (try simp only [Act.put, List.setIfInBounds_toArray, List.set_cons_zero, List.set_cons_succ])
                refine wpAnyH_take (i := 7) (oi := { dst := some 82, op := Go.Op.load 3 (Go.Operand.tmp 81), type := 3, pos := "ref.go:171", after := #[{ on := 6, ground := Go.Ground.data }], guard := none }) (v := ?v36) rfl (by kernel_rfl) (by kernel_rfl) (by kernel_rfl) (fun _ _ _ h => h) (Or.inl ⟨by rfl, ?hy36⟩) (by assumption) ?rs36
                case hy36 =>
                  intro w hSw
                  (try dsimp only at hSw)
                  go_simp
                  try with_reducible rfl
                (try simp only [Act.put, List.setIfInBounds_toArray, List.set_cons_zero, List.set_cons_succ])
                refine wpAnyH_take (i := 8) (oi := { dst := some 83, op := Go.Op.binOp Go.BinOp.sub 3 (Go.Operand.tmp 82) (Go.Operand.const (Go.Value.int Go.IntKind.i64 1)) 3, type := 3, pos := "ref.go:171", after := #[{ on := 7, ground := Go.Ground.data }], guard := none }) (v := ?v37) rfl (by kernel_rfl) (by kernel_rfl) (by kernel_rfl) (fun _ _ _ h => h) (Or.inl ⟨by rfl, ?hy37⟩) (by assumption) ?rs37
                case hy37 =>
                  intro w hSw
                  (try dsimp only at hSw)
                  go_simp
                  try with_reducible rfl
                (try simp only [Act.put, List.setIfInBounds_toArray, List.set_cons_zero, List.set_cons_succ])
                refine wpAnyH_take (i := 9) (oi := { dst := some 84, op := Go.Op.binOp Go.BinOp.eql 3 (Go.Operand.tmp 78) (Go.Operand.tmp 83) 3, type := 4, pos := "ref.go:171", after := #[{ on := 3, ground := Go.Ground.data }, { on := 8, ground := Go.Ground.data }], guard := none }) (v := ?v38) rfl (by kernel_rfl) (by kernel_rfl) (by kernel_rfl) (fun _ _ _ h => h) (Or.inl ⟨by rfl, ?hy38⟩) (by assumption) ?rs38
                case hy38 =>
                  intro w hSw
                  (try dsimp only at hSw)
                  go_simp
                  try with_reducible rfl
                (try simp only [Act.put, List.setIfInBounds_toArray, List.set_cons_zero, List.set_cons_succ])
                refine wpAnyH_take (i := 10) (oi := { dst := some 85, op := Go.Op.move (Go.Operand.tmp 84), type := 4, pos := "ref.go:171", after := #[{ on := 9, ground := Go.Ground.data }], guard := none }) (v := ?v39) rfl (by kernel_rfl) (by kernel_rfl) (by kernel_rfl) (fun _ _ _ h => h) (Or.inl ⟨by rfl, ?hy39⟩) (by assumption) ?rs39
                case hy39 =>
                  intro w hSw
                  (try dsimp only at hSw)
                  go_simp
                  try with_reducible rfl
                (try simp only [Act.put, List.setIfInBounds_toArray, List.set_cons_zero, List.set_cons_succ])
                refine wpAnyH_take (i := 11) (oi := { dst := some 86, op := Go.Op.move (Go.Operand.tmp 0), type := 22, pos := "ref.go:171", after := #[{ on := 10, ground := Go.Ground.guard }], guard := some (10, true) }) (v := ?v40) rfl (by kernel_rfl) (by kernel_rfl) (by kernel_rfl) (fun _ _ _ h => h) (Or.inl ⟨by rfl, ?hy40⟩) (by assumption) ?rs40
                case hy40 =>
                  intro w hSw
                  (try dsimp only at hSw)
                  go_simp
                  try with_reducible rfl
                (try simp only [Act.put, List.setIfInBounds_toArray, List.set_cons_zero, List.set_cons_succ])
                refine wpAnyH_take (i := 12) (oi := { dst := some 87, op := Go.Op.move (Go.Operand.tmp 10), type := 3, pos := "ref.go:171", after := #[{ on := 10, ground := Go.Ground.guard }], guard := some (10, true) }) (v := ?v41) rfl (by kernel_rfl) (by kernel_rfl) (by kernel_rfl) (fun _ _ _ h => h) (Or.inl ⟨by rfl, ?hy41⟩) (by assumption) ?rs41
                case hy41 =>
                  intro w hSw
                  (try dsimp only at hSw)
                  go_simp
                  try with_reducible rfl
                (try simp only [Act.put, List.setIfInBounds_toArray, List.set_cons_zero, List.set_cons_succ])
                refine wpAnyH_take (i := 13) (oi := { dst := some 88, op := Go.Op.move (Go.Operand.tmp 11), type := 3, pos := "ref.go:171", after := #[{ on := 10, ground := Go.Ground.guard }], guard := some (10, true) }) (v := ?v42) rfl (by kernel_rfl) (by kernel_rfl) (by kernel_rfl) (fun _ _ _ h => h) (Or.inl ⟨by rfl, ?hy42⟩) (by assumption) ?rs42
                case hy42 =>
                  intro w hSw
                  (try dsimp only at hSw)
                  go_simp
                  try with_reducible rfl
                (try simp only [Act.put, List.setIfInBounds_toArray, List.set_cons_zero, List.set_cons_succ])
                refine wpAnyH_take (i := 14) (oi := { dst := some 89, op := Go.Op.move (Go.Operand.tmp 1), type := 3, pos := "ref.go:171", after := #[{ on := 10, ground := Go.Ground.guard }], guard := some (10, true) }) (v := ?v43) rfl (by kernel_rfl) (by kernel_rfl) (by kernel_rfl) (fun _ _ _ h => h) (Or.inl ⟨by rfl, ?hy43⟩) (by assumption) ?rs43
                case hy43 =>
                  intro w hSw
                  (try dsimp only at hSw)
                  go_simp
                  try with_reducible rfl
                (try simp only [Act.put, List.setIfInBounds_toArray, List.set_cons_zero, List.set_cons_succ])
                refine wpAnyH_ready (rs := [15]) (by kernel_rfl) (by simp) ?_
                refine AllReadyH.cons (o := { dst := some 90, op := Go.Op.call { callee := Go.Callee.value (Go.Operand.func 59), args := #[Go.Operand.tmp 86, Go.Operand.tmp 87, Go.Operand.tmp 88, Go.Operand.tmp 89], argTypes := #[22, 3, 3, 3] }, type := 4, pos := "ref.go:171", after := #[{ on := 11, ground := Go.Ground.data }, { on := 12, ground := Go.Ground.data }, { on := 13, ground := Go.Ground.data }, { on := 14, ground := Go.Ground.data }, { on := 10, ground := Go.Ground.chain }, { on := 10, ground := Go.Ground.guard }], guard := some (10, true) }) rfl (fun K2 hK2 => ?_) AllReadyH.nil
                go_simp
                (go_at_call 59; refine (JNS.out _ _ _ _ _ (by rfl) (by rfl) (by rfl) (by rfl) (by repeat (first | assumption | exact Kept.refl _ | apply Kept.drew | apply Kept.drewN | apply Kept.alloc | refine Kept.trans ?_ (by assumption)))).mono ?_; rintro e w5 ⟨b, rfl, hb, hk5⟩)
                go_wp2_with fail
                refine hK2.out _ _ ?_ (fun hHeld => ?_)
                · (try dsimp only)
                  exact keep2 x0 x1 (by repeat (first | assumption | exact Kept.refl _ | apply Kept.drew | apply Kept.drewN | apply Kept.alloc | refine Kept.trans ?_ (by assumption)))
                clear hK2 K2
                (try simp only [Act.put, List.setIfInBounds_toArray, List.set_cons_zero, List.set_cons_succ])
                refine wpAnyH_take (i := 16) (oi := { dst := some 91, op := Go.Op.pick (Go.Operand.tmp 85) (Go.Operand.tmp 90) (Go.Operand.const (Go.Value.bool false)), type := 4, pos := "ref.go:171", after := #[{ on := 10, ground := Go.Ground.data }, { on := 15, ground := Go.Ground.data }], guard := none }) (v := ?v44) rfl (by kernel_rfl) (by kernel_rfl) (by kernel_rfl) (fun _ _ _ h => h) (Or.inl ⟨by rfl, ?hy44⟩) (by assumption) ?rs44
                case hy44 =>
                  intro w hSw
                  (try dsimp only at hSw)
                  go_simp
                  try with_reducible rfl
                (try simp only [Act.put, List.setIfInBounds_toArray, List.set_cons_zero, List.set_cons_succ])
                refine wpAnyH_done (by kernel_rfl) ?_ _
                have hKW : Kept wr w5 := (by repeat (first | assumption | exact Kept.refl _ | apply Kept.drew | apply Kept.drewN | apply Kept.alloc | refine Kept.trans ?_ (by assumption)))
                have hHB := Lib.hid hb
                have hKw := hK4.trans hKW
                have hrw5 := hKW.row hrw
                clear hb hK4 hKW hrw hHeld x0 x1 JNS
                cases b
                · have hseen2 : Hid (∀ p, i < p → p < j + 1 → ¬ (SkipsAt A B lim i p ∧ F i = F p + 1)) := fun p h1 h2 h3 => by
                    by_cases e : p = j
                    · subst e; exact absurd (hHB.out.2 h3.1) (by simp)
                    · exact hseen.out p h1 (by omega) h3
                  clear hHB hseen hgo
                  go_wp2_with fail
                  go_roundg (n - (j + 1))
                  case measure => omega
                  case rel => exact ⟨j + 1, by omega, by omega, rfl, rfl, by go_num, hKw, hrw5, hseen2.out⟩
                · have hN : NextAt n (SkipsAt A B lim) F (s t) j := by
                    rw [← HI.out]
                    exact ⟨hcj, hlt2, hHB.out.1 rfl, hgo, hseen.out⟩
                  have hS2 : Hid (ShortTo n (SkipsAt A B lim) F (fun k => if k ≤ t then s k else j) (t + 1)) := hS.out.push hN
                  have hO5 := hcell.out w5 hKw
                  have hK5 := hK.trans hKw
                  have hsz5 : B0 ≤ w5.heap.size := Nat.le_trans hsz hKw.size
                  have ei : Hid (ints (fun k => ((if k ≤ t then s k else j : Nat) : Int)) (t + 1 + 1) = ints (fun k => (s k : Int)) (t + 1) ++ [.int .i64 j]) := by
                    show _ = _
                    rw [← ints_sn]
                    refine ints_congr (fun k hk => ?_)
                    unfold snI
                    by_cases e : k ≤ t
                    · rw [if_pos e, if_neg (by omega)]
                    · rw [if_neg e, if_pos (by omega)]
                  have sbd : t ≤ 1001 := by have := few_lt HF.out hone.out (n - 1) 0 (by omega) (by omega); omega
                  have ej : Hid (j = (if t + 1 ≤ t then s (t + 1) else j)) := by show _ = _; rw [if_neg (by omega)]
                  clear hHB hseen hgo hN hcell hO hsz hS hK hft hKw
                  go_wp2_with (first | (at_builtin; refine wpList_append_own _ rfl _ _ 27 rfl B0 3 i0 (.int .i64 0) 1 8 Try.underlying27 hi hz0 hz1 hz2 rfl (by decide) _ _ _ rfl (hO5.alloc _) ⟨w5.heap.size, 0, none⟩ 1 1 [.int .i64 j] rfl rfl (news_one _ _ _) ?c2 ?c3 ?c4 ?c5 ?_))
                  case c2 => simp [Value.oneCell']
                  case c3 => unfold maxLen; omega
                  case c4 => omega
                  case c5 => first | omega | (simp; omega)
                  intro v' w2 hO3 hgr _
                  have hX2 := grew_X hgr (hO5.alloc (.cells #[.int .i64 j] 3))
                  have hK2 : Kept w w2 := (hK5.alloc _).step hX2 (fun i hi => Nat.le_trans hwle hi)
                  have hsz6 : B0 ≤ w2.heap.size := Nat.le_trans hsz5 (Nat.le_trans (((Kept.refl w5).alloc (.cells #[.int .i64 j] 3)).size) hgr.size)
                  have hrw6 : w2.rowIs r 3 n (fun i => .int .i64 (G i)) := own_grown (((Kept.refl w5).alloc (.cells #[.int .i64 j] 3)).row hrw5) hrlt (hO5.alloc (.cells #[.int .i64 j] 3)) hgr
                  have hO6 : w2.ownsRow B0 3 1 v' (t + 1 + 1) (ints (fun k => ((if k ≤ t then s k else j : Nat) : Int)) (t + 1 + 1)) := by
                    rw [ei.out]; exact hO3
                  clear hO3 hX2 hgr hO5 hrw5 hK5 ei
                  go_wp2_with fail
                  go_roundg (n - j)
                  case measure => have := HI.out; omega
                  case rel => exact ⟨t + 1, fun k => if k ≤ t then s k else j, by show n - j = n - (if t + 1 ≤ t then s (t + 1) else j); rw [← ej.out], by show Value.int .i64 (j : Int) = .int .i64 ((if t + 1 ≤ t then s (t + 1) else j : Nat) : Int); rw [← ej.out], hK2, hrw6, hsz6, hO6, hS2.out⟩
              · have hd : (fj == fc - 1) = false := by rw [beq_eq_false_iff_ne, HFJ.out, HFC.out]; omega
                have hseen2 : Hid (∀ p, i < p → p < j + 1 → ¬ (SkipsAt A B lim i p ∧ F i = F p + 1)) := fun p h1 h2 h3 => by
                  by_cases e : p = j
                  · subst e; exact hgo h3.2
                  · exact hseen.out p h1 (by omega) h3
                clear hAj hbj hGj hbi hGi hgo hseen
                go_wp2_with fail
                refine wp_region_held_drew (S := (fun w' => w'.cell? ⟨r, j, none⟩ = some (.int .i64 fj) ∧ w'.cell? ⟨r, i, none⟩ = some (.int .i64 fc) ∧ Kept wr w')) (by kernel_rfl) ?_ (fun hHeld => ?_)
                · (try dsimp only)
                  exact keep2 x0 x1 (by repeat (first | assumption | exact Kept.refl _ | apply Kept.drew | apply Kept.drewN | apply Kept.alloc | refine Kept.trans ?_ (by assumption)))
                refine wpAnyH_take (i := 0) (oi := { dst := some 75, op := Go.Op.move (Go.Operand.tmp 6), type := 27, pos := "ref.go:171", after := #[], guard := none }) (v := ?v45) rfl (by kernel_rfl) (by kernel_rfl) (by kernel_rfl) (fun _ _ _ h => h) (Or.inl ⟨by rfl, ?hy45⟩) (by assumption) ?rs45
                case hy45 =>
                  intro w hSw
                  (try dsimp only at hSw)
                  go_simp
                  try with_reducible rfl
                (try simp only [Act.put, List.setIfInBounds_toArray, List.set_cons_zero, List.set_cons_succ])
                refine wpAnyH_take (i := 1) (oi := { dst := some 76, op := Go.Op.move (Go.Operand.tmp 11), type := 3, pos := "ref.go:171", after := #[], guard := none }) (v := ?v46) rfl (by kernel_rfl) (by kernel_rfl) (by kernel_rfl) (fun _ _ _ h => h) (Or.inl ⟨by rfl, ?hy46⟩) (by assumption) ?rs46
                case hy46 =>
                  intro w hSw
                  (try dsimp only at hSw)
                  go_simp
                  try with_reducible rfl
                (try simp only [Act.put, List.setIfInBounds_toArray, List.set_cons_zero, List.set_cons_succ])
                refine wpAnyH_take (i := 2) (oi := { dst := some 77, op := Go.Op.indexAddr 27 (Go.Operand.tmp 75) (Go.Operand.tmp 76), type := 0, pos := "ref.go:171", after := #[{ on := 0, ground := Go.Ground.data }, { on := 1, ground := Go.Ground.data }], guard := none }) (v := ?v47) rfl (by kernel_rfl) (by kernel_rfl) (by kernel_rfl) (fun _ _ _ h => h) (Or.inl ⟨by rfl, ?hy47⟩) (by assumption) ?rs47
                case hy47 =>
                  intro w hSw
                  (try dsimp only at hSw)
                  go_simp
                  try with_reducible rfl
                (try simp only [Act.put, List.setIfInBounds_toArray, List.set_cons_zero, List.set_cons_succ])
                refine wpAnyH_take (i := 3) (oi := { dst := some 78, op := Go.Op.load 3 (Go.Operand.tmp 77), type := 3, pos := "ref.go:171", after := #[{ on := 2, ground := Go.Ground.data }], guard := none }) (v := ?v48) rfl (by kernel_rfl) (by kernel_rfl) (by kernel_rfl) (fun _ _ _ h => h) (Or.inl ⟨by rfl, ?hy48⟩) (by assumption) ?rs48
                case hy48 =>
                  intro w hSw
                  (try dsimp only at hSw)
                  go_simp
                  try with_reducible rfl
                (try simp only [Act.put, List.setIfInBounds_toArray, List.set_cons_zero, List.set_cons_succ])
                refine wpAnyH_take (i := 4) (oi := { dst := some 79, op := Go.Op.move (Go.Operand.tmp 6), type := 27, pos := "ref.go:171", after := #[], guard := none }) (v := ?v49) rfl (by kernel_rfl) (by kernel_rfl) (by kernel_rfl) (fun _ _ _ h => h) (Or.inl ⟨by rfl, ?hy49⟩) (by assumption) ?rs49
                case hy49 =>
                  intro w hSw
                  (try dsimp only at hSw)
                  go_simp
                  try with_reducible rfl
                (try simp only [Act.put, List.setIfInBounds_toArray, List.set_cons_zero, List.set_cons_succ])
                refine wpAnyH_take (i := 5) (oi := { dst := some 80, op := Go.Op.move (Go.Operand.tmp 10), type := 3, pos := "ref.go:171", after := #[], guard := none }) (v := ?v50) rfl (by kernel_rfl) (by kernel_rfl) (by kernel_rfl) (fun _ _ _ h => h) (Or.inl ⟨by rfl, ?hy50⟩) (by assumption) ?rs50
                case hy50 =>
                  intro w hSw
                  (try dsimp only at hSw)
                  go_simp
                  try with_reducible rfl
                (try simp only [Act.put, List.setIfInBounds_toArray, List.set_cons_zero, List.set_cons_succ])
                refine wpAnyH_take (i := 6) (oi := { dst := some 81, op := Go.Op.indexAddr 27 (Go.Operand.tmp 79) (Go.Operand.tmp 80), type := 0, pos := "ref.go:171", after := #[{ on := 4, ground := Go.Ground.data }, { on := 5, ground := Go.Ground.data }], guard := none }) (v := ?v51) rfl (by kernel_rfl) (by kernel_rfl) (by kernel_rfl) (fun _ _ _ h => h) (Or.inl ⟨by rfl, ?hy51⟩) (by assumption) ?rs51
                case hy51 =>
                  intro w hSw
                  (try dsimp only at hSw)
                  go_simp
                  try with_reducible rfl
                (try simp only [Act.put, List.setIfInBounds_toArray, List.set_cons_zero, List.set_cons_succ])
                refine wpAnyH_take (i := 7) (oi := { dst := some 82, op := Go.Op.load 3 (Go.Operand.tmp 81), type := 3, pos := "ref.go:171", after := #[{ on := 6, ground := Go.Ground.data }], guard := none }) (v := ?v52) rfl (by kernel_rfl) (by kernel_rfl) (by kernel_rfl) (fun _ _ _ h => h) (Or.inl ⟨by rfl, ?hy52⟩) (by assumption) ?rs52
                case hy52 =>
                  intro w hSw
                  (try dsimp only at hSw)
                  go_simp
                  try with_reducible rfl
                (try simp only [Act.put, List.setIfInBounds_toArray, List.set_cons_zero, List.set_cons_succ])
                refine wpAnyH_take (i := 8) (oi := { dst := some 83, op := Go.Op.binOp Go.BinOp.sub 3 (Go.Operand.tmp 82) (Go.Operand.const (Go.Value.int Go.IntKind.i64 1)) 3, type := 3, pos := "ref.go:171", after := #[{ on := 7, ground := Go.Ground.data }], guard := none }) (v := ?v53) rfl (by kernel_rfl) (by kernel_rfl) (by kernel_rfl) (fun _ _ _ h => h) (Or.inl ⟨by rfl, ?hy53⟩) (by assumption) ?rs53
                case hy53 =>
                  intro w hSw
                  (try dsimp only at hSw)
                  go_simp
                  try with_reducible rfl
                (try simp only [Act.put, List.setIfInBounds_toArray, List.set_cons_zero, List.set_cons_succ])
                refine wpAnyH_take (i := 9) (oi := { dst := some 84, op := Go.Op.binOp Go.BinOp.eql 3 (Go.Operand.tmp 78) (Go.Operand.tmp 83) 3, type := 4, pos := "ref.go:171", after := #[{ on := 3, ground := Go.Ground.data }, { on := 8, ground := Go.Ground.data }], guard := none }) (v := ?v54) rfl (by kernel_rfl) (by kernel_rfl) (by kernel_rfl) (fun _ _ _ h => h) (Or.inl ⟨by rfl, ?hy54⟩) (by assumption) ?rs54
                case hy54 =>
                  intro w hSw
                  (try dsimp only at hSw)
                  go_simp
                  try with_reducible rfl
                (try simp only [Act.put, List.setIfInBounds_toArray, List.set_cons_zero, List.set_cons_succ])
                refine wpAnyH_take (i := 10) (oi := { dst := some 85, op := Go.Op.move (Go.Operand.tmp 84), type := 4, pos := "ref.go:171", after := #[{ on := 9, ground := Go.Ground.data }], guard := none }) (v := ?v55) rfl (by kernel_rfl) (by kernel_rfl) (by kernel_rfl) (fun _ _ _ h => h) (Or.inl ⟨by rfl, ?hy55⟩) (by assumption) ?rs55
                case hy55 =>
                  intro w hSw
                  (try dsimp only at hSw)
                  go_simp
                  try with_reducible rfl
                (try simp only [Act.put, List.setIfInBounds_toArray, List.set_cons_zero, List.set_cons_succ])
                refine wpAnyH_take (i := 11) (oi := { dst := some 86, op := Go.Op.move (Go.Operand.tmp 0), type := 22, pos := "ref.go:171", after := #[{ on := 10, ground := Go.Ground.guard }], guard := some (10, true) }) (v := undef) rfl (by kernel_rfl) (by kernel_rfl) (by kernel_rfl) (fun _ _ _ h => h) (Or.inr ⟨by rfl, rfl⟩) (by assumption) ?_
                (try simp only [Act.put, List.setIfInBounds_toArray, List.set_cons_zero, List.set_cons_succ])
                refine wpAnyH_take (i := 12) (oi := { dst := some 87, op := Go.Op.move (Go.Operand.tmp 10), type := 3, pos := "ref.go:171", after := #[{ on := 10, ground := Go.Ground.guard }], guard := some (10, true) }) (v := undef) rfl (by kernel_rfl) (by kernel_rfl) (by kernel_rfl) (fun _ _ _ h => h) (Or.inr ⟨by rfl, rfl⟩) (by assumption) ?_
                (try simp only [Act.put, List.setIfInBounds_toArray, List.set_cons_zero, List.set_cons_succ])
                refine wpAnyH_take (i := 13) (oi := { dst := some 88, op := Go.Op.move (Go.Operand.tmp 11), type := 3, pos := "ref.go:171", after := #[{ on := 10, ground := Go.Ground.guard }], guard := some (10, true) }) (v := undef) rfl (by kernel_rfl) (by kernel_rfl) (by kernel_rfl) (fun _ _ _ h => h) (Or.inr ⟨by rfl, rfl⟩) (by assumption) ?_
                (try simp only [Act.put, List.setIfInBounds_toArray, List.set_cons_zero, List.set_cons_succ])
                refine wpAnyH_take (i := 14) (oi := { dst := some 89, op := Go.Op.move (Go.Operand.tmp 1), type := 3, pos := "ref.go:171", after := #[{ on := 10, ground := Go.Ground.guard }], guard := some (10, true) }) (v := undef) rfl (by kernel_rfl) (by kernel_rfl) (by kernel_rfl) (fun _ _ _ h => h) (Or.inr ⟨by rfl, rfl⟩) (by assumption) ?_
                (try simp only [Act.put, List.setIfInBounds_toArray, List.set_cons_zero, List.set_cons_succ])
                refine wpAnyH_take (i := 15) (oi := { dst := some 90, op := Go.Op.call { callee := Go.Callee.value (Go.Operand.func 59), args := #[Go.Operand.tmp 86, Go.Operand.tmp 87, Go.Operand.tmp 88, Go.Operand.tmp 89], argTypes := #[22, 3, 3, 3] }, type := 4, pos := "ref.go:171", after := #[{ on := 11, ground := Go.Ground.data }, { on := 12, ground := Go.Ground.data }, { on := 13, ground := Go.Ground.data }, { on := 14, ground := Go.Ground.data }, { on := 10, ground := Go.Ground.chain }, { on := 10, ground := Go.Ground.guard }], guard := some (10, true) }) (v := undef) rfl (by kernel_rfl) (by kernel_rfl) (by kernel_rfl) (fun _ _ _ h => h) (Or.inr ⟨by rfl, rfl⟩) (by assumption) ?_
                (try simp only [Act.put, List.setIfInBounds_toArray, List.set_cons_zero, List.set_cons_succ])
                refine wpAnyH_take (i := 16) (oi := { dst := some 91, op := Go.Op.pick (Go.Operand.tmp 85) (Go.Operand.tmp 90) (Go.Operand.const (Go.Value.bool false)), type := 4, pos := "ref.go:171", after := #[{ on := 10, ground := Go.Ground.data }, { on := 15, ground := Go.Ground.data }], guard := none }) (v := ?v56) rfl (by kernel_rfl) (by kernel_rfl) (by kernel_rfl) (fun _ _ _ h => h) (Or.inl ⟨by rfl, ?hy56⟩) (by assumption) ?rs56
                case hy56 =>
                  intro w hSw
                  (try dsimp only at hSw)
                  go_simp
                  try with_reducible rfl
                (try simp only [Act.put, List.setIfInBounds_toArray, List.set_cons_zero, List.set_cons_succ])
                refine wpAnyH_done (by kernel_rfl) ?_ _
                have hKW : Kept wr wr.drew := (by repeat (first | assumption | exact Kept.refl _ | apply Kept.drew | apply Kept.drewN | apply Kept.alloc | refine Kept.trans ?_ (by assumption)))
                have hKw := hK4.trans hKW
                have hrw5 := hKW.row hrw
                clear hK4 hKW hrw hHeld x0 x1
                go_wp2_with fail
                go_roundg (n - (j + 1))
                case measure => omega
                case rel => exact ⟨j + 1, by omega, by omega, rfl, rfl, by go_num, hKw, hrw5, hseen2.out⟩
            · exfalso
              obtain ⟨p, p1, p2, p3, p4⟩ := HF.out.has i (Nat.zero_le _) hlt3
              exact hseen.out p p1 (by omega) ⟨p3, p4⟩
        · have s1 : ¬ (i : Int) < (n : Int) - 1 := by omega
          have hz : Hid (t = F 0) := by
            have := HF.out.last
            rw [show n - 1 = i by omega] at this
            show t = F 0
            omega
          go_wp2_with fail
          go_ret
          refine ⟨F, s, _, rfl, ?_, HF.out, ?_, hK⟩
          · rw [← hz.out]; exact own_base hO hwle
          · rw [← hz.out]; exact hS.out
end Go.Proofs.Ytomnjcjipdnnfaa
