/-
  The reference's Step.
-/
import Derived.Test.YtlgpclnmonpkjaaWl
namespace Go.Proofs.Ytlgpclnmonpkjaa
open Go.RowKit Go.Deep

theorem two_news (w : World) (a b : Value) (t : TypeId) : ∀ (j : Nat) u, [a, b][j]? = some u → (w.alloc (.cells #[a, b] t)).cell? ((⟨w.heap.size, 0, none⟩ : Addr).add j) = some u := fun j u h => by
  have hbx := box2 w a b t
  have : j = 0 ∨ j = 1 := by
    rcases Nat.lt_or_ge j 2 with e | e
    · omega
    · rw [List.getElem?_eq_none (by simp; omega)] at h; cases h
  rcases this with rfl | rfl
  · cases h; rw [add_at]; exact hbx.1
  · cases h; rw [add_at]; exact hbx.2
theorem holdB_self (R : Road) (H : Nat → Sp) (t i : Nat) : holdB R H t i i = false := by
  unfold holdB
  rw [if_pos rfl]
  exact decide_eq_false (Nat.lt_irrefl _)
theorem holdB_ref {R : Road} (h : R.Ok) {H : Nat → Sp} {t o i : Nat} (ho : R.spot (H o)) (hi : R.spot (H i)) :
    holdB R H t o i = ((decide (R.dist (H o) (t, 0) < R.dist (H i) (t, 0)) && decide (R.dist (H i) (H o) + R.dist (H o) (t, 0) = R.dist (H i) (t, 0))) || (decide (H o = H i) && decide (o < i))) := by
  unfold holdB
  by_cases e : H o = H i
  · rw [if_pos e, e, decide_eq_true rfl, decide_eq_false (Nat.lt_irrefl _)]
    simp
  · rw [if_neg e, decide_eq_false e]
    have hd : R.dist (H i) (H o) ≠ 0 := fun h0 => e ((Road.dist_zero h hi ho).1 h0).symm
    by_cases e2 : R.dist (H i) (H o) + R.dist (H o) (t, 0) = R.dist (H i) (t, 0)
    · rw [decide_eq_true e2, decide_eq_true (show R.dist (H o) (t, 0) < R.dist (H i) (t, 0) by omega)]
      rfl
    · rw [decide_eq_false e2]
      simp
theorem Kept.named {w w' : World} (h : Kept w w') : ∃ z, z = w' ∧ Kept w z := ⟨_, rfl, h⟩
theorem not_allN (p : Nat → Bool) (k : Nat) : (!allN p (k + 1)) = (!allN p k || !p k) := by
  simp [allN]
set_option maxRecDepth 100000 in
set_option maxHeartbeats 8000000 in
theorem rStep_any (w : World) (v hv : Value) (R : Road) (ok : R.Ok) (hT : RefAt w v R) (k : Nat) (H : Nat → Sp) (hP : SpsAt w hv k H) (t : Nat) (ht : t < R.n) (hk1 : 1 ≤ k) (hk : k ≤ 100) (hS : ∀ i, i < k → R.spot (H i)) (hne : ∀ i, i < k → H i ≠ (t, 0)) :
    Calls Try.prog 26 #[v, hv, .int .i64 (t : Int)] w (StepPost w R H t k) := by
  have hT0 := hT
  obtain ⟨b0, o0, c0, b1, o1, c1, rfl, _, _⟩ := hT.open ok
  obtain ⟨a, hb, ho, hcap, rfl, ha, hc⟩ := hP
  obtain rfl := ha (by omega)
  obtain ⟨i1, hi0, hz0, hz1, hz2⟩ := info_parts Try.infoSpot
  have htz := Road.place_spot ht
  have DT : Hid (∀ (W : World) (p u : Nat), RefAt W (.agg #[.slice (some ⟨b0, o0, none⟩) R.n c0, .slice (some ⟨b1, o1, none⟩) R.n c1]) R → R.spot (p, u) → Calls Try.prog 20 #[(.agg #[.slice (some ⟨b0, o0, none⟩) R.n c0, .slice (some ⟨b1, o1, none⟩) R.n c1]), .agg #[.int .i64 (p : Int), .int .i64 (u : Int)], .agg #[.int .i64 (t : Int), .int .i64 0]] W fun e w' => e = .returned (.int .i64 ((R.dist (p, u) (t, 0) : Nat) : Int)) ∧ Kept W w') := fun W p u hW hs => rDistance_any W _ R ok hW (p, u) (t, 0) hs htz
  have DG : Hid (∀ (W : World) (p u q x : Nat), RefAt W (.agg #[.slice (some ⟨b0, o0, none⟩) R.n c0, .slice (some ⟨b1, o1, none⟩) R.n c1]) R → R.spot (p, u) → R.spot (q, x) → Calls Try.prog 20 #[(.agg #[.slice (some ⟨b0, o0, none⟩) R.n c0, .slice (some ⟨b1, o1, none⟩) R.n c1]), .agg #[.int .i64 (p : Int), .int .i64 (u : Int)], .agg #[.int .i64 (q : Int), .int .i64 (x : Int)]] W fun e w' => e = .returned (.int .i64 ((R.dist (p, u) (q, x) : Nat) : Int)) ∧ Kept W w') := fun W p u q x hW hs hs2 => rDistance_any W _ R ok hW (p, u) (q, x) hs hs2
  have TW : Hid (∀ (W : World) (p u : Nat), RefAt W (.agg #[.slice (some ⟨b0, o0, none⟩) R.n c0, .slice (some ⟨b1, o1, none⟩) R.n c1]) R → R.spot (p, u) → (p, u) ≠ (t, 0) → Calls Try.prog 55 #[(.agg #[.slice (some ⟨b0, o0, none⟩) R.n c0, .slice (some ⟨b1, o1, none⟩) R.n c1]), .agg #[.int .i64 (p : Int), .int .i64 (u : Int)], .agg #[.int .i64 (t : Int), .int .i64 0]] W fun e w' => e = .returned (SpV (R.to (p, u) (t, 0))) ∧ Kept W w') := fun W p u hW hs hn => Toward_any W _ R ok hW (p, u) (t, 0) hs htz hn
  obtain ⟨n0, HN0⟩ : ∃ n0, w.heap.size = n0 := ⟨_, rfl⟩
  obtain ⟨W1, hW1, hsz, q0, q1, hKw⟩ := newbox2 w n0 HN0 (.slice (some ⟨b0, o0, none⟩) R.n c0) (.slice (some ⟨b1, o1, none⟩) R.n c1) 24
  obtain ⟨W2, hW2, hsz2, hO2, hK12⟩ : ∃ W2, W1.alloc (.cells #[] 26) = W2 ∧ W2.heap.size = n0 + 1 + 1 ∧ W2.ownsRow (n0 + 1) 26 2 (.slice (some ⟨n0 + 1, 0, none⟩) 0 0) 0 (spsL (stepH R H t k) 0) ∧ Kept W1 W2 := by
    have h := own_zeroT W1 (n0 + 1) 26 2 (by omega)
    rw [hsz] at h
    exact ⟨_, rfl, by simp [hsz], h, (Kept.refl W1).alloc _⟩
  have hrow3 := box2row W2 (n0 + 1 + 1) hsz2 (.int .i64 0) (.int .i64 0) 26
  obtain ⟨W3, hW3, hsz3, y0, y1, hK23⟩ := newbox2 W2 (n0 + 1 + 1) hsz2 (.int .i64 0) (.int .i64 0) 26
  rw [hW3] at hrow3
  have fz0 := hrow3.frozen 0
  have fz1 := hrow3.frozen 1
  have hrow4 := box2_set hrow3 (.int .i64 (t : Int)) (.int .i64 0)
  have hK34 : Kept W2 ((W3.setCell ⟨n0 + 1 + 1, 0, none⟩ (.int .i64 (t : Int))).setCell ⟨n0 + 1 + 1, 1, none⟩ (.int .i64 0)) := (hK23.setCell (p := ⟨n0 + 1 + 1, 0, none⟩) (by show W2.heap.size ≤ n0 + 1 + 1; omega) _).setCell (p := ⟨n0 + 1 + 1, 1, none⟩) (by show W2.heap.size ≤ n0 + 1 + 1; omega) _
  have hT1 := hT0.kept hKw
  have HC := Lib.hid hc
  have OK := Lib.hid ok
  clear hc hT hT0 hK23
  go_enter Try.func26, Try.ntmps26
  go_wp2_with fail
  obtain ⟨W4, HW4⟩ : ∃ W4, (W3.setCell ⟨n0 + 1 + 1, 0, none⟩ (.int .i64 (t : Int))).setCell ⟨n0 + 1 + 1, 1, none⟩ (.int .i64 0) = W4 := ⟨_, rfl⟩
  rw [HW4] at hrow4 hK34 ⊢
  have hO4 := own_keptY hO2 hK34 (fun _ _ _ _ _ h => h)
  have hnb4 : (Value.slice (some ⟨n0 + 1, 0, none⟩) 0 0).ownBlock ≠ some (n0 + 1 + 1) := by
    intro e; injection e with e; simp at e
  have hK4 := hK12.trans hK34
  obtain ⟨nt, HNT⟩ : ∃ nt, n0 + 1 + 1 = nt := ⟨_, rfl⟩
  rw [HNT] at hrow4 hnb4 ⊢
  obtain ⟨nb, HNB⟩ : ∃ nb, n0 + 1 = nb := ⟨_, rfl⟩
  rw [HNB] at hO4 hnb4 hsz ⊢
  have hwb : w.heap.size ≤ nb := by omega
  have hb1 : W1.heap.size ≤ nb := by omega
  have hb2 : nb ≤ W1.heap.size := by omega
  clear hW1 hW2 hW3 HW4 hsz2 hsz3 y0 y1 fz0 fz1 hrow3 hO2 hK34 hK12 HNT HN0
  go_loopg [9, 10, 11] k (fun g s9 s10 s11 wr => ∃ i : Nat, i ≤ k ∧ g = k - i ∧ s11 = .int .i64 i ∧ s10 = .int .i64 ((cnt (mayB R H t k) i : Nat) : Int) ∧ ∃ ov, s9 = ov ∧ wr.ownsRow nb 26 2 ov i (spsL (stepH R H t k) i) ∧ ov.ownBlock ≠ some nt ∧ wr.rowIs nt 26 2 (bx2 (.int .i64 (t : Int)) (.int .i64 0)) ∧ Kept W1 wr)
  case atStart => exact ⟨0, Nat.zero_le _, rfl, rfl, rfl, _, rfl, hO4, hnb4, hrow4, hK4⟩
  case round =>
    clear hO4 hnb4 hrow4 hK4
    obtain ⟨i, hi, rfl, rfl, rfl, ov, rfl, hO, hnb, hrt, hK⟩ := hrel
    obtain ⟨oa, ocap, rfl⟩ := own_shape hO
    by_cases hlt : i < k
    · have hci := HC.out i hlt
      have hsi := hS i hlt
      have hni := hne i hlt
      have hcl := cnt_le (mayB R H t k) i
      obtain ⟨⟨p, u⟩, HPI⟩ : ∃ z, Hid (z = H i) := ⟨_, rfl⟩
      rw [← HPI.out] at hci hsi hni
      simp only at hci
      have n1 : (i : Int) < (k : Int) := by omega
      have n2 : (0 : Int) ≤ (i : Int) := by omega
      go_wp2_with fail
      obtain ⟨Wo, rfl⟩ : ∃ Wo : World, Wo = wr := ⟨_, rfl⟩
      go_loopg [12, 13] k (fun g s12 s13 wr => ∃ o : Nat, o ≤ k ∧ g = k - o ∧ s13 = .int .i64 o ∧ s12 = .bool (!allN (fun o => !holdB R H t o i) o) ∧ Kept Wo wr)
      case atStart => exact ⟨0, Nat.zero_le _, rfl, rfl, rfl, Kept.refl _⟩
      case round =>
        obtain ⟨o, hoK, rfl, rfl, rfl, hKi⟩ := hrel
        have hTi := hT1.kept (hK.trans hKi)
        obtain ⟨a0, a1, _⟩ := keep2 q0 q1 (hK.trans hKi)
        have a2 : wr.cell? ⟨nt, 0, none⟩ = some (.int .i64 (t : Int)) := (hKi.row hrt).cell (i := 0) (by omega)
        have a3 : wr.cell? ⟨nt, 1, none⟩ = some (.int .i64 0) := (hKi.row hrt).cell (i := 1) (by omega)
        have a6 := ((hKw.trans hK).trans hKi).cellSome hci.1
        have a7 := ((hKw.trans hK).trans hKi).cellSome hci.2
        by_cases hlo : o < k
        · have n3 : (o : Int) < (k : Int) := by omega
          have n4 : (0 : Int) ≤ (o : Int) := by omega
          obtain ⟨hd, HHD⟩ : ∃ z, Hid (z = (!allN (fun o => !holdB R H t o i) o)) := ⟨_, rfl⟩
          have hnx := not_allN (fun o => !holdB R H t o i) o
          rw [← HHD.out, Bool.not_not] at hnx
          rw [← HHD.out]
          by_cases heq : o = i
          · subst heq
            rw [holdB_self, Bool.or_false] at hnx
            have HNX : Hid (Value.bool hd = .bool (!allN (fun o_1 => !holdB R H t o_1 o) (o + 1))) := by show _ = _; rw [hnx]
            clear hnx
            go_wp2_with fail
            go_roundg (k - (o + 1))
            case measure => omega
            case rel => exact ⟨o + 1, by omega, rfl, by go_num, HNX.out, hKi⟩
          · have hco := HC.out o hlo
            have hso := hS o hlo
            have hhr := holdB_ref OK.out (t := t) hso (hS i hlt)
            obtain ⟨⟨q, x⟩, HPO⟩ : ∃ z, Hid (z = H o) := ⟨_, rfl⟩
            rw [← HPO.out] at hco hso hhr
            rw [← HPI.out] at hhr
            simp only at hco
            rw [hhr] at hnx
            have a4 := ((hKw.trans hK).trans hKi).cellSome hco.1
            have a5 := ((hKw.trans hK).trans hKi).cellSome hco.2
            have b34 : ((o : Int) == (i : Int)) = false := by simp; omega
            have hdl1 := Road.dist_le OK.out hso htz
            have hdl2 := Road.dist_le OK.out hsi hso
            have DD := Lib.hid (fun W hW => DG.out W p u q x hW hsi hso)
            obtain ⟨d, HDD⟩ : ∃ z, Hid (z = R.dist (p, u) (q, x)) := ⟨_, rfl⟩
            rw [← HDD.out] at DD hnx hdl2
            clear hhr hco
            go_wp2_with fail
            go_cut [14, 15] (fun v14 v15 wx => v14 = .int .i64 ((R.dist (q, x) (t, 0) : Nat) : Int) ∧ v15 = .int .i64 ((R.dist (p, u) (t, 0) : Nat) : Int) ∧ Kept wr wx)
            case first =>
              go_region_held3 (fun w' => w'.cell? ⟨n0, 0, none⟩ = some (.slice (some ⟨b0, o0, none⟩) R.n c0) ∧ w'.cell? ⟨n0, 1, none⟩ = some (.slice (some ⟨b1, o1, none⟩) R.n c1) ∧ w'.cell? ⟨nt, 0, none⟩ = some (.int .i64 (t : Int)) ∧ w'.cell? ⟨nt, 1, none⟩ = some (.int .i64 0) ∧ w'.cell? ⟨hb, ho + o * 2, none⟩ = some (.int .i64 (q : Int)) ∧ w'.cell? ⟨hb, ho + o * 2 + 1, none⟩ = some (.int .i64 (x : Int)) ∧ w'.cell? ⟨hb, ho + i * 2, none⟩ = some (.int .i64 (p : Int)) ∧ w'.cell? ⟨hb, ho + i * 2 + 1, none⟩ = some (.int .i64 (u : Int)) ∧ Kept wr w')
                (exact keep8 a0 a1 a2 a3 a4 a5 a6 a7 (by repeat (first | assumption | exact Kept.refl _ | apply Kept.drew | apply Kept.drewN | apply Kept.alloc | refine Kept.trans ?_ (by assumption))))
                (first | (go_at_call 20; refine (DT.out _ _ _ (hTi.kept (by repeat (first | assumption | exact Kept.refl _ | apply Kept.drew | apply Kept.drewN | apply Kept.alloc | refine Kept.trans ?_ (by assumption)))) (by first | exact hsi | exact hso)).mono ?_; rintro e wd ⟨rfl, hkd⟩))
              all_goals
                go_wp2_with fail
                go_meet
                exact ⟨rfl, rfl, (by repeat (first | assumption | exact Kept.refl _ | apply Kept.drew | apply Kept.drewN | apply Kept.alloc | refine Kept.trans ?_ (by assumption)))⟩
            case rest =>
              obtain ⟨rfl, rfl, hxK⟩ := hcut
              obtain ⟨wx, hwx, hxK⟩ := Kept.named hxK
              subst hwx
              obtain ⟨far, HFA⟩ : ∃ z, Hid (z = R.dist (q, x) (t, 0)) := ⟨_, rfl⟩
              obtain ⟨own, HOW⟩ : ∃ z, Hid (z = R.dist (p, u) (t, 0)) := ⟨_, rfl⟩
              rw [← HFA.out] at hnx hdl1 ⊢
              rw [← HOW.out] at hnx ⊢
              obtain ⟨d0, d1, d2, d3, d4, d5, d6, d7, _⟩ := keep8 a0 a1 a2 a3 a4 a5 a6 a7 hxK
              have hTx := hTi.kept hxK
              obtain ⟨bt, HBT⟩ : ∃ z, Hid (z = (decide (far < own) && decide (d + far = own))) := ⟨_, rfl⟩
              rw [← HBT.out] at hnx
              go_wp2_with fail
              go_cut [16] (fun v16 wy => v16 = .bool bt ∧ Kept wx wy)
              case first =>
                clear hnx
                by_cases hfo : far < own
                · rw [decide_eq_true hfo, Bool.true_and] at HBT
                  have m1 : (far : Int) < (own : Int) := by omega
                  have s1 : IntKind.i64.wrap ((d : Int) + (far : Int)) = (d : Int) + (far : Int) := IntWalk.i64_in _ (by omega)
                  refine wp_region_held_drew (S := (fun w' => w'.cell? ⟨n0, 0, none⟩ = some (.slice (some ⟨b0, o0, none⟩) R.n c0) ∧ w'.cell? ⟨n0, 1, none⟩ = some (.slice (some ⟨b1, o1, none⟩) R.n c1) ∧ w'.cell? ⟨nt, 0, none⟩ = some (.int .i64 (t : Int)) ∧ w'.cell? ⟨nt, 1, none⟩ = some (.int .i64 0) ∧ w'.cell? ⟨hb, ho + o * 2, none⟩ = some (.int .i64 (q : Int)) ∧ w'.cell? ⟨hb, ho + o * 2 + 1, none⟩ = some (.int .i64 (x : Int)) ∧ w'.cell? ⟨hb, ho + i * 2, none⟩ = some (.int .i64 (p : Int)) ∧ w'.cell? ⟨hb, ho + i * 2 + 1, none⟩ = some (.int .i64 (u : Int)) ∧ Kept wx w')) (by kernel_rfl) ?_ (fun hHeld => ?_)
                  · (try dsimp only)
                    exact keep8 d0 d1 d2 d3 d4 d5 d6 d7 (by repeat (first | assumption | exact Kept.refl _ | apply Kept.drew | apply Kept.drewN | apply Kept.alloc | refine Kept.trans ?_ (by assumption)))
                  refine wpAnyH_take (i := 0) (oi := { dst := some 49, op := Go.Op.move (Go.Operand.tmp 14), type := 3, pos := "ref.go:103", after := #[], guard := none }) (v := ?v1) rfl (by kernel_rfl) (by kernel_rfl) (by kernel_rfl) (fun _ _ _ h => h) (Or.inl ⟨by rfl, ?hy1⟩) (by assumption) ?rs1
                  case hy1 =>
                    intro w hSw
                    (try dsimp only at hSw)
                    go_simp
                    try with_reducible rfl
                  (try simp only [Act.put, List.setIfInBounds_toArray, List.set_cons_zero, List.set_cons_succ])
                  refine wpAnyH_take (i := 1) (oi := { dst := some 50, op := Go.Op.move (Go.Operand.tmp 15), type := 3, pos := "ref.go:103", after := #[], guard := none }) (v := ?v2) rfl (by kernel_rfl) (by kernel_rfl) (by kernel_rfl) (fun _ _ _ h => h) (Or.inl ⟨by rfl, ?hy2⟩) (by assumption) ?rs2
                  case hy2 =>
                    intro w hSw
                    (try dsimp only at hSw)
                    go_simp
                    try with_reducible rfl
                  (try simp only [Act.put, List.setIfInBounds_toArray, List.set_cons_zero, List.set_cons_succ])
                  refine wpAnyH_take (i := 2) (oi := { dst := some 51, op := Go.Op.binOp Go.BinOp.lss 3 (Go.Operand.tmp 49) (Go.Operand.tmp 50) 3, type := 4, pos := "ref.go:103", after := #[{ on := 0, ground := Go.Ground.data }, { on := 1, ground := Go.Ground.data }], guard := none }) (v := ?v3) rfl (by kernel_rfl) (by kernel_rfl) (by kernel_rfl) (fun _ _ _ h => h) (Or.inl ⟨by rfl, ?hy3⟩) (by assumption) ?rs3
                  case hy3 =>
                    intro w hSw
                    (try dsimp only at hSw)
                    go_simp
                    try with_reducible rfl
                  (try simp only [Act.put, List.setIfInBounds_toArray, List.set_cons_zero, List.set_cons_succ])
                  refine wpAnyH_take (i := 3) (oi := { dst := some 52, op := Go.Op.move (Go.Operand.tmp 51), type := 4, pos := "ref.go:103", after := #[{ on := 2, ground := Go.Ground.data }], guard := none }) (v := ?v4) rfl (by kernel_rfl) (by kernel_rfl) (by kernel_rfl) (fun _ _ _ h => h) (Or.inl ⟨by rfl, ?hy4⟩) (by assumption) ?rs4
                  case hy4 =>
                    intro w hSw
                    (try dsimp only at hSw)
                    go_simp
                    try with_reducible rfl
                  (try simp only [Act.put, List.setIfInBounds_toArray, List.set_cons_zero, List.set_cons_succ])
                  refine wpAnyH_take (i := 4) (oi := { dst := some 53, op := Go.Op.load 24 (Go.Operand.tmp 3), type := 24, pos := "ref.go:103", after := #[{ on := 3, ground := Go.Ground.guard }], guard := some (3, true) }) (v := ?v5) rfl (by kernel_rfl) (by kernel_rfl) (by kernel_rfl) (fun _ _ _ h => h) (Or.inl ⟨by rfl, ?hy5⟩) (by assumption) ?rs5
                  case hy5 =>
                    intro w hSw
                    (try dsimp only at hSw)
                    go_simp
                    try with_reducible rfl
                  (try simp only [Act.put, List.setIfInBounds_toArray, List.set_cons_zero, List.set_cons_succ])
                  refine wpAnyH_take (i := 5) (oi := { dst := some 54, op := Go.Op.move (Go.Operand.tmp 1), type := 36, pos := "ref.go:103", after := #[{ on := 3, ground := Go.Ground.guard }], guard := some (3, true) }) (v := ?v6) rfl (by kernel_rfl) (by kernel_rfl) (by kernel_rfl) (fun _ _ _ h => h) (Or.inl ⟨by rfl, ?hy6⟩) (by assumption) ?rs6
                  case hy6 =>
                    intro w hSw
                    (try dsimp only at hSw)
                    go_simp
                    try with_reducible rfl
                  (try simp only [Act.put, List.setIfInBounds_toArray, List.set_cons_zero, List.set_cons_succ])
                  refine wpAnyH_take (i := 6) (oi := { dst := some 55, op := Go.Op.move (Go.Operand.tmp 11), type := 3, pos := "ref.go:103", after := #[{ on := 3, ground := Go.Ground.guard }], guard := some (3, true) }) (v := ?v7) rfl (by kernel_rfl) (by kernel_rfl) (by kernel_rfl) (fun _ _ _ h => h) (Or.inl ⟨by rfl, ?hy7⟩) (by assumption) ?rs7
                  case hy7 =>
                    intro w hSw
                    (try dsimp only at hSw)
                    go_simp
                    try with_reducible rfl
                  (try simp only [Act.put, List.setIfInBounds_toArray, List.set_cons_zero, List.set_cons_succ])
                  refine wpAnyH_take (i := 7) (oi := { dst := some 56, op := Go.Op.indexAddr 36 (Go.Operand.tmp 54) (Go.Operand.tmp 55), type := 0, pos := "ref.go:103", after := #[{ on := 5, ground := Go.Ground.data }, { on := 6, ground := Go.Ground.data }, { on := 3, ground := Go.Ground.guard }], guard := some (3, true) }) (v := ?v8) rfl (by kernel_rfl) (by kernel_rfl) (by kernel_rfl) (fun _ _ _ h => h) (Or.inl ⟨by rfl, ?hy8⟩) (by assumption) ?rs8
                  case hy8 =>
                    intro w hSw
                    (try dsimp only at hSw)
                    go_simp
                    try with_reducible rfl
                  (try simp only [Act.put, List.setIfInBounds_toArray, List.set_cons_zero, List.set_cons_succ])
                  refine wpAnyH_take (i := 8) (oi := { dst := some 57, op := Go.Op.load 26 (Go.Operand.tmp 56), type := 26, pos := "ref.go:103", after := #[{ on := 7, ground := Go.Ground.data }, { on := 3, ground := Go.Ground.guard }], guard := some (3, true) }) (v := ?v9) rfl (by kernel_rfl) (by kernel_rfl) (by kernel_rfl) (fun _ _ _ h => h) (Or.inl ⟨by rfl, ?hy9⟩) (by assumption) ?rs9
                  case hy9 =>
                    intro w hSw
                    (try dsimp only at hSw)
                    go_simp
                    try with_reducible rfl
                  (try simp only [Act.put, List.setIfInBounds_toArray, List.set_cons_zero, List.set_cons_succ])
                  refine wpAnyH_take (i := 9) (oi := { dst := some 58, op := Go.Op.move (Go.Operand.tmp 1), type := 36, pos := "ref.go:103", after := #[{ on := 3, ground := Go.Ground.guard }], guard := some (3, true) }) (v := ?v10) rfl (by kernel_rfl) (by kernel_rfl) (by kernel_rfl) (fun _ _ _ h => h) (Or.inl ⟨by rfl, ?hy10⟩) (by assumption) ?rs10
                  case hy10 =>
                    intro w hSw
                    (try dsimp only at hSw)
                    go_simp
                    try with_reducible rfl
                  (try simp only [Act.put, List.setIfInBounds_toArray, List.set_cons_zero, List.set_cons_succ])
                  refine wpAnyH_take (i := 10) (oi := { dst := some 59, op := Go.Op.move (Go.Operand.tmp 13), type := 3, pos := "ref.go:103", after := #[{ on := 3, ground := Go.Ground.guard }], guard := some (3, true) }) (v := ?v11) rfl (by kernel_rfl) (by kernel_rfl) (by kernel_rfl) (fun _ _ _ h => h) (Or.inl ⟨by rfl, ?hy11⟩) (by assumption) ?rs11
                  case hy11 =>
                    intro w hSw
                    (try dsimp only at hSw)
                    go_simp
                    try with_reducible rfl
                  (try simp only [Act.put, List.setIfInBounds_toArray, List.set_cons_zero, List.set_cons_succ])
                  refine wpAnyH_take (i := 11) (oi := { dst := some 60, op := Go.Op.indexAddr 36 (Go.Operand.tmp 58) (Go.Operand.tmp 59), type := 0, pos := "ref.go:103", after := #[{ on := 9, ground := Go.Ground.data }, { on := 10, ground := Go.Ground.data }, { on := 3, ground := Go.Ground.guard }], guard := some (3, true) }) (v := ?v12) rfl (by kernel_rfl) (by kernel_rfl) (by kernel_rfl) (fun _ _ _ h => h) (Or.inl ⟨by rfl, ?hy12⟩) (by assumption) ?rs12
                  case hy12 =>
                    intro w hSw
                    (try dsimp only at hSw)
                    go_simp
                    try with_reducible rfl
                  (try simp only [Act.put, List.setIfInBounds_toArray, List.set_cons_zero, List.set_cons_succ])
                  refine wpAnyH_take (i := 12) (oi := { dst := some 61, op := Go.Op.load 26 (Go.Operand.tmp 60), type := 26, pos := "ref.go:103", after := #[{ on := 11, ground := Go.Ground.data }, { on := 3, ground := Go.Ground.guard }], guard := some (3, true) }) (v := ?v13) rfl (by kernel_rfl) (by kernel_rfl) (by kernel_rfl) (fun _ _ _ h => h) (Or.inl ⟨by rfl, ?hy13⟩) (by assumption) ?rs13
                  case hy13 =>
                    intro w hSw
                    (try dsimp only at hSw)
                    go_simp
                    try with_reducible rfl
                  (try simp only [Act.put, List.setIfInBounds_toArray, List.set_cons_zero, List.set_cons_succ])
                  refine wpAnyH_take (i := 14) (oi := { dst := some 63, op := Go.Op.move (Go.Operand.tmp 14), type := 3, pos := "ref.go:103", after := #[{ on := 3, ground := Go.Ground.guard }], guard := some (3, true) }) (v := ?v14) rfl (by kernel_rfl) (by kernel_rfl) (by kernel_rfl) (fun _ _ _ h => h) (Or.inl ⟨by rfl, ?hy14⟩) (by assumption) ?rs14
                  case hy14 =>
                    intro w hSw
                    (try dsimp only at hSw)
                    go_simp
                    try with_reducible rfl
                  (try simp only [Act.put, List.setIfInBounds_toArray, List.set_cons_zero, List.set_cons_succ])
                  refine wpAnyH_take (i := 16) (oi := { dst := some 65, op := Go.Op.move (Go.Operand.tmp 15), type := 3, pos := "ref.go:103", after := #[{ on := 3, ground := Go.Ground.guard }], guard := some (3, true) }) (v := ?v15) rfl (by kernel_rfl) (by kernel_rfl) (by kernel_rfl) (fun _ _ _ h => h) (Or.inl ⟨by rfl, ?hy15⟩) (by assumption) ?rs15
                  case hy15 =>
                    intro w hSw
                    (try dsimp only at hSw)
                    go_simp
                    try with_reducible rfl
                  (try simp only [Act.put, List.setIfInBounds_toArray, List.set_cons_zero, List.set_cons_succ])
                  refine wpAnyH_ready (rs := [13]) (by kernel_rfl) (by simp) ?_
                  refine AllReadyH.cons (o := { dst := some 62, op := Go.Op.call { callee := Go.Callee.value (Go.Operand.func 20), args := #[Go.Operand.tmp 53, Go.Operand.tmp 57, Go.Operand.tmp 61], argTypes := #[24, 26, 26] }, type := 3, pos := "ref.go:103", after := #[{ on := 4, ground := Go.Ground.data }, { on := 8, ground := Go.Ground.data }, { on := 12, ground := Go.Ground.data }, { on := 3, ground := Go.Ground.chain }, { on := 3, ground := Go.Ground.guard }], guard := some (3, true) }) rfl (fun K13 hK13 => ?_) AllReadyH.nil
                  go_simp
                  (go_at_call 20; refine (DD.out _ (hTx.kept (by repeat (first | assumption | exact Kept.refl _ | apply Kept.drew | apply Kept.drewN | apply Kept.alloc | refine Kept.trans ?_ (by assumption))))).mono ?_; rintro e wd ⟨rfl, hkd⟩)
                  (try go_wp2_with fail)
                  refine hK13.out _ _ ?_ (fun hHeld => ?_)
                  · (try dsimp only)
                    exact keep8 d0 d1 d2 d3 d4 d5 d6 d7 (by repeat (first | assumption | exact Kept.refl _ | apply Kept.drew | apply Kept.drewN | apply Kept.alloc | refine Kept.trans ?_ (by assumption)))
                  (try simp only [Act.put, List.setIfInBounds_toArray, List.set_cons_zero, List.set_cons_succ])
                  refine wpAnyH_take (i := 15) (oi := { dst := some 64, op := Go.Op.binOp Go.BinOp.add 3 (Go.Operand.tmp 62) (Go.Operand.tmp 63) 3, type := 3, pos := "ref.go:103", after := #[{ on := 13, ground := Go.Ground.data }, { on := 14, ground := Go.Ground.data }, { on := 3, ground := Go.Ground.guard }], guard := some (3, true) }) (v := ?v16) rfl (by kernel_rfl) (by kernel_rfl) (by kernel_rfl) (fun _ _ _ h => h) (Or.inl ⟨by rfl, ?hy16⟩) (by assumption) ?rs16
                  case hy16 =>
                    intro w hSw
                    (try dsimp only at hSw)
                    go_simp
                    try with_reducible rfl
                  (try simp only [Act.put, List.setIfInBounds_toArray, List.set_cons_zero, List.set_cons_succ])
                  refine wpAnyH_take (i := 17) (oi := { dst := some 66, op := Go.Op.binOp Go.BinOp.eql 3 (Go.Operand.tmp 64) (Go.Operand.tmp 65) 3, type := 4, pos := "ref.go:103", after := #[{ on := 15, ground := Go.Ground.data }, { on := 16, ground := Go.Ground.data }, { on := 3, ground := Go.Ground.guard }], guard := some (3, true) }) (v := ?v17) rfl (by kernel_rfl) (by kernel_rfl) (by kernel_rfl) (fun _ _ _ h => h) (Or.inl ⟨by rfl, ?hy17⟩) (by assumption) ?rs17
                  case hy17 =>
                    intro w hSw
                    (try dsimp only at hSw)
                    go_simp
                    try with_reducible rfl
                  (try simp only [Act.put, List.setIfInBounds_toArray, List.set_cons_zero, List.set_cons_succ])
                  refine wpAnyH_take (i := 18) (oi := { dst := some 67, op := Go.Op.pick (Go.Operand.tmp 52) (Go.Operand.tmp 66) (Go.Operand.const (Go.Value.bool false)), type := 4, pos := "ref.go:103", after := #[{ on := 3, ground := Go.Ground.data }, { on := 17, ground := Go.Ground.data }], guard := none }) (v := ?v18) rfl (by kernel_rfl) (by kernel_rfl) (by kernel_rfl) (fun _ _ _ h => h) (Or.inl ⟨by rfl, ?hy18⟩) (by assumption) ?rs18
                  case hy18 =>
                    intro w hSw
                    (try dsimp only at hSw)
                    go_simp
                    try with_reducible rfl
                  (try simp only [Act.put, List.setIfInBounds_toArray, List.set_cons_zero, List.set_cons_succ])
                  refine wpAnyH_take (i := 19) (oi := { dst := some 16, op := Go.Op.assign (Go.Operand.tmp 67), type := 4, pos := "ref.go:103", after := #[{ on := 18, ground := Go.Ground.data }, { on := 13, ground := Go.Ground.chain }, { on := 0, ground := Go.Ground.phase }, { on := 1, ground := Go.Ground.phase }, { on := 2, ground := Go.Ground.phase }, { on := 3, ground := Go.Ground.phase }, { on := 4, ground := Go.Ground.phase }, { on := 5, ground := Go.Ground.phase }, { on := 6, ground := Go.Ground.phase }, { on := 7, ground := Go.Ground.phase }, { on := 8, ground := Go.Ground.phase }, { on := 9, ground := Go.Ground.phase }, { on := 10, ground := Go.Ground.phase }, { on := 11, ground := Go.Ground.phase }, { on := 12, ground := Go.Ground.phase }, { on := 13, ground := Go.Ground.phase }, { on := 14, ground := Go.Ground.phase }, { on := 15, ground := Go.Ground.phase }, { on := 16, ground := Go.Ground.phase }, { on := 17, ground := Go.Ground.phase }, { on := 18, ground := Go.Ground.phase }], guard := none }) (v := ?v19) rfl (by kernel_rfl) (by kernel_rfl) (by kernel_rfl) (fun _ _ _ h => h) (Or.inl ⟨by rfl, ?hy19⟩) (by assumption) ?rs19
                  case hy19 =>
                    intro w hSw
                    (try dsimp only at hSw)
                    go_simp
                    try with_reducible rfl
                  (try simp only [Act.put, List.setIfInBounds_toArray, List.set_cons_zero, List.set_cons_succ])
                  refine wpAnyH_done (by kernel_rfl) ?_ _
                  go_wp2_with fail
                  go_meet
                  exact ⟨by rw [HBT.out, ← nat_beq2, Int.natCast_add], (by repeat (first | assumption | exact Kept.refl _ | apply Kept.drew | apply Kept.drewN | apply Kept.alloc | refine Kept.trans ?_ (by assumption)))⟩
                · rw [decide_eq_false hfo, Bool.false_and] at HBT
                  have m1 : ¬ (far : Int) < (own : Int) := by omega
                  have m2 : decide (far < own) = false := decide_eq_false hfo
                  refine wp_region_held_drew (S := (fun w' => w'.cell? ⟨n0, 0, none⟩ = some (.slice (some ⟨b0, o0, none⟩) R.n c0) ∧ w'.cell? ⟨n0, 1, none⟩ = some (.slice (some ⟨b1, o1, none⟩) R.n c1) ∧ w'.cell? ⟨nt, 0, none⟩ = some (.int .i64 (t : Int)) ∧ w'.cell? ⟨nt, 1, none⟩ = some (.int .i64 0) ∧ w'.cell? ⟨hb, ho + o * 2, none⟩ = some (.int .i64 (q : Int)) ∧ w'.cell? ⟨hb, ho + o * 2 + 1, none⟩ = some (.int .i64 (x : Int)) ∧ w'.cell? ⟨hb, ho + i * 2, none⟩ = some (.int .i64 (p : Int)) ∧ w'.cell? ⟨hb, ho + i * 2 + 1, none⟩ = some (.int .i64 (u : Int)) ∧ Kept wx w')) (by kernel_rfl) ?_ (fun hHeld => ?_)
                  · (try dsimp only)
                    exact keep8 d0 d1 d2 d3 d4 d5 d6 d7 (by repeat (first | assumption | exact Kept.refl _ | apply Kept.drew | apply Kept.drewN | apply Kept.alloc | refine Kept.trans ?_ (by assumption)))
                  refine wpAnyH_take (i := 0) (oi := { dst := some 49, op := Go.Op.move (Go.Operand.tmp 14), type := 3, pos := "ref.go:103", after := #[], guard := none }) (v := ?v20) rfl (by kernel_rfl) (by kernel_rfl) (by kernel_rfl) (fun _ _ _ h => h) (Or.inl ⟨by rfl, ?hy20⟩) (by assumption) ?rs20
                  case hy20 =>
                    intro w hSw
                    (try dsimp only at hSw)
                    go_simp
                    try with_reducible rfl
                  (try simp only [Act.put, List.setIfInBounds_toArray, List.set_cons_zero, List.set_cons_succ])
                  refine wpAnyH_take (i := 1) (oi := { dst := some 50, op := Go.Op.move (Go.Operand.tmp 15), type := 3, pos := "ref.go:103", after := #[], guard := none }) (v := ?v21) rfl (by kernel_rfl) (by kernel_rfl) (by kernel_rfl) (fun _ _ _ h => h) (Or.inl ⟨by rfl, ?hy21⟩) (by assumption) ?rs21
                  case hy21 =>
                    intro w hSw
                    (try dsimp only at hSw)
                    go_simp
                    try with_reducible rfl
                  (try simp only [Act.put, List.setIfInBounds_toArray, List.set_cons_zero, List.set_cons_succ])
                  refine wpAnyH_take (i := 2) (oi := { dst := some 51, op := Go.Op.binOp Go.BinOp.lss 3 (Go.Operand.tmp 49) (Go.Operand.tmp 50) 3, type := 4, pos := "ref.go:103", after := #[{ on := 0, ground := Go.Ground.data }, { on := 1, ground := Go.Ground.data }], guard := none }) (v := ?v22) rfl (by kernel_rfl) (by kernel_rfl) (by kernel_rfl) (fun _ _ _ h => h) (Or.inl ⟨by rfl, ?hy22⟩) (by assumption) ?rs22
                  case hy22 =>
                    intro w hSw
                    (try dsimp only at hSw)
                    go_simp
                    try with_reducible rfl
                  (try simp only [Act.put, List.setIfInBounds_toArray, List.set_cons_zero, List.set_cons_succ])
                  refine wpAnyH_take (i := 3) (oi := { dst := some 52, op := Go.Op.move (Go.Operand.tmp 51), type := 4, pos := "ref.go:103", after := #[{ on := 2, ground := Go.Ground.data }], guard := none }) (v := ?v23) rfl (by kernel_rfl) (by kernel_rfl) (by kernel_rfl) (fun _ _ _ h => h) (Or.inl ⟨by rfl, ?hy23⟩) (by assumption) ?rs23
                  case hy23 =>
                    intro w hSw
                    (try dsimp only at hSw)
                    go_simp
                    try with_reducible rfl
                  (try simp only [Act.put, List.setIfInBounds_toArray, List.set_cons_zero, List.set_cons_succ])
                  refine wpAnyH_take (i := 4) (oi := { dst := some 53, op := Go.Op.load 24 (Go.Operand.tmp 3), type := 24, pos := "ref.go:103", after := #[{ on := 3, ground := Go.Ground.guard }], guard := some (3, true) }) (v := undef) rfl (by kernel_rfl) (by kernel_rfl) (by kernel_rfl) (fun _ _ _ h => h) (Or.inr ⟨by rfl, rfl⟩) (by assumption) ?_
                  (try simp only [Act.put, List.setIfInBounds_toArray, List.set_cons_zero, List.set_cons_succ])
                  refine wpAnyH_take (i := 5) (oi := { dst := some 54, op := Go.Op.move (Go.Operand.tmp 1), type := 36, pos := "ref.go:103", after := #[{ on := 3, ground := Go.Ground.guard }], guard := some (3, true) }) (v := undef) rfl (by kernel_rfl) (by kernel_rfl) (by kernel_rfl) (fun _ _ _ h => h) (Or.inr ⟨by rfl, rfl⟩) (by assumption) ?_
                  (try simp only [Act.put, List.setIfInBounds_toArray, List.set_cons_zero, List.set_cons_succ])
                  refine wpAnyH_take (i := 6) (oi := { dst := some 55, op := Go.Op.move (Go.Operand.tmp 11), type := 3, pos := "ref.go:103", after := #[{ on := 3, ground := Go.Ground.guard }], guard := some (3, true) }) (v := undef) rfl (by kernel_rfl) (by kernel_rfl) (by kernel_rfl) (fun _ _ _ h => h) (Or.inr ⟨by rfl, rfl⟩) (by assumption) ?_
                  (try simp only [Act.put, List.setIfInBounds_toArray, List.set_cons_zero, List.set_cons_succ])
                  refine wpAnyH_take (i := 7) (oi := { dst := some 56, op := Go.Op.indexAddr 36 (Go.Operand.tmp 54) (Go.Operand.tmp 55), type := 0, pos := "ref.go:103", after := #[{ on := 5, ground := Go.Ground.data }, { on := 6, ground := Go.Ground.data }, { on := 3, ground := Go.Ground.guard }], guard := some (3, true) }) (v := undef) rfl (by kernel_rfl) (by kernel_rfl) (by kernel_rfl) (fun _ _ _ h => h) (Or.inr ⟨by rfl, rfl⟩) (by assumption) ?_
                  (try simp only [Act.put, List.setIfInBounds_toArray, List.set_cons_zero, List.set_cons_succ])
                  refine wpAnyH_take (i := 8) (oi := { dst := some 57, op := Go.Op.load 26 (Go.Operand.tmp 56), type := 26, pos := "ref.go:103", after := #[{ on := 7, ground := Go.Ground.data }, { on := 3, ground := Go.Ground.guard }], guard := some (3, true) }) (v := undef) rfl (by kernel_rfl) (by kernel_rfl) (by kernel_rfl) (fun _ _ _ h => h) (Or.inr ⟨by rfl, rfl⟩) (by assumption) ?_
                  (try simp only [Act.put, List.setIfInBounds_toArray, List.set_cons_zero, List.set_cons_succ])
                  refine wpAnyH_take (i := 9) (oi := { dst := some 58, op := Go.Op.move (Go.Operand.tmp 1), type := 36, pos := "ref.go:103", after := #[{ on := 3, ground := Go.Ground.guard }], guard := some (3, true) }) (v := undef) rfl (by kernel_rfl) (by kernel_rfl) (by kernel_rfl) (fun _ _ _ h => h) (Or.inr ⟨by rfl, rfl⟩) (by assumption) ?_
                  (try simp only [Act.put, List.setIfInBounds_toArray, List.set_cons_zero, List.set_cons_succ])
                  refine wpAnyH_take (i := 10) (oi := { dst := some 59, op := Go.Op.move (Go.Operand.tmp 13), type := 3, pos := "ref.go:103", after := #[{ on := 3, ground := Go.Ground.guard }], guard := some (3, true) }) (v := undef) rfl (by kernel_rfl) (by kernel_rfl) (by kernel_rfl) (fun _ _ _ h => h) (Or.inr ⟨by rfl, rfl⟩) (by assumption) ?_
                  (try simp only [Act.put, List.setIfInBounds_toArray, List.set_cons_zero, List.set_cons_succ])
                  refine wpAnyH_take (i := 11) (oi := { dst := some 60, op := Go.Op.indexAddr 36 (Go.Operand.tmp 58) (Go.Operand.tmp 59), type := 0, pos := "ref.go:103", after := #[{ on := 9, ground := Go.Ground.data }, { on := 10, ground := Go.Ground.data }, { on := 3, ground := Go.Ground.guard }], guard := some (3, true) }) (v := undef) rfl (by kernel_rfl) (by kernel_rfl) (by kernel_rfl) (fun _ _ _ h => h) (Or.inr ⟨by rfl, rfl⟩) (by assumption) ?_
                  (try simp only [Act.put, List.setIfInBounds_toArray, List.set_cons_zero, List.set_cons_succ])
                  refine wpAnyH_take (i := 12) (oi := { dst := some 61, op := Go.Op.load 26 (Go.Operand.tmp 60), type := 26, pos := "ref.go:103", after := #[{ on := 11, ground := Go.Ground.data }, { on := 3, ground := Go.Ground.guard }], guard := some (3, true) }) (v := undef) rfl (by kernel_rfl) (by kernel_rfl) (by kernel_rfl) (fun _ _ _ h => h) (Or.inr ⟨by rfl, rfl⟩) (by assumption) ?_
                  (try simp only [Act.put, List.setIfInBounds_toArray, List.set_cons_zero, List.set_cons_succ])
                  refine wpAnyH_take (i := 13) (oi := { dst := some 62, op := Go.Op.call { callee := Go.Callee.value (Go.Operand.func 20), args := #[Go.Operand.tmp 53, Go.Operand.tmp 57, Go.Operand.tmp 61], argTypes := #[24, 26, 26] }, type := 3, pos := "ref.go:103", after := #[{ on := 4, ground := Go.Ground.data }, { on := 8, ground := Go.Ground.data }, { on := 12, ground := Go.Ground.data }, { on := 3, ground := Go.Ground.chain }, { on := 3, ground := Go.Ground.guard }], guard := some (3, true) }) (v := undef) rfl (by kernel_rfl) (by kernel_rfl) (by kernel_rfl) (fun _ _ _ h => h) (Or.inr ⟨by rfl, rfl⟩) (by assumption) ?_
                  (try simp only [Act.put, List.setIfInBounds_toArray, List.set_cons_zero, List.set_cons_succ])
                  refine wpAnyH_take (i := 14) (oi := { dst := some 63, op := Go.Op.move (Go.Operand.tmp 14), type := 3, pos := "ref.go:103", after := #[{ on := 3, ground := Go.Ground.guard }], guard := some (3, true) }) (v := undef) rfl (by kernel_rfl) (by kernel_rfl) (by kernel_rfl) (fun _ _ _ h => h) (Or.inr ⟨by rfl, rfl⟩) (by assumption) ?_
                  (try simp only [Act.put, List.setIfInBounds_toArray, List.set_cons_zero, List.set_cons_succ])
                  refine wpAnyH_take (i := 15) (oi := { dst := some 64, op := Go.Op.binOp Go.BinOp.add 3 (Go.Operand.tmp 62) (Go.Operand.tmp 63) 3, type := 3, pos := "ref.go:103", after := #[{ on := 13, ground := Go.Ground.data }, { on := 14, ground := Go.Ground.data }, { on := 3, ground := Go.Ground.guard }], guard := some (3, true) }) (v := undef) rfl (by kernel_rfl) (by kernel_rfl) (by kernel_rfl) (fun _ _ _ h => h) (Or.inr ⟨by rfl, rfl⟩) (by assumption) ?_
                  (try simp only [Act.put, List.setIfInBounds_toArray, List.set_cons_zero, List.set_cons_succ])
                  refine wpAnyH_take (i := 16) (oi := { dst := some 65, op := Go.Op.move (Go.Operand.tmp 15), type := 3, pos := "ref.go:103", after := #[{ on := 3, ground := Go.Ground.guard }], guard := some (3, true) }) (v := undef) rfl (by kernel_rfl) (by kernel_rfl) (by kernel_rfl) (fun _ _ _ h => h) (Or.inr ⟨by rfl, rfl⟩) (by assumption) ?_
                  (try simp only [Act.put, List.setIfInBounds_toArray, List.set_cons_zero, List.set_cons_succ])
                  refine wpAnyH_take (i := 17) (oi := { dst := some 66, op := Go.Op.binOp Go.BinOp.eql 3 (Go.Operand.tmp 64) (Go.Operand.tmp 65) 3, type := 4, pos := "ref.go:103", after := #[{ on := 15, ground := Go.Ground.data }, { on := 16, ground := Go.Ground.data }, { on := 3, ground := Go.Ground.guard }], guard := some (3, true) }) (v := undef) rfl (by kernel_rfl) (by kernel_rfl) (by kernel_rfl) (fun _ _ _ h => h) (Or.inr ⟨by rfl, rfl⟩) (by assumption) ?_
                  (try simp only [Act.put, List.setIfInBounds_toArray, List.set_cons_zero, List.set_cons_succ])
                  refine wpAnyH_take (i := 18) (oi := { dst := some 67, op := Go.Op.pick (Go.Operand.tmp 52) (Go.Operand.tmp 66) (Go.Operand.const (Go.Value.bool false)), type := 4, pos := "ref.go:103", after := #[{ on := 3, ground := Go.Ground.data }, { on := 17, ground := Go.Ground.data }], guard := none }) (v := ?v24) rfl (by kernel_rfl) (by kernel_rfl) (by kernel_rfl) (fun _ _ _ h => h) (Or.inl ⟨by rfl, ?hy24⟩) (by assumption) ?rs24
                  case hy24 =>
                    intro w hSw
                    (try dsimp only at hSw)
                    go_simp
                    try with_reducible rfl
                  (try simp only [Act.put, List.setIfInBounds_toArray, List.set_cons_zero, List.set_cons_succ])
                  refine wpAnyH_take (i := 19) (oi := { dst := some 16, op := Go.Op.assign (Go.Operand.tmp 67), type := 4, pos := "ref.go:103", after := #[{ on := 18, ground := Go.Ground.data }, { on := 13, ground := Go.Ground.chain }, { on := 0, ground := Go.Ground.phase }, { on := 1, ground := Go.Ground.phase }, { on := 2, ground := Go.Ground.phase }, { on := 3, ground := Go.Ground.phase }, { on := 4, ground := Go.Ground.phase }, { on := 5, ground := Go.Ground.phase }, { on := 6, ground := Go.Ground.phase }, { on := 7, ground := Go.Ground.phase }, { on := 8, ground := Go.Ground.phase }, { on := 9, ground := Go.Ground.phase }, { on := 10, ground := Go.Ground.phase }, { on := 11, ground := Go.Ground.phase }, { on := 12, ground := Go.Ground.phase }, { on := 13, ground := Go.Ground.phase }, { on := 14, ground := Go.Ground.phase }, { on := 15, ground := Go.Ground.phase }, { on := 16, ground := Go.Ground.phase }, { on := 17, ground := Go.Ground.phase }, { on := 18, ground := Go.Ground.phase }], guard := none }) (v := ?v25) rfl (by kernel_rfl) (by kernel_rfl) (by kernel_rfl) (fun _ _ _ h => h) (Or.inl ⟨by rfl, ?hy25⟩) (by assumption) ?rs25
                  case hy25 =>
                    intro w hSw
                    (try dsimp only at hSw)
                    go_simp
                    try with_reducible rfl
                  (try simp only [Act.put, List.setIfInBounds_toArray, List.set_cons_zero, List.set_cons_succ])
                  refine wpAnyH_done (by kernel_rfl) ?_ _
                  go_wp2_with fail
                  go_meet
                  exact ⟨by rw [HBT.out], (by repeat (first | assumption | exact Kept.refl _ | apply Kept.drew | apply Kept.drewN | apply Kept.alloc | refine Kept.trans ?_ (by assumption)))⟩
              case rest =>
                obtain ⟨rfl, hyK⟩ := hcut
                obtain ⟨wy, hwy, hyK⟩ := Kept.named hyK
                subst hwy
                obtain ⟨e0, e1, e2, e3, e4, e5, e6, e7, _⟩ := keep8 d0 d1 d2 d3 d4 d5 d6 d7 hyK
                clear a0 a1 a2 a3 a4 a5 a6 a7 d0 d1 d2 d3 d4 d5 d6 d7 HBT
                go_wp2_with fail
                cases hd with
                | true =>
                  have HNX : Hid (Value.bool true = .bool (!allN (fun o => !holdB R H t o i) (o + 1))) := by show _ = _; rw [hnx]; rfl
                  clear hnx
                  go_quiet (fail)
                  go_wp2_with fail
                  go_roundg (k - (o + 1))
                  case measure => omega
                  case rel => exact ⟨o + 1, by omega, rfl, by go_num, HNX.out, ((hKi.trans hxK).trans hyK).drewN _⟩
                | false =>
                  cases bt with
                  | true =>
                    have HNX : Hid (Value.bool true = .bool (!allN (fun o => !holdB R H t o i) (o + 1))) := by show _ = _; rw [hnx]; rfl
                    clear hnx
                    go_quiet (fail)
                    go_wp2_with fail
                    go_roundg (k - (o + 1))
                    case measure => omega
                    case rel => exact ⟨o + 1, by omega, rfl, by go_num, HNX.out, ((hKi.trans hxK).trans hyK).drewN _⟩
                  | false =>
                    rw [Bool.false_or, Bool.false_or] at hnx
                    by_cases e8 : q = p
                    · by_cases e9 : x = u
                      · have hqe : (q, x) = (p, u) := by rw [e8, e9]
                        rw [decide_eq_true hqe, Bool.true_and] at hnx
                        obtain ⟨bl, HBL⟩ : ∃ z, Hid (z = decide (o < i)) := ⟨_, rfl⟩
                        have HNX : Hid (Value.bool bl = .bool (!allN (fun o => !holdB R H t o i) (o + 1))) := by show _ = _; rw [hnx, HBL.out]
                        have b1' : ((q : Int) == (p : Int)) = true := by simp; omega
                        have b2' : ((x : Int) == (u : Int)) = true := by simp; omega
                        have b3' : decide ((o : Int) < (i : Int)) = bl := by rw [HBL.out]; exact decide_eq_decide.2 (by omega)
                        have b4' : decide (o < i) = bl := HBL.out.symm
                        subst e8
                        subst e9
                        clear hnx
                        go_quiet (fail)
                        go_wp2_with fail
                        go_roundg (k - (o + 1))
                        case measure => omega
                        case rel => exact ⟨o + 1, by omega, rfl, by go_num, HNX.out, ((hKi.trans hxK).trans hyK).drewN _⟩
                      · have hqe : ¬ (q, x) = (p, u) := fun h => e9 (by injection h)
                        rw [decide_eq_false hqe, Bool.false_and] at hnx
                        have HNX : Hid (Value.bool false = .bool (!allN (fun o => !holdB R H t o i) (o + 1))) := by show _ = _; rw [hnx]
                        have b2' : ((x : Int) == (u : Int)) = false := by simp; omega
                        subst e8
                        clear hnx
                        go_quiet (fail)
                        go_wp2_with fail
                        go_roundg (k - (o + 1))
                        case measure => omega
                        case rel => exact ⟨o + 1, by omega, rfl, by go_num, HNX.out, ((hKi.trans hxK).trans hyK).drewN _⟩
                    · have hqe : ¬ (q, x) = (p, u) := fun h => e8 (by injection h)
                      rw [decide_eq_false hqe, Bool.false_and] at hnx
                      have HNX : Hid (Value.bool false = .bool (!allN (fun o => !holdB R H t o i) (o + 1))) := by show _ = _; rw [hnx]
                      have b1' : ((q : Int) == (p : Int)) = false := by simp; omega
                      clear hnx
                      go_quiet (fail)
                      go_wp2_with fail
                      go_roundg (k - (o + 1))
                      case measure => omega
                      case rel => exact ⟨o + 1, by omega, rfl, by go_num, HNX.out, ((hKi.trans hxK).trans hyK).drewN _⟩
        · obtain rfl : o = k := by omega
          have hma : allN (fun o => !holdB R H t o i) o = mayB R H t o i := rfl
          rw [hma]
          cases hm : mayB R H t o i with
          | false =>
            have HCN : Hid (cnt (mayB R H t o) (i + 1) = cnt (mayB R H t o) i) := by show _ = _; simp [cnt, hm]
            have HSN : Hid (spsL (stepH R H t o) (i + 1) = spsL (stepH R H t o) i ++ [.int .i64 (p : Int), .int .i64 (u : Int)]) := by
              show _ = _
              have e : stepH R H t o i = (p, u) := by unfold stepH; rw [hm, HPI.out]; rfl
              simp only [spsL, e]
            have hu8 : Kept wr (wr.alloc (.cells #[.int .i64 (p : Int), .int .i64 (u : Int)] 26)) := (Kept.refl wr).alloc _
            have hKs8 : Kept Wo (wr.alloc (.cells #[.int .i64 (p : Int), .int .i64 (u : Int)] 26)) := hKi.trans hu8
            have hO8 := own_keptY hO hKs8 (fun _ _ _ _ _ h => h)
            have hrt8 := hKs8.row hrt
            have HN := Lib.hid (two_news wr (.int .i64 (p : Int)) (.int .i64 (u : Int)) 26)
            have hB8 : nb ≤ (wr.alloc (.cells #[.int .i64 (p : Int), .int .i64 (u : Int)] 26)).heap.size := by have := hKs8.size; have := hK.size; omega
            go_wp2_with (first | (at_builtin; refine wpList_append_where _ rfl _ _ 36 rfl nb 26 i1 (.agg #[.int .i64 0, .int .i64 0]) 2 16 Try.underlying36 hi0 hz0 hz1 hz2 rfl (by decide) _ _ _ (by rfl) hO8 ⟨wr.heap.size, 0, none⟩ 1 1 [.int .i64 (p : Int), .int .i64 (u : Int)] (by rfl) rfl HN.out (by simp [Value.oneCell']) (by decide) ?c3 ?c4 ?c5 ?_))
            case c3 => unfold maxLen; omega
            case c4 => omega
            case c5 => exact hB8
            intro ov9 w9 hO9 hgr9 hwh9
            have hX9 : KeptX (fun k => (Value.slice oa i ocap).ownBlock = some k) _ w9 := KeptX.grown (KeptX.refl _ _) hgr9 (fun k hk => Or.inl hk)
            have hrt9 := hX9.row hrt8 hnb
            have hKz9 : Kept W1 w9 := (hK.trans hKs8).grown hgr9 (fun k hk => by have := (hO8.lt k hk).1; omega)
            have hnb9 : ov9.ownBlock ≠ some nt := by
              rcases hwh9 with h | h
              · rw [h]; exact hnb
              · rw [h]; intro e; injection e with e; exact absurd hrt8.lt (by rw [← e]; first | exact Nat.lt_irrefl _ | simp)
            obtain ⟨g0, g1, _⟩ := keep2 q0 q1 hKz9
            have g2 : w9.cell? ⟨nt, 0, none⟩ = some (.int .i64 (t : Int)) := hrt9.cell (i := 0) (by omega)
            have g3 : w9.cell? ⟨nt, 1, none⟩ = some (.int .i64 0) := hrt9.cell (i := 1) (by omega)
            have g4 := (hKw.trans hKz9).cellSome hci.1
            have g5 := (hKw.trans hKz9).cellSome hci.2
            obtain ⟨va9, vc9, rfl⟩ := own_shape hO9
            go_wp2_with fail
            go_roundg (o - (i + 1))
            case measure => omega
            case rel => exact ⟨i + 1, by omega, rfl, by go_num, by rw [HCN.out], _, rfl, by rw [HSN.out]; exact hO9, hnb9, hrt9, hKz9⟩
          | true =>
            have HCN : Hid (cnt (mayB R H t o) (i + 1) = cnt (mayB R H t o) i + 1) := by show _ = _; simp [cnt, hm]
            have TO := Lib.hid (fun W hW => TW.out W p u hW hsi hni)
            obtain ⟨⟨p2, u2⟩, HP2⟩ : ∃ z, Hid (z = R.to (p, u) (t, 0)) := ⟨_, rfl⟩
            have HSN : Hid (spsL (stepH R H t o) (i + 1) = spsL (stepH R H t o) i ++ [.int .i64 (p2 : Int), .int .i64 (u2 : Int)]) := by
              show _ = _
              have e : stepH R H t o i = (p2, u2) := by unfold stepH; rw [hm, ← HPI.out, HP2.out]; rfl
              simp only [spsL, e]
            rw [← HP2.out] at TO
            unfold SpV at TO
            simp only at TO
            have s1 : IntKind.i64.wrap (((cnt (mayB R H t o) i : Nat) : Int) + 1) = ((cnt (mayB R H t o) i : Nat) : Int) + 1 := IntWalk.i64_in _ (by omega)
            go_wp2_with fail
            refine wp_region_held_drew (S := (fun w' => w'.cell? ⟨n0, 0, none⟩ = some (.slice (some ⟨b0, o0, none⟩) R.n c0) ∧ w'.cell? ⟨n0, 1, none⟩ = some (.slice (some ⟨b1, o1, none⟩) R.n c1) ∧ w'.cell? ⟨nt, 0, none⟩ = some (.int .i64 (t : Int)) ∧ w'.cell? ⟨nt, 1, none⟩ = some (.int .i64 0) ∧ w'.cell? ⟨hb, ho + i * 2, none⟩ = some (.int .i64 (p : Int)) ∧ w'.cell? ⟨hb, ho + i * 2 + 1, none⟩ = some (.int .i64 (u : Int)))) (by kernel_rfl) ?_ (fun hHeld => ?_)
            · (try dsimp only)
              exact ⟨a0, a1, a2, a3, a6, a7⟩
            refine wpAnyH_take (i := 0) (oi := { dst := some 96, op := Go.Op.move (Go.Operand.tmp 9), type := 36, pos := "ref.go:109", after := #[], guard := none }) (v := ?v26) rfl (by kernel_rfl) (by kernel_rfl) (by kernel_rfl) (fun _ _ _ h => h) (Or.inl ⟨by rfl, ?hy26⟩) (by assumption) ?rs26
            case hy26 =>
              intro w hSw
              (try dsimp only at hSw)
              go_simp
              try with_reducible rfl
            (try simp only [Act.put, List.setIfInBounds_toArray, List.set_cons_zero, List.set_cons_succ])
            refine wpAnyH_take (i := 1) (oi := { dst := some 97, op := Go.Op.load 24 (Go.Operand.tmp 3), type := 24, pos := "ref.go:109", after := #[], guard := none }) (v := ?v27) rfl (by kernel_rfl) (by kernel_rfl) (by kernel_rfl) (fun _ _ _ h => h) (Or.inl ⟨by rfl, ?hy27⟩) (by assumption) ?rs27
            case hy27 =>
              intro w hSw
              (try dsimp only at hSw)
              go_simp
              try with_reducible rfl
            (try simp only [Act.put, List.setIfInBounds_toArray, List.set_cons_zero, List.set_cons_succ])
            refine wpAnyH_take (i := 2) (oi := { dst := some 98, op := Go.Op.move (Go.Operand.tmp 1), type := 36, pos := "ref.go:109", after := #[], guard := none }) (v := ?v28) rfl (by kernel_rfl) (by kernel_rfl) (by kernel_rfl) (fun _ _ _ h => h) (Or.inl ⟨by rfl, ?hy28⟩) (by assumption) ?rs28
            case hy28 =>
              intro w hSw
              (try dsimp only at hSw)
              go_simp
              try with_reducible rfl
            (try simp only [Act.put, List.setIfInBounds_toArray, List.set_cons_zero, List.set_cons_succ])
            refine wpAnyH_take (i := 3) (oi := { dst := some 99, op := Go.Op.move (Go.Operand.tmp 11), type := 3, pos := "ref.go:109", after := #[], guard := none }) (v := ?v29) rfl (by kernel_rfl) (by kernel_rfl) (by kernel_rfl) (fun _ _ _ h => h) (Or.inl ⟨by rfl, ?hy29⟩) (by assumption) ?rs29
            case hy29 =>
              intro w hSw
              (try dsimp only at hSw)
              go_simp
              try with_reducible rfl
            (try simp only [Act.put, List.setIfInBounds_toArray, List.set_cons_zero, List.set_cons_succ])
            refine wpAnyH_take (i := 4) (oi := { dst := some 100, op := Go.Op.indexAddr 36 (Go.Operand.tmp 98) (Go.Operand.tmp 99), type := 0, pos := "ref.go:109", after := #[{ on := 2, ground := Go.Ground.data }, { on := 3, ground := Go.Ground.data }], guard := none }) (v := ?v30) rfl (by kernel_rfl) (by kernel_rfl) (by kernel_rfl) (fun _ _ _ h => h) (Or.inl ⟨by rfl, ?hy30⟩) (by assumption) ?rs30
            case hy30 =>
              intro w hSw
              (try dsimp only at hSw)
              go_simp
              try with_reducible rfl
            (try simp only [Act.put, List.setIfInBounds_toArray, List.set_cons_zero, List.set_cons_succ])
            refine wpAnyH_take (i := 5) (oi := { dst := some 101, op := Go.Op.load 26 (Go.Operand.tmp 100), type := 26, pos := "ref.go:109", after := #[{ on := 4, ground := Go.Ground.data }], guard := none }) (v := ?v31) rfl (by kernel_rfl) (by kernel_rfl) (by kernel_rfl) (fun _ _ _ h => h) (Or.inl ⟨by rfl, ?hy31⟩) (by assumption) ?rs31
            case hy31 =>
              intro w hSw
              (try dsimp only at hSw)
              go_simp
              try with_reducible rfl
            (try simp only [Act.put, List.setIfInBounds_toArray, List.set_cons_zero, List.set_cons_succ])
            refine wpAnyH_take (i := 6) (oi := { dst := some 102, op := Go.Op.load 26 (Go.Operand.tmp 8), type := 26, pos := "ref.go:109", after := #[], guard := none }) (v := ?v32) rfl (by kernel_rfl) (by kernel_rfl) (by kernel_rfl) (fun _ _ _ h => h) (Or.inl ⟨by rfl, ?hy32⟩) (by assumption) ?rs32
            case hy32 =>
              intro w hSw
              (try dsimp only at hSw)
              go_simp
              try with_reducible rfl
            (try simp only [Act.put, List.setIfInBounds_toArray, List.set_cons_zero, List.set_cons_succ])
            refine wpAnyH_take (i := 10) (oi := { dst := some 106, op := Go.Op.move (Go.Operand.tmp 10), type := 3, pos := "ref.go:109", after := #[{ on := 12, ground := Go.Ground.gcOnly Go.Departure.lateStores }], guard := none }) (v := ?v33) rfl (by kernel_rfl) (by kernel_rfl) (by kernel_rfl) (fun _ _ _ h => h) (Or.inl ⟨by rfl, ?hy33⟩) (by assumption) ?rs33
            case hy33 =>
              intro w hSw
              (try dsimp only at hSw)
              go_simp
              try with_reducible rfl
            (try simp only [Act.put, List.setIfInBounds_toArray, List.set_cons_zero, List.set_cons_succ])
            refine wpAnyH_take (i := 11) (oi := { dst := some 107, op := Go.Op.binOp Go.BinOp.add 3 (Go.Operand.tmp 106) (Go.Operand.const (Go.Value.int Go.IntKind.i64 1)) 3, type := 3, pos := "ref.go:109", after := #[{ on := 10, ground := Go.Ground.data }, { on := 12, ground := Go.Ground.gcOnly Go.Departure.lateStores }], guard := none }) (v := ?v34) rfl (by kernel_rfl) (by kernel_rfl) (by kernel_rfl) (fun _ _ _ h => h) (Or.inl ⟨by rfl, ?hy34⟩) (by assumption) ?rs34
            case hy34 =>
              intro w hSw
              (try dsimp only at hSw)
              go_simp
              try with_reducible rfl
            (try simp only [Act.put, List.setIfInBounds_toArray, List.set_cons_zero, List.set_cons_succ])
            refine wpAnyH_ready (rs := [7]) (by kernel_rfl) (by simp) ?_
            refine AllReadyH.cons (o := { dst := some 103, op := Go.Op.call { callee := Go.Callee.value (Go.Operand.func 55), args := #[Go.Operand.tmp 97, Go.Operand.tmp 101, Go.Operand.tmp 102], argTypes := #[24, 26, 26] }, type := 26, pos := "ref.go:109", after := #[{ on := 1, ground := Go.Ground.data }, { on := 5, ground := Go.Ground.data }, { on := 6, ground := Go.Ground.data }], guard := none }) rfl (fun K7 hK7 => ?_) AllReadyH.nil
            go_simp
            (go_at_call 55; refine (TO.out _ (hTi.kept (by repeat (first | assumption | exact Kept.refl _ | apply Kept.drew | apply Kept.drewN | apply Kept.alloc | refine Kept.trans ?_ (by assumption))))).mono ?_; rintro e v7 ⟨rfl, hk7⟩)
            (try go_wp2_with fail)
            obtain ⟨e0, e1, e2, e3, e4, e5, _⟩ := keep6 a0 a1 a2 a3 a6 a7 (show Kept wr v7 from (by repeat (first | assumption | exact Kept.refl _ | apply Kept.drew | apply Kept.drewN | apply Kept.alloc | refine Kept.trans ?_ (by assumption))))
            refine hK7.out _ _ ?_ (fun hHeld => ?_)
            · (try dsimp only)
              exact ⟨e0, e1, e2, e3, e4, e5⟩
            (try simp only [Act.put, List.setIfInBounds_toArray, List.set_cons_zero, List.set_cons_succ])
            refine wpAnyH_ready (rs := [8]) (by kernel_rfl) (by simp) ?_
            refine AllReadyH.cons (o := { dst := some 104, op := Go.Op.buildSlice 36 1 #[(0, Go.Operand.tmp 103)], type := 36, pos := "ref.go:109", after := #[{ on := 7, ground := Go.Ground.data }], guard := none }) rfl (fun K8 hK8 => ?_) AllReadyH.nil
            go_simp
            skip
            (try go_wp2_with fail)
            have hu8 : Kept v7 (v7.alloc (.cells #[.int .i64 (p2 : Int), .int .i64 (u2 : Int)] 26)) := (Kept.refl v7).alloc _
            obtain ⟨f0, f1, f2, f3, f4, f5, _⟩ := keep6 e0 e1 e2 e3 e4 e5 hu8
            have hKs8 : Kept Wo (v7.alloc (.cells #[.int .i64 (p2 : Int), .int .i64 (u2 : Int)] 26)) := (hKi.trans (show Kept wr v7 from (by repeat (first | assumption | exact Kept.refl _ | apply Kept.drew | apply Kept.drewN | apply Kept.alloc | refine Kept.trans ?_ (by assumption))))).trans hu8
            have hO8 := own_keptY hO hKs8 (fun _ _ _ _ _ h => h)
            have hrt8 := hKs8.row hrt
            have HN := Lib.hid (two_news v7 (.int .i64 (p2 : Int)) (.int .i64 (u2 : Int)) 26)
            have hB8 : nb ≤ (v7.alloc (.cells #[.int .i64 (p2 : Int), .int .i64 (u2 : Int)] 26)).heap.size := by have := hKs8.size; have := hK.size; omega
            refine hK8.out _ _ ?_ (fun hHeld => ?_)
            · (try dsimp only)
              exact ⟨f0, f1, f2, f3, f4, f5⟩
            (try simp only [Act.put, List.setIfInBounds_toArray, List.set_cons_zero, List.set_cons_succ])
            refine wpAnyH_ready (rs := [9]) (by kernel_rfl) (by simp) ?_
            refine AllReadyH.cons (o := { dst := some 105, op := Go.Op.call { callee := Go.Callee.builtin Go.Builtin.append, args := #[Go.Operand.tmp 96, Go.Operand.tmp 104], argTypes := #[36, 36] }, type := 36, pos := "ref.go:109", after := #[{ on := 0, ground := Go.Ground.data }, { on := 8, ground := Go.Ground.data }, { on := 7, ground := Go.Ground.chain }], guard := none }) rfl (fun K9 hK9 => ?_) AllReadyH.nil
            rw [if_pos (by rfl)]
            refine wp_append_where _ _ _ 36 rfl nb 26 i1 (.agg #[.int .i64 0, .int .i64 0]) 2 16 Try.underlying36 hi0 hz0 hz1 hz2 rfl (by decide) _ _ _ (by rfl) hO8 ⟨v7.heap.size, 0, none⟩ 1 1 [.int .i64 (p2 : Int), .int .i64 (u2 : Int)] (by rfl) rfl HN.out (by simp [Value.oneCell']) (by decide) ?c3 ?c4 ?c5 ?_
            case c3 => unfold maxLen; omega
            case c4 => omega
            case c5 => exact hB8
            intro ov9 w9 hO9 hgr9 hwh9
            have hX9 : KeptX (fun k => (Value.slice oa i ocap).ownBlock = some k) _ w9 := KeptX.grown (KeptX.refl _ _) hgr9 (fun k hk => Or.inl hk)
            have hrt9 := hX9.row hrt8 hnb
            have hKz9 : Kept W1 w9 := (hK.trans hKs8).grown hgr9 (fun k hk => by have := (hO8.lt k hk).1; omega)
            have hnb9 : ov9.ownBlock ≠ some nt := by
              rcases hwh9 with h | h
              · rw [h]; exact hnb
              · rw [h]; intro e; injection e with e; exact absurd hrt8.lt (by rw [← e]; first | exact Nat.lt_irrefl _ | simp)
            obtain ⟨g0, g1, _⟩ := keep2 q0 q1 hKz9
            have g2 : w9.cell? ⟨nt, 0, none⟩ = some (.int .i64 (t : Int)) := hrt9.cell (i := 0) (by omega)
            have g3 : w9.cell? ⟨nt, 1, none⟩ = some (.int .i64 0) := hrt9.cell (i := 1) (by omega)
            have g4 := (hKw.trans hKz9).cellSome hci.1
            have g5 := (hKw.trans hKz9).cellSome hci.2
            obtain ⟨va9, vc9, rfl⟩ := own_shape hO9
            refine hK9.out _ _ ?_ (fun hHeld => ?_)
            · (try dsimp only)
              exact ⟨g0, g1, g2, g3, g4, g5⟩
            (try simp only [Act.put, List.setIfInBounds_toArray, List.set_cons_zero, List.set_cons_succ])
            refine wpAnyH_take (i := 12) (oi := { dst := some 9, op := Go.Op.assign (Go.Operand.tmp 105), type := 36, pos := "ref.go:109", after := #[{ on := 9, ground := Go.Ground.data }, { on := 9, ground := Go.Ground.chain }, { on := 0, ground := Go.Ground.phase }, { on := 1, ground := Go.Ground.phase }, { on := 2, ground := Go.Ground.phase }, { on := 3, ground := Go.Ground.phase }, { on := 4, ground := Go.Ground.phase }, { on := 5, ground := Go.Ground.phase }, { on := 6, ground := Go.Ground.phase }, { on := 7, ground := Go.Ground.phase }, { on := 8, ground := Go.Ground.phase }, { on := 9, ground := Go.Ground.phase }, { on := 10, ground := Go.Ground.textOnly Go.Departure.lateStores }, { on := 11, ground := Go.Ground.textOnly Go.Departure.lateStores }], guard := none }) (v := ?v35) rfl (by kernel_rfl) (by kernel_rfl) (by kernel_rfl) (fun _ _ _ h => h) (Or.inl ⟨by rfl, ?hy35⟩) (by assumption) ?rs35
            case hy35 =>
              intro w hSw
              (try dsimp only at hSw)
              go_simp
              try with_reducible rfl
            (try simp only [Act.put, List.setIfInBounds_toArray, List.set_cons_zero, List.set_cons_succ])
            refine wpAnyH_take (i := 13) (oi := { dst := some 10, op := Go.Op.assign (Go.Operand.tmp 107), type := 3, pos := "ref.go:109", after := #[{ on := 11, ground := Go.Ground.data }, { on := 12, ground := Go.Ground.chain }, { on := 0, ground := Go.Ground.phase }, { on := 1, ground := Go.Ground.phase }, { on := 2, ground := Go.Ground.phase }, { on := 3, ground := Go.Ground.phase }, { on := 4, ground := Go.Ground.phase }, { on := 5, ground := Go.Ground.phase }, { on := 6, ground := Go.Ground.phase }, { on := 7, ground := Go.Ground.phase }, { on := 8, ground := Go.Ground.phase }, { on := 9, ground := Go.Ground.phase }, { on := 10, ground := Go.Ground.phase }, { on := 11, ground := Go.Ground.phase }, { on := 12, ground := Go.Ground.phase }], guard := none }) (v := ?v36) rfl (by kernel_rfl) (by kernel_rfl) (by kernel_rfl) (fun _ _ _ h => h) (Or.inl ⟨by rfl, ?hy36⟩) (by assumption) ?rs36
            case hy36 =>
              intro w hSw
              (try dsimp only at hSw)
              go_simp
              try with_reducible rfl
            (try simp only [Act.put, List.setIfInBounds_toArray, List.set_cons_zero, List.set_cons_succ])
            refine wpAnyH_done (by kernel_rfl) ?_ _
            go_wp2_with fail
            go_roundg (o - (i + 1))
            case measure => omega
            case rel => exact ⟨i + 1, by omega, rfl, by go_num, by rw [HCN.out]; go_num, _, rfl, by rw [HSN.out]; exact hO9, hnb9, hrt9, hKz9⟩
    · obtain rfl : i = k := by omega
      go_wp2_with fail
      exact bodyPost_ret (v := .tuple #[.slice oa i ocap, .int .i64 ((cnt (mayB R H t i) i : Nat) : Int)]) (by simp [results, Try.results26, go_sem]; try rfl) rfl ⟨_, nb, rfl, hwb, hO, hKw.trans hK⟩
end Go.Proofs.Ytlgpclnmonpkjaa
