/-
  The reference's numbers: products, quotients of numbers.
-/
import Derived.Test.YthigeafojekclaaDoorUb
namespace Go.Proofs.YthigeafojekclaaDoor.Num
open Go.RowKit Go.Deep

/-- the row of a product after i digits of the first number -/
structure MulRow (N i l2 : Nat) (O : Nat → Int) (x : Int) : Prop where
  dig : ∀ j, j < N → 0 ≤ O j ∧ O j < 10000
  val : valZ O N = x
  top : ∀ j, i + l2 ≤ j → O j = 0
/-- the row while the digit i of the first number is taken times those of the second, up to k -/
structure MulIn (N i l2 : Nat) (O : Nat → Int) (c x : Int) (k : Nat) : Prop where
  dig : ∀ j, j < N → 0 ≤ O j ∧ O j < 10000
  val : valZ O N + c * 10000 ^ (i + k) = x
  top : ∀ j, i + l2 + 1 ≤ j → O j = 0
  next : k ≤ l2 → O (i + l2) = 0
  end' : k = l2 + 1 → c = 0
theorem MulIn.step {N i l2 k : Nat} {O D2 : Nat → Int} {c t0 x a b s : Int} (h : MulIn N i l2 O c (t0 + a * valZ (extZ D2 l2) k * 10000 ^ i) k) (hk : k < l2) (hN : i + l2 < N) (hb : b = D2 k) (hs : s = O (i + k) + c + a * b) (hx : x = t0 + a * valZ (extZ D2 l2) (k + 1) * 10000 ^ i) :
    MulIn N i l2 (fun j => if j = i + k then s % 10000 else O j) (s / 10000) x (k + 1) where
  dig := fun j hj => by
    by_cases e : j = i + k
    · simp only [e, if_true]; omega
    · simp only [e, if_false]; exact h.dig j hj
  val := by
    have h1 := h.val
    rw [Int.pow_add] at h1
    have h2 := mul_step h1 hs
    rw [valZ_upd (by omega), hx]
    have e1 : (10000 : Int) ^ (i + (k + 1)) = 10000 ^ i * 10000 ^ k * 10000 := by rw [show i + (k + 1) = i + k + 1 by omega, pw_succ, Int.pow_add]
    have e2 : valZ (extZ D2 l2) (k + 1) = valZ (extZ D2 l2) k + b * 10000 ^ k := by
      have : extZ D2 l2 k = b := by unfold extZ; rw [if_pos hk, hb]
      simp only [valZ, this]
    rw [e1, e2, Int.pow_add]
    exact h2
  top := fun j hj => by
    simp only [show ¬ (j = i + k) by omega, if_false]
    exact h.top j hj
  next := fun _ => by
    simp only [show ¬ (i + l2 = i + k) by omega, if_false]
    exact h.next (by omega)
  end' := fun e => by omega
theorem MulIn.last {N i l2 : Nat} {O : Nat → Int} {c x : Int} (h : MulIn N i l2 O c x l2) (hN : i + l2 < N) (hc : 0 ≤ c ∧ c < 10000) :
    MulIn N i l2 (fun j => if j = i + l2 then c else O j) 0 x (l2 + 1) where
  dig := fun j hj => by
    by_cases e : j = i + l2
    · simp only [e, if_true]; exact hc
    · simp only [e, if_false]; exact h.dig j hj
  val := by
    have h1 := h.val
    have h2 := h.next (Nat.le_refl _)
    rw [valZ_upd hN, h2]
    simp
    exact h1
  top := fun j hj => by
    simp only [show ¬ (j = i + l2) by omega, if_false]
    exact h.top j hj
  next := fun e => by omega
  end' := fun _ => rfl
set_option maxRecDepth 100000 in
set_option maxHeartbeats 8000000 in
theorem Mul_any (w : World) (u v : Value) (x y : Int) (hX : ZAt w u x) (hY : ZAt w v y) (hB : Big (x * y)) :
    Calls Tryd.prog 81 #[u, v] w (ZPost w (x * y)) := by
  obtain ⟨m, sv, l, D, rfl, hS, hL, hm, rfl, hl⟩ := hX
  obtain ⟨m2, sv2, l2, D2, rfl, hS2, hL2, hm2, rfl, hl2⟩ := hY
  have HL := Lib.hid hL
  have HL2 := Lib.hid hL2
  obtain ⟨a, cap, rfl, _, _, _, ⟨a', b1, o1, cap', eq1, ha, hc⟩⟩ := hS
  cases eq1
  obtain ⟨a2, cap2, rfl, _, _, _, ⟨a2', b2, o2, cap2', eq2, ha2, hc2⟩⟩ := hS2
  cases eq2
  have HC := Lib.hid hc
  have HC2 := Lib.hid hc2
  have hb1 := valZ_bd hL.1
  have hb2 := valZ_bd hL2.1
  obtain ⟨i0, hi, hz0, hz1, hz2⟩ := info_parts Tryd.info3
  obtain ⟨Z, HZZ⟩ : ∃ Z, Hid (Z = sgnZ m (valZ D l) * sgnZ m2 (valZ D2 l2)) := ⟨_, rfl⟩
  have hsum : Hid (sgnZ (m != m2) (valZ D l * valZ D2 l2) = Z) := by show _ = _; rw [HZZ.out]; cases m <;> cases m2 <;> simp [sgnZ, Int.neg_mul, Int.mul_neg]
  have hbig : Hid (valZ D l * valZ D2 l2 < bigN) := by
    rw [← HZZ.out] at hB
    have := hsum.out
    unfold Big at hB
    show _ < _
    generalize valZ D l * valZ D2 l2 = P at *
    cases m <;> cases m2 <;> simp [sgnZ] at this <;> omega
  rw [← HZZ.out]
  obtain ⟨N, HN⟩ : ∃ N, Hid (N = l + l2 + 1) := ⟨_, rfl⟩
  have eN : (l : Int) + (l2 : Int) + 1 = (N : Int) := by rw [HN.out]; omega
  have hmk := fun W => mkInts (N : Int) N rfl (by rw [HN.out]; omega) W
  clear hL hL2 hc hc2 hb1 hb2 hB hm hm2
  have hA0 := box_row w (.bool m) (.slice a l cap) 37 w.heap.size rfl
  have hA1 := box_row (w.alloc (.cells #[.bool m, .slice a l cap] 37)) (.bool m2) (.slice a2 l2 cap2) 37 (w.heap.size + 1) (by simp)
  have hA2 := box_row ((w.alloc (.cells #[.bool m, .slice a l cap] 37)).alloc (.cells #[.bool m2, .slice a2 l2 cap2] 37)) (.bool false) (.slice none 0 0) 37 (w.heap.size + 1 + 1) (by simp)
  have hB0 := (((Kept.refl _).alloc (.cells #[.bool m2, .slice a2 l2 cap2] 37)).alloc (.cells #[.bool false, .slice none 0 0] 37)).row hA0
  have hB1 := ((Kept.refl _).alloc (.cells #[.bool false, .slice none 0 0] 37)).row hA1
  have hKwW : Kept w (((w.alloc (.cells #[.bool m, .slice a l cap] 37)).alloc (.cells #[.bool m2, .slice a2 l2 cap2] 37)).alloc (.cells #[.bool false, .slice none 0 0] 37)) := (((Kept.refl w).alloc _).alloc _).alloc _
  have hrow := World.rowIs_made (((w.alloc (.cells #[.bool m, .slice a l cap] 37)).alloc (.cells #[.bool m2, .slice a2 l2 cap2] 37)).alloc (.cells #[.bool false, .slice none 0 0] 37)) (.int .i64 0) N 3
  go_enter Tryd.func81, Tryd.ntmps81
  go_wp2_with fail
  have hB0 := (((Kept.refl _).alloc (.cells #[.bool m2, .slice a2 l2 cap2] 37)).alloc (.cells #[.bool false, .slice none 0 0] 37)).row hA0
  have hB1 := ((Kept.refl _).alloc (.cells #[.bool false, .slice none 0 0] 37)).row hA1
  have hkM := (Kept.refl (((w.alloc (.cells #[.bool m, .slice a l cap] 37)).alloc (.cells #[.bool m2, .slice a2 l2 cap2] 37)).alloc (.cells #[.bool false, .slice none 0 0] 37))).alloc (.cells (madeCells #[.int .i64 0] N) 3)
  have hZ0 := hkM.row hB0
  have hY0 := hkM.row hB1
  have hR0 := hkM.row hA2
  have hKW : Kept w ((((w.alloc (.cells #[.bool m, .slice a l cap] 37)).alloc (.cells #[.bool m2, .slice a2 l2 cap2] 37)).alloc (.cells #[.bool false, .slice none 0 0] 37)).alloc (.cells (madeCells #[.int .i64 0] N) 3)) := (((((Kept.refl w).alloc _).alloc _).alloc _).alloc _)
  rw [show ((((w.alloc (.cells #[.bool m, .slice a l cap] 37)).alloc (.cells #[.bool m2, .slice a2 l2 cap2] 37)).alloc (.cells #[.bool false, .slice none 0 0] 37)).heap.size) = w.heap.size + 1 + 1 + 1 by simp] at hrow
  generalize ((((w.alloc (.cells #[.bool m, .slice a l cap] 37)).alloc (.cells #[.bool m2, .slice a2 l2 cap2] 37)).alloc (.cells #[.bool false, .slice none 0 0] 37)).alloc (.cells (madeCells #[.int .i64 0] N) 3)) = W at *
  obtain ⟨o0, HO0⟩ : ∃ o0, Hid (o0 = w.heap.size + 1 + 1 + 1) := ⟨_, rfl⟩
  obtain ⟨r0, HR0⟩ : ∃ r0, Hid (r0 = w.heap.size + 1 + 1) := ⟨_, rfl⟩
  obtain ⟨z1, HZ1⟩ : ∃ z1, Hid (z1 = w.heap.size + 1) := ⟨_, rfl⟩
  obtain ⟨z0, HZ0⟩ : ∃ z0, Hid (z0 = w.heap.size) := ⟨_, rfl⟩
  rw [← HO0.out] at hrow ⊢
  rw [← HR0.out] at hR0 ⊢
  rw [← HZ1.out] at hY0 ⊢
  rw [← HZ0.out] at hZ0 ⊢
  have hrw : w.heap.size ≤ r0 := by rw [HR0.out]; omega
  have how : w.heap.size ≤ o0 := by rw [HO0.out]; omega
  have hn1 : z0 ≠ o0 := by rw [HO0.out, HZ0.out]; omega
  have hn2 : z1 ≠ o0 := by rw [HO0.out, HZ1.out]; omega
  have hn3 : r0 ≠ o0 := by rw [HO0.out, HR0.out]; omega
  have hn4 : z0 ≠ r0 := by rw [HR0.out, HZ0.out]; omega
  have hn5 : z1 ≠ r0 := by rw [HR0.out, HZ1.out]; omega
  have hrow2 := hrow.congr (g := fun j => .int .i64 ((fun _ : Nat => (0 : Int)) j)) (fun j _ => rfl)
  have hM0 : Hid (MulRow N 0 l2 (fun _ => 0) (valZ D 0 * valZ D2 l2)) := ⟨fun j _ => ⟨by omega, by omega⟩, by
    have := valZ_zeros (D := fun _ => 0) (n := 0) N (fun i _ _ => rfl)
    rw [Nat.zero_add] at this
    rw [this]; simp [valZ], fun j _ => rfl⟩
  clear hA0 hA1 hA2 hB0 hB1 hkM hrow hmk HO0 HR0 HZ1 HZ0
  go_loopg [6] l (fun g s6 wr => ∃ (i : Nat) (O : Nat → Int), i ≤ l ∧ g = l - i ∧ s6 = .int .i64 i ∧ Kept w wr ∧ wr.rowIs z0 37 2 (bx (.bool m) (.slice a l cap)) ∧ wr.rowIs z1 37 2 (bx (.bool m2) (.slice a2 l2 cap2)) ∧ wr.rowIs r0 37 2 (bx (.bool false) (.slice none 0 0)) ∧ wr.rowIs o0 3 N (fun j => .int .i64 (O j)) ∧ Hid (MulRow N i l2 O (valZ D i * valZ D2 l2)))
  case atStart => exact ⟨0, fun _ => 0, Nat.zero_le _, rfl, rfl, hKW, hZ0, hY0, hR0, hrow2, hM0.out⟩
  case round =>
    clear hKW hZ0 hY0 hR0 hrow2 hM0
    obtain ⟨i, O, hil, rfl, rfl, hK, hZ, hY, hR, hO, hM⟩ := hrel
    obtain ⟨k0, k1, _, _⟩ := bx_cells hZ
    by_cases hlt : i < l
    · obtain rfl := ha (by omega)
      have s1 : (i : Int) < (l : Int) := by omega
      have hdi := HL.out.1 i hlt
      have hiN : i + l2 < N := by rw [HN.out]; omega
      have hI0 : Hid (MulIn N i l2 O 0 (valZ D i * valZ D2 l2 + D i * valZ (extZ D2 l2) 0 * 10000 ^ i) 0) := ⟨hM.out.dig, by
        have := hM.out.val
        rw [this]; simp [valZ], fun j hj => hM.out.top j (by omega), fun _ => hM.out.top _ (Nat.le_refl _), fun h => by omega⟩
      have hxnext : Hid (valZ D (i + 1) * valZ D2 l2 = valZ D i * valZ D2 l2 + D i * valZ D2 l2 * 10000 ^ i) := by
        show _ = _
        simp only [valZ]
        grind
      obtain ⟨t0, HT0⟩ : ∃ t0, Hid (t0 = valZ D i * valZ D2 l2) := ⟨_, rfl⟩
      rw [← HT0.out] at hI0 hxnext
      clear hM HT0
      obtain ⟨W3, HW3⟩ : ∃ W3 : World, Hid (W3 = wr) := ⟨_, rfl⟩
      rw [← HW3.out] at hK hZ hY hR hO k0 k1 ⊢
      clear HW3
      go_wp2_with fail
      clear k0 k1
      go_loopg [7, 8] (l2 + 1) (fun g s7 s8 wi => ∃ (k : Nat) (c : Int) (O : Nat → Int), k ≤ l2 + 1 ∧ g = l2 + 1 - k ∧ s7 = .int .i64 c ∧ s8 = .int .i64 k ∧ 0 ≤ c ∧ c < 10000 ∧ Kept w wi ∧ wi.rowIs z0 37 2 (bx (.bool m) (.slice (some ⟨b1, o1, none⟩) l cap)) ∧ wi.rowIs z1 37 2 (bx (.bool m2) (.slice a2 l2 cap2)) ∧ wi.rowIs r0 37 2 (bx (.bool false) (.slice none 0 0)) ∧ wi.rowIs o0 3 N (fun j => .int .i64 (O j)) ∧ Hid (MulIn N i l2 O c (t0 + D i * valZ (extZ D2 l2) k * 10000 ^ i) k))
      case atStart => exact ⟨0, 0, O, by omega, rfl, rfl, rfl, by omega, by omega, hK, hZ, hY, hR, hO, hI0.out⟩
      case round =>
        clear hK hZ hY hR hO hI0
        obtain ⟨k, c, O, hk1, rfl, rfl, rfl, c0, c1, hK, hZ, hY, hR, hO, hI⟩ := hrel
        obtain ⟨k0, k1, _, _⟩ := bx_cells hZ
        obtain ⟨l0, l1, _, _⟩ := bx_cells hY
        have s0 : (0 : Int) ≤ (i : Int) := by omega
        have s0' : (0 : Int) ≤ (k : Int) := by omega
        by_cases hk : k < l2
        · obtain rfl := ha2 (by omega)
          obtain ⟨p, hp⟩ : ∃ p, p = i + k := ⟨_, rfl⟩
          have ep : (i : Int) + (k : Int) = (p : Int) := by omega
          have hpN : p < N := by omega
          have x0 := hO.cell hpN
          have x1 := hO.frozen p
          have x2 := hK.cellSome (HC.out i hlt)
          have x3 := hK.cellSome (HC2.out k hk)
          have hop := hI.out.dig p hpN
          have hbk := HL2.out.1 k hk
          have s2 : (k : Int) < (l2 : Int) := by omega
          have s3 : (p : Int) < (N : Int) := by omega
          have s4 : (0 : Int) ≤ (p : Int) := by omega
          have hmd := mul_digit hop ⟨c0, c1⟩ hdi hbk
          have hpi := mul_digit (o := 0) (c := 0) ⟨by omega, by omega⟩ ⟨by omega, by omega⟩ hdi hbk
          have hst := fun x (hx : x = t0 + D i * valZ (extZ D2 l2) (k + 1) * 10000 ^ i) => MulIn.step (s := O p + c + D i * D2 k) hI.out hk hiN rfl (by rw [hp]) hx
          have HST := Lib.hid (hst _ rfl)
          rw [← hp] at HST
          obtain ⟨x, HX⟩ : ∃ x, Hid (x = D i) := ⟨_, rfl⟩
          obtain ⟨y, HY⟩ : ∃ y, Hid (y = D2 k) := ⟨_, rfl⟩
          obtain ⟨o, HOO⟩ : ∃ o, Hid (o = O p) := ⟨_, rfl⟩
          rw [← HX.out, ← HY.out] at hmd hpi HST
          rw [← HOO.out] at hmd HST x0 hop
          rw [← HX.out] at x2
          rw [← HY.out] at x3
          obtain ⟨P, HPP⟩ : ∃ P, Hid (P = x * y) := ⟨_, rfl⟩
          have e3 : IntKind.i64.wrap (x * y) = P := by rw [HPP.out]; exact IntWalk.i64_in _ (by omega)
          rw [← HPP.out] at hmd hpi HST
          have t1 : Int.tmod (o + c + P) 10000 = (o + c + P) % 10000 := Int.tmod_eq_emod_of_nonneg (by omega)
          have t2 : Int.tdiv (o + c + P) 10000 = (o + c + P) / 10000 := Int.tdiv_eq_ediv_of_nonneg (by omega)
          have hQ : 0 ≤ (o + c + P) / 10000 ∧ (o + c + P) / 10000 < 10000 := by omega
          have hR9 : 0 ≤ (o + c + P) % 10000 ∧ (o + c + P) % 10000 < 10000 := by omega
          generalize (o + c + P) % 10000 = Rr at *
          generalize (o + c + P) / 10000 = Qq at *
          have HP := Lib.hid hp
          rw [HX.out] at HST
          obtain ⟨hmd1, hmd2⟩ := hmd
          obtain ⟨hpi1, hpi2⟩ := hpi
          obtain ⟨hop1, hop2⟩ := hop
          clear hI hst hp hbk HOO HY HX
          go_wp2_with fail
          go_quiet (fail)
          go_wp2_with fail
          have hkd : Kept wr (wr.drewN nq) := (Kept.refl wr).drewN nq
          have hZ5 := (hkd.row hZ).setOther (a := ⟨o0, p, none⟩) hn1 (.int .i64 Rr)
          have hY5 := (hkd.row hY).setOther (a := ⟨o0, p, none⟩) hn2 (.int .i64 Rr)
          have hR5 := (hkd.row hR).setOther (a := ⟨o0, p, none⟩) hn3 (.int .i64 Rr)
          have hO5 := ((hkd.row hO).set p (.int .i64 Rr)).congr (g := fun j => .int .i64 ((fun j => if j = p then Rr else O j) j)) (fun j _ => by
            by_cases e : j = p
            · simp [e]
            · simp [e])
          have hK5 : Kept w (((wr.drewN nq)).setCell ⟨o0, p, none⟩ (.int .i64 Rr)) := (hK.trans hkd).setCell how _
          generalize ((wr.drewN nq)).setCell ⟨o0, p, none⟩ (.int .i64 Rr) = W5 at *
          go_roundg (l2 + 1 - (k + 1))
          case measure => omega
          case rel => exact ⟨k + 1, Qq, fun j => if j = p then Rr else O j, by omega, rfl, rfl, by go_num, hQ.1, hQ.2, hK5, hZ5, hY5, hR5, hO5, HST.out⟩
        · by_cases hc0 : c = 0
          · have hfin : Hid (MulRow N (i + 1) l2 O (valZ D (i + 1) * valZ D2 l2)) := by
              have h1 := hI.out
              have h2 := h1.val
              have h3 : valZ (extZ D2 l2) k = valZ D2 l2 := extZ_le (by omega)
              refine ⟨h1.dig, ?_, fun j hj => h1.top j (by omega)⟩
              rw [hc0, Int.zero_mul, Int.add_zero, h3] at h2
              rw [h2, hxnext.out]
            have s2 : ¬ (k : Int) < (l2 : Int) := by omega
            have s3 : ¬ (0 : Int) < c := by omega
            clear hI
            go_wp2_with fail
            go_roundg (l - (i + 1))
            case measure => omega
            case rel => exact ⟨i + 1, O, by omega, rfl, by go_num, hK, hZ, hY, hR, hO, hfin.out⟩
          · have hkl : k = l2 := by
              rcases (show k = l2 ∨ k = l2 + 1 by omega) with e | e
              · exact e
              · exact absurd (hI.out.end' e) hc0
            have hI2 : MulIn N i l2 O c (t0 + D i * valZ (extZ D2 l2) k * 10000 ^ i) l2 := by have h := hI.out; rw [hkl] at h ⊢; exact h
            obtain ⟨p, hp⟩ : ∃ p, p = i + k := ⟨_, rfl⟩
            have hL2 := MulIn.last hI2 hiN ⟨c0, c1⟩
            have h3 : valZ (extZ D2 l2) k = valZ (extZ D2 l2) (k + 1) := by rw [extZ_le (by omega), extZ_le (by omega)]
            rw [h3, show l2 + 1 = k + 1 by omega, show i + l2 = p by omega] at hL2
            have HL3 := Lib.hid hL2
            have ep : (i : Int) + (k : Int) = (p : Int) := by omega
            have hpN : p < N := by omega
            have x0 := hO.cell hpN
            have x1 := hO.frozen p
            have hz0' : O p = 0 := by rw [show p = i + l2 by omega]; exact hI2.next (Nat.le_refl _)
            rw [hz0'] at x0
            have s2 : ¬ (k : Int) < (l2 : Int) := by omega
            have s2' : (0 : Int) < c := by omega
            have s3 : (p : Int) < (N : Int) := by omega
            have s4 : (0 : Int) ≤ (p : Int) := by omega
            have t1 : Int.tmod c 10000 = c := by rw [Int.tmod_eq_emod_of_nonneg (by omega)]; omega
            have t2 : Int.tdiv c 10000 = 0 := by rw [Int.tdiv_eq_ediv_of_nonneg (by omega)]; omega
            have hkb : k + 1 ≤ l2 + 1 := by omega
            clear hI hI2 hL2 h3 hp hz0' hkl
            go_wp2_with fail
            have hkd : Kept wr wr := Kept.refl wr
            have hZ5 := (hkd.row hZ).setOther (a := ⟨o0, p, none⟩) hn1 (.int .i64 c)
            have hY5 := (hkd.row hY).setOther (a := ⟨o0, p, none⟩) hn2 (.int .i64 c)
            have hR5 := (hkd.row hR).setOther (a := ⟨o0, p, none⟩) hn3 (.int .i64 c)
            have hO5 := ((hkd.row hO).set p (.int .i64 c)).congr (g := fun j => .int .i64 ((fun j => if j = p then c else O j) j)) (fun j _ => by
              by_cases e : j = p
              · simp [e]
              · simp [e])
            have hK5 : Kept w ((wr).setCell ⟨o0, p, none⟩ (.int .i64 c)) := (hK.trans hkd).setCell how _
            generalize (wr).setCell ⟨o0, p, none⟩ (.int .i64 c) = W5 at *
            go_roundg (l2 + 1 - (k + 1))
            case measure => omega
            case rel => exact ⟨k + 1, 0, fun j => if j = p then c else O j, by omega, rfl, rfl, by go_num, by omega, by omega, hK5, hZ5, hY5, hR5, hO5, HL3.out⟩
    · obtain rfl : i = l := by omega
      have s1 : ¬ (i : Int) < (i : Int) := by omega
      obtain ⟨l0, l1, _, _⟩ := bx_cells hY
      obtain ⟨j0, j1, j2, j3⟩ := bx_cells hR
      have hSO : SlAt wr (.slice (some ⟨o0, 0, none⟩) N N) N O := ⟨_, N, rfl, Nat.le_refl _, (fun h => by cases h), (by unfold maxLen; rw [HN.out]; omega), CellsAt.of_row hO⟩
      have hdig : DigZ O N := hM.out.dig
      have hval := hM.out.val
      have HSO := Lib.hid hSO
      have HDI := Lib.hid hdig
      have HVA := Lib.hid hval
      clear hM hSO hdig hval
      go_wp2_with fail
      refine (lean_any _ (m != m2) _ N O HSO.out HDI.out (by rw [HN.out]; omega) (by rw [HVA.out]; exact hbig.out)).mono ?_
      rw [HVA.out, hsum.out]
      rintro e w6 ⟨v6, rfl, hz6, hk6⟩
      obtain ⟨mr, ar, nr, cr, rfl⟩ := hz6.shape
      have hR6 := hk6.row hR
      obtain ⟨f0, f1, f2, f3⟩ := bx_cells hR6
      have hRF := bx_set1 (bx_set0 hR6 (.bool mr)) (.slice ar nr cr)
      have hKF : Kept w ((w6.setCell ⟨r0, 0, none⟩ (.bool mr)).setCell ⟨r0, 1, none⟩ (.slice ar nr cr)) := ((hK.trans hk6).setCell hrw _).setCell hrw _
      have hX : KeptX (fun k => k = r0) w6 ((w6.setCell ⟨r0, 0, none⟩ (.bool mr)).setCell ⟨r0, 1, none⟩ (.slice ar nr cr)) := ((KeptX.refl (fun k => k = r0) w6).setIn 0 _).setIn 1 _
      have hz7 := hz6.keptBox hX hR6
      have HZ7 := Lib.hid hz7
      obtain ⟨g0, g1, _, _⟩ := bx_cells hRF
      clear hR6 hRF hX hz6 hz7
      go_wp2_with fail
      generalize ((w6.setCell ⟨r0, 0, none⟩ (.bool mr)).setCell ⟨r0, 1, none⟩ (.slice ar nr cr)) = WF at *
      exact bodyPost_ret (v := .agg #[.bool mr, .slice ar nr cr]) (by simp [results, Tryd.results81, go_sem, g0, g1]) rfl ⟨_, rfl, HZ7.out, hKF⟩
/-- v is the fraction n / d, as it is written -/
def QAt (w : World) (v : Value) (n d : Int) : Prop := ∃ (m : Bool) (s : Value) (m2 : Bool) (s2 : Value), v = .agg #[.bool m, s, .bool m2, s2] ∧ ZAt w (.agg #[.bool m, s]) n ∧ ZAt w (.agg #[.bool m2, s2]) d
theorem QAt.kept {w w' : World} {v : Value} {n d : Int} (h : QAt w v n d) (k : Kept w w') : QAt w' v n d := by
  obtain ⟨m, s, m2, s2, h1, h2, h3⟩ := h
  exact ⟨m, s, m2, s2, h1, h2.kept k, h3.kept k⟩
theorem QAt.shape {w : World} {v : Value} {n d : Int} (h : QAt w v n d) : ∃ m a l c m2 a2 l2 c2, v = .agg #[.bool m, .slice a l c, .bool m2, .slice a2 l2 c2] ∧ ZAt w (.agg #[.bool m, .slice a l c]) n ∧ ZAt w (.agg #[.bool m2, .slice a2 l2 c2]) d := by
  obtain ⟨m, s, m2, s2, h1, h2, h3⟩ := h
  obtain ⟨p, a, l, c, e⟩ := h2.shape
  obtain ⟨p2, a2, l2, c2, e2⟩ := h3.shape
  injection e with e
  injection e2 with e2
  injection e with e
  injection e2 with e2
  injection e with e4 e5
  injection e5 with e5 _
  injection e2 with e6 e7
  injection e7 with e7 _
  subst e5
  subst e7
  exact ⟨m, a, l, c, m2, a2, l2, c2, h1, h2, h3⟩
def QPost (w : World) (n d : Int) (e : Ending) (w' : World) : Prop := ∃ v, e = .returned v ∧ QAt w' v n d ∧ Kept w w'
def bx4 (x y z u : Value) : Nat → Value := fun i => if i = 0 then x else if i = 1 then y else if i = 2 then z else u
theorem box_row4 (w : World) (x y z u : Value) (t : TypeId) (s : Nat) (hs : w.heap.size = s) : (w.alloc (.cells #[x, y, z, u] t)).rowIs s t 4 (bx4 x y z u) := by
  subst hs
  exact World.rowIs_alloc w #[x, y, z, u] t (bx4 x y z u) (fun j hj => by
    have : j = 0 ∨ j = 1 ∨ j = 2 ∨ j = 3 := by simp at hj; omega
    rcases this with rfl | rfl | rfl | rfl <;> rfl)
theorem bx4_set {w : World} {b : Nat} {t : TypeId} {x y z u : Value} (h : w.rowIs b t 4 (bx4 x y z u)) (x2 y2 z2 u2 : Value) : ((((w.setCell ⟨b, 0, none⟩ x2).setCell ⟨b, 1, none⟩ y2).setCell ⟨b, 2, none⟩ z2).setCell ⟨b, 3, none⟩ u2).rowIs b t 4 (bx4 x2 y2 z2 u2) :=
  ((((h.set 0 x2).set 1 y2).set 2 z2).set 3 u2).congr (fun j hj => by
    have : j = 0 ∨ j = 1 ∨ j = 2 ∨ j = 3 := by omega
    rcases this with rfl | rfl | rfl | rfl <;> simp [bx4])
theorem bx4_cells {w : World} {b : Nat} {t : TypeId} {x y z u : Value} (h : w.rowIs b t 4 (bx4 x y z u)) : w.cell? ⟨b, 0, none⟩ = some x ∧ w.cell? ⟨b, 1, none⟩ = some y ∧ w.cell? ⟨b, 2, none⟩ = some z ∧ w.cell? ⟨b, 3, none⟩ = some u ∧ w.frozen? ⟨b, 0, none⟩ = false ∧ w.frozen? ⟨b, 1, none⟩ = false ∧ w.frozen? ⟨b, 2, none⟩ = false ∧ w.frozen? ⟨b, 3, none⟩ = false :=
  ⟨h.cell (i := 0) (by omega), h.cell (i := 1) (by omega), h.cell (i := 2) (by omega), h.cell (i := 3) (by omega), h.frozen 0, h.frozen 1, h.frozen 2, h.frozen 3⟩
theorem bx4_noint (m : Bool) (a : Option Addr) (l c : Nat) (m2 : Bool) (a2 : Option Addr) (l2 c2 : Nat) : ∀ i, i < 4 → ∀ (k : IntKind) (x : Int), bx4 (.bool m) (.slice a l c) (.bool m2) (.slice a2 l2 c2) i ≠ .int k x := fun i hi k x h => by
  have : i = 0 ∨ i = 1 ∨ i = 2 ∨ i = 3 := by omega
  rcases this with rfl | rfl | rfl | rfl <;> (unfold bx4 at h; simp at h)
/-- no digit lies in a box -/
theorem ZAt.keptBoxN {w w' : World} {v : Value} {z : Int} {r N : Nat} {t : TypeId} {f : Nat → Value} (h : ZAt w v z) (k : KeptX (fun k => k = r) w w') (hr : w.rowIs r t N f) (hf : ∀ i, i < N → ∀ (k : IntKind) (x : Int), f i ≠ .int k x) : ZAt w' v z := by
  obtain ⟨m, s, n, D, h1, ⟨a, cap, e, h2, h3, h4, ⟨a2, g, o, cap2, e2, ha, hc⟩⟩, h5⟩ := h
  refine ⟨m, s, n, D, h1, ⟨a, cap, e, h2, h3, h4, ⟨a2, g, o, cap2, e2, ha, fun i hi => ?_⟩⟩, h5⟩
  have h6 := hc i hi
  refine KeptX.cellSome k h6 (fun hg => ?_)
  simp only at hg
  subst hg
  by_cases h7 : o + i < N
  · rw [hr.cell h7] at h6
    exact hf _ h7 _ _ (Option.some.inj h6)
  · obtain ⟨c, c1, c2, _⟩ := hr
    unfold World.cell? at h6
    simp only [c1] at h6
    rw [Array.getElem?_eq_none (by omega)] at h6
    cases h6
end Go.Proofs.YthigeafojekclaaDoor.Num
