/-
  The law MarkBetween, walked.
-/
import Derived.Test.YtjcgplocifmolaaYf
import Derived.Test.YtjcgplocifmolaaLw
import Derived.Test.YtjcgplocifmolaaVa
import Derived.Deep.RegionHeld3
namespace Go.Proofs.Ytjcgplocifmolaa
open Go.RowKit Go.Deep Go.Sort

theorem dist_self (s : Wd) : dist s s = 0 := by unfold dist; have := com_self s; omega
theorem dist_zero {s t : Wd} : dist s t = 0 ↔ s = t := by
  constructor
  · intro h
    unfold dist at h
    have := com_len s t
    exact com_full (by omega)
  · rintro rfl; exact dist_self _
theorem dist_comm (s t : Wd) : dist s t = dist t s := by unfold dist; have := com_comm s t; omega
theorem dist_three (s t u : Wd) : dist s u ≤ dist s t + dist t u := by
  have h1 := com_three s t u
  have h2 := com_len s t
  have h3 := com_len t u
  have h4 := com_len s u
  unfold dist; omega
/-- the three words -/
def th (s t u : Wd) (i : Nat) : Wd := if i = 0 then s else if i = 1 then t else u
theorem box3_at {w : World} {B : Nat} {S T U : ByteArray} {s t u : Wd} (hS : S = bs s) (hT : T = bs t) (hU : U = bs u) (h0 : w.cell? ⟨B, 0, none⟩ = some (.string S)) (h1 : w.cell? ⟨B, 1, none⟩ = some (.string T)) (h2 : w.cell? ⟨B, 2, none⟩ = some (.string U)) (i : Nat) (hi : i < 3) :
    w.cell? ⟨B, i, none⟩ = some (.string (bs (th s t u i))) := by
  subst hS hT hU
  rcases (by omega : i = 0 ∨ i = 1 ∨ i = 2) with rfl | rfl | rfl
  · exact h0
  · exact h1
  · exact h2
set_option maxRecDepth 100000 in
set_option maxHeartbeats 4000000 in
theorem between_any (w : World) (v0 v1 v2 : Value) (m0 m1 m2 : Nat) (Z0 Z1 Z2 : Nat → Nat) (h0 : BytesAt w v0 m0 Z0) (h1 : BytesAt w v1 m1 Z1) (h2 : BytesAt w v2 m2 Z2) (z0 : ∀ i, Z0 i < 256) (z1 : ∀ i, Z1 i < 256) (z2 : ∀ i, Z2 i < 256) (hm0 : m0 ≤ maxLen) (hm1 : m1 ≤ maxLen) (hm2 : m2 ≤ maxLen) :
    Calls Try.prog 8 #[v0, v1, v2] w (LivesPost w) := by
  have WA := Lib.hid (fun (W : World) (k : Kept w W) => word_any W v0 m0 2 20 Z0 (CellsAt.kept h0 k) z0 hm0 (by omega) (by omega))
  have WB := Lib.hid (fun (W : World) (k : Kept w W) => word_any W v1 m1 2 20 Z1 (CellsAt.kept h1 k) z1 hm1 (by omega) (by omega))
  have WC := Lib.hid (fun (W : World) (k : Kept w W) => word_any W v2 m2 2 20 Z2 (CellsAt.kept h2 k) z2 hm2 (by omega) (by omega))
  obtain ⟨s, HS⟩ : ∃ l, Hid (l = wrd 2 Z0 (min m0 20)) := ⟨_, rfl⟩
  obtain ⟨t, HT⟩ : ∃ l, Hid (l = wrd 2 Z1 (min m1 20)) := ⟨_, rfl⟩
  obtain ⟨u, HU⟩ : ∃ l, Hid (l = wrd 2 Z2 (min m2 20)) := ⟨_, rfl⟩
  have hw : Hid (∀ i, Bin (th s t u i) ∧ (th s t u i).length ≤ 20) := Lib.hid (fun i => by
    unfold th
    split
    · rw [HS.out]; exact ⟨wrd_bin Z0 _, by rw [wrd_len]; omega⟩
    · split
      · rw [HT.out]; exact ⟨wrd_bin Z1 _, by rw [wrd_len]; omega⟩
      · rw [HU.out]; exact ⟨wrd_bin Z2 _, by rw [wrd_len]; omega⟩)
  rw [← HS.out] at WA
  rw [← HT.out] at WB
  rw [← HU.out] at WC
  clear h0 h1 h2 z0 z1 z2 HS HT HU
  have LV := Lib.hid lives_any
  unfold LivesPost at LV ⊢
  obtain ⟨S, HSS⟩ : ∃ x : ByteArray, Hid (x = bs s) := ⟨_, Lib.hid rfl⟩
  obtain ⟨T, HTT⟩ : ∃ x : ByteArray, Hid (x = bs t) := ⟨_, Lib.hid rfl⟩
  obtain ⟨U, HUU⟩ : ∃ x : ByteArray, Hid (x = bs u) := ⟨_, Lib.hid rfl⟩
  rw [← HSS.out] at WA
  rw [← HTT.out] at WB
  rw [← HUU.out] at WC
  have tok1 := Lib.hid True.intro
  have tok2 := Lib.hid True.intro
  go_enter Try.func8, Try.ntmps8
  go_wp2_with (first
    | (go_at_call 35; clear tok1; refine (WA.out _ (Kept.refl _)).mono ?_; rintro e w1 ⟨rfl, hq1⟩; have hk1 := hq1.kept)
    | (go_at_call 35; clear tok2; refine (WB.out _ hk1).mono ?_; rintro e w2 ⟨rfl, hq2⟩; have hk2 := hk1.trans hq2.kept)
    | (go_at_call 35; refine (WC.out _ hk2).mono ?_; rintro e w3 ⟨rfl, hq3⟩; have hk3 := hk2.trans hq3.kept; obtain ⟨W, hW, c0, c1, c2, hkW⟩ : ∃ W, w3.alloc (.cells #[.string S, .string T, .string U] 69) = W ∧ W.cell? ⟨w3.heap.size, 0, none⟩ = some (.string S) ∧ W.cell? ⟨w3.heap.size, 1, none⟩ = some (.string T) ∧ W.cell? ⟨w3.heap.size, 2, none⟩ = some (.string U) ∧ Kept w3 W := ⟨_, rfl, (sbox3 w3 _ _ _ _).1, (sbox3 w3 _ _ _ _).2.1, (sbox3 w3 _ _ _ _).2.2, (Kept.refl w3).alloc _⟩))
  have HB3 : Hid (∀ W', Kept W W' → ∀ i, i < 3 → W'.cell? ⟨w3.heap.size, i, none⟩ = some (.string (bs (th s t u i)))) := fun W' hk i hi => hk.cellSome (box3_at HSS.out HTT.out HUU.out c0 c1 c2 i hi)
  have hD0 : (W.alloc (.cells #[.int .i64 0, .int .i64 0, .int .i64 0, .int .i64 0, .int .i64 0, .int .i64 0, .int .i64 0, .int .i64 0, .int .i64 0] 71)).rowIs W.heap.size 71 9 (fun j => .int .i64 (((if j < 3 * 0 + 0 then dist (th s t u (j / 3)) (th s t u (j % 3)) else 0 : Nat)) : Int)) := World.rowIs_alloc W _ _ _ (fun j hj => by
    have : j = 0 ∨ j = 1 ∨ j = 2 ∨ j = 3 ∨ j = 4 ∨ j = 5 ∨ j = 6 ∨ j = 7 ∨ j = 8 := by simp at hj; omega
    rcases this with rfl | rfl | rfl | rfl | rfl | rfl | rfl | rfl | rfl <;> rfl)
  have hK0 : Kept W (W.alloc (.cells #[.int .i64 0, .int .i64 0, .int .i64 0, .int .i64 0, .int .i64 0, .int .i64 0, .int .i64 0, .int .i64 0, .int .i64 0] 71)) := (Kept.refl W).alloc _
  have HKW := Lib.hid (hk3.trans hkW)
  clear c0 c1 c2 hkW hW hk1 hk2 hk3 hq1 hq2 hq3 WA WB WC
  generalize W.alloc (.cells #[.int .i64 0, .int .i64 0, .int .i64 0, .int .i64 0, .int .i64 0, .int .i64 0, .int .i64 0, .int .i64 0, .int .i64 0] 71) = W1 at *
  obtain ⟨B, HBB⟩ : ∃ B, Hid (B = w3.heap.size) := ⟨_, rfl⟩
  obtain ⟨D, HDD⟩ : ∃ B, Hid (B = W.heap.size) := ⟨_, rfl⟩
  rw [← HBB.out] at HB3 ⊢
  rw [← HDD.out] at hD0 ⊢
  have hWD : W.heap.size ≤ D := by rw [HDD.out]; exact Nat.le_refl _
  go_loopg [9] 3 (fun g s9 wr => ∃ i : Nat, i ≤ 3 ∧ g = 3 - i ∧ s9 = .int .i64 i ∧ Kept W wr ∧ wr.rowIs D 71 9 (fun j => .int .i64 (((if j < 3 * i + 0 then dist (th s t u (j / 3)) (th s t u (j % 3)) else 0 : Nat)) : Int)))
  case atStart => exact ⟨0, by omega, rfl, rfl, hK0, hD0⟩
  case round =>
    clear hD0 hK0
    obtain ⟨i, hi, rfl, rfl, hK, hD⟩ := hrel
    by_cases hlt : i < 3
    · have i2 : (i : Int) < 3 := by omega
      have i3 : (0 : Int) ≤ (i : Int) := by omega
      go_wp2_with fail
      go_loopg [10] 3 (fun g s10 wx => ∃ k : Nat, k ≤ 3 ∧ g = 3 - k ∧ s10 = .int .i64 k ∧ Kept W wx ∧ wx.rowIs D 71 9 (fun j => .int .i64 (((if j < 3 * i + k then dist (th s t u (j / 3)) (th s t u (j % 3)) else 0 : Nat)) : Int)))
      case atStart => exact ⟨0, by omega, rfl, rfl, hK, hD⟩
      case round =>
        clear hD hK
        obtain ⟨k, hk, rfl, rfl, hK, hD⟩ := hrel
        by_cases hlk : k < 3
        · have k2 : (k : Int) < 3 := by omega
          have k3 : (0 : Int) ≤ (k : Int) := by omega
          have t0 := HB3.out _ hK i hlt
          have t1 := HB3.out _ hK k hlk
          obtain ⟨p, HP⟩ : ∃ p, Hid (p = th s t u i) := ⟨_, rfl⟩
          obtain ⟨q, HQ⟩ : ∃ p, Hid (p = th s t u k) := ⟨_, rfl⟩
          have hp := hw.out i
          have hq := hw.out k
          rw [← HP.out] at t0 hp
          rw [← HQ.out] at t1 hq
          have DI := Lib.hid (fun W => distance_ok W hp.1 hq.1 hp.2 hq.2)
          have CO := Lib.hid (fun W => common_bin W hp.1 hq.1 hp.2 hq.2)
          obtain ⟨d, HD⟩ : ∃ d, Hid (d = dist p q) := ⟨_, rfl⟩
          obtain ⟨lp, HLP⟩ : ∃ d, Hid (d = p.length) := ⟨_, rfl⟩
          obtain ⟨lq, HLQ⟩ : ∃ d, Hid (d = q.length) := ⟨_, rfl⟩
          obtain ⟨lc, HLC⟩ : ∃ d, Hid (d = (com p q).length) := ⟨_, rfl⟩
          obtain ⟨P, HPP⟩ : ∃ x : ByteArray, Hid (x = bs p) := ⟨_, Lib.hid rfl⟩
          obtain ⟨Q, HQQ⟩ : ∃ x : ByteArray, Hid (x = bs q) := ⟨_, Lib.hid rfl⟩
          obtain ⟨C, HCC⟩ : ∃ x : ByteArray, Hid (x = bs (com p q)) := ⟨_, Lib.hid rfl⟩
          have hPs : P.size = lp := by rw [HPP.out, HLP.out]; rfl
          have hQs : Q.size = lq := by rw [HQQ.out, HLQ.out]; rfl
          have hCs : C.size = lc := by rw [HCC.out, HLC.out]; rfl
          have hlp : lp ≤ 20 := by rw [HLP.out]; exact hp.2
          have hlq : lq ≤ 20 := by rw [HLQ.out]; exact hq.2
          have hlc : lc ≤ lp ∧ lc ≤ lq := by rw [HLC.out, HLP.out, HLQ.out]; exact com_len p q
          obtain ⟨hlc1, hlc2⟩ := hlc
          have hd : Hid (d = lp + lq - 2 * lc) := by show _ = _; rw [HD.out, HLP.out, HLQ.out, HLC.out]; rfl
          have hd2 : (d : Int) = (lp : Int) + (lq : Int) - 2 * (lc : Int) := by have := hd.out; omega
          have g1 : ((d : Int) != (lp : Int) + (lq : Int) - 2 * (lc : Int)) = false := by rw [hd2]; simp
          have hnx : Hid (∀ j, j < 9 → (if j < 3 * i + (k + 1) then dist (th s t u (j / 3)) (th s t u (j % 3)) else 0) = if j = i * 3 + k then d else (if j < 3 * i + k then dist (th s t u (j / 3)) (th s t u (j % 3)) else 0)) := Lib.hid (fun j hj => by
            by_cases e : j = i * 3 + k
            · rw [if_pos e, if_pos (by omega), show j / 3 = i by omega, show j % 3 = k by omega, ← HP.out, ← HQ.out, HD.out]
            · rw [if_neg e]
              by_cases e2 : j < 3 * i + k
              · rw [if_pos e2, if_pos (by omega)]
              · rw [if_neg e2, if_neg (by omega)])
          have hpq : Hid (((d : Int) == 0) = (P.toList == Q.toList)) := by
            show _ = _
            by_cases e : p = q
            · rw [beq_yes (show P = Q by rw [HPP.out, HQQ.out, e])]
              have : d = 0 := by rw [HD.out]; exact dist_zero.2 e
              rw [this]; rfl
            · rw [beq_no (show ¬ P = Q from fun h => e (bs_inj (by rw [← HPP.out, ← HQQ.out]; exact h)))]
              have : d ≠ 0 := fun h => e (dist_zero.1 (by rw [← HD.out]; exact h))
              simp only [beq_eq_false_iff_ne]; omega
          obtain ⟨z, HZ⟩ : ∃ z : Bool, Hid (z = (P.toList == Q.toList)) := ⟨_, rfl⟩
          have g2 : ((d : Int) == 0) = z := by rw [hpq.out, HZ.out]
          have g3 : (P.toList == Q.toList) = z := HZ.out.symm
          have g4 : (z != z) = false := by simp
          rw [← HPP.out] at t0
          rw [← HQQ.out] at t1
          rw [← HPP.out, ← HQQ.out, ← HD.out] at DI
          rw [← HPP.out, ← HQQ.out, ← HCC.out] at CO
          have hd40 : d ≤ 40 := by have := hd.out; omega
          have HDR := Lib.hid hD
          have HKK := Lib.hid hK
          clear hD hK hd2 HLP HLQ HLC HPP HQQ HCC HD HP HQ hp hq
          generalize wr = W5 at *
          go_wp2_with fail
          go_region_held3 (fun w' => w'.cell? ⟨B, i, none⟩ = some (.string P) ∧ w'.cell? ⟨B, k, none⟩ = some (.string Q) ∧ Kept W5 w')
            (exact keep2 t0 t1 (by repeat (first | assumption | exact Kept.refl _ | apply Kept.drew | apply Kept.drewN | apply Kept.alloc | refine Kept.trans ?_ (by assumption))))
            (first | (go_at_call 20; refine (DI.out _).mono ?_; rintro e w' ⟨rfl, hk1⟩))
          all_goals
            have hk6 : Kept W5 w' := (by repeat (first | assumption | exact Kept.refl _ | apply Kept.drew | apply Kept.drewN | apply Kept.alloc | refine Kept.trans ?_ (by assumption)))
            obtain ⟨t0, t1, hk6⟩ := keep2 t0 t1 hk6
            clear hk1
            generalize w' = W6 at *
            go_wp2_with fail
            go_region_held3 (fun w' => w'.cell? ⟨B, i, none⟩ = some (.string P) ∧ w'.cell? ⟨B, k, none⟩ = some (.string Q) ∧ Kept W6 w')
              (exact keep2 t0 t1 (by repeat (first | assumption | exact Kept.refl _ | apply Kept.drew | apply Kept.drewN | apply Kept.alloc | refine Kept.trans ?_ (by assumption))))
              (first | (go_at_call 19; refine (CO.out _).mono ?_; rintro e w' ⟨rfl, hk1⟩))
            all_goals
              have hk7 : Kept W6 w' := (by repeat (first | assumption | exact Kept.refl _ | apply Kept.drew | apply Kept.drewN | apply Kept.alloc | refine Kept.trans ?_ (by assumption)))
              obtain ⟨t0, t1, hk7⟩ := keep2 t0 t1 hk7
              clear hk1
              generalize w' = W7 at *
              have g5 : (lp : Int) + (lq : Int) ≤ 40 := by omega
              go_wp2_with fail
              go_quiet (fail)
              have hD8 := hk7.row (hk6.row HDR.out)
              have hc := hD8.cell (show i * 3 + k < 9 by omega)
              have hf := hD8.frozen (i * 3 + k)
              (try dsimp only at hc)
              generalize (if i * 3 + k < 3 * i + k then dist (th s t u ((i * 3 + k) / 3)) (th s t u ((i * 3 + k) % 3)) else 0) = old at hc
              have hfin : Hid (∀ W', Quiet W7 W' → Kept W (W'.setCell ⟨D, i * 3 + k, none⟩ (.int .i64 d)) ∧ (W'.setCell ⟨D, i * 3 + k, none⟩ (.int .i64 d)).rowIs D 71 9 (fun j => .int .i64 (((if j < 3 * i + (k + 1) then dist (th s t u (j / 3)) (th s t u (j % 3)) else 0 : Nat)) : Int))) := Lib.hid (fun W' hq => ⟨(((HKK.out.trans hk6).trans hk7).trans hq.kept).setCell (p := ⟨D, i * 3 + k, none⟩) hWD _, ((hq.kept.row hD8).set (i * 3 + k) _).congr fun j hj => by
                rw [hnx.out j hj]
                by_cases e : j = i * 3 + k
                · rw [if_pos e, if_pos e]
                · rw [if_neg e, if_neg e]⟩)
              go_wp2_with fail
              go_roundg (3 - (k + 1))
              case measure => omega
              case rel => exact ⟨k + 1, by omega, rfl, by first | rfl | go_num, (hfin.out _ ⟨_, rfl⟩).1, (hfin.out _ ⟨_, rfl⟩).2⟩
        · obtain rfl : k = 3 := by omega
          have k2 : ¬ (((3 : Nat) : Int) < 3) := by omega
          have hD9 : wr.rowIs D 71 9 (fun j => .int .i64 (((if j < 3 * (i + 1) + 0 then dist (th s t u (j / 3)) (th s t u (j % 3)) else 0 : Nat)) : Int)) := hD
          clear hD
          go_wp2_with fail
          go_roundg (3 - (i + 1))
          case measure => omega
          case rel => exact ⟨i + 1, by omega, rfl, by first | rfl | go_num, hK, hD9⟩
    · obtain rfl : i = 3 := by omega
      have i2 : ¬ (((3 : Nat) : Int) < 3) := by omega
      have r1 : wr.cell? ⟨D, 1, none⟩ = some (.int .i64 ((dist s t : Nat) : Int)) := hD.cell (show 1 < 9 by omega)
      have r2 : wr.cell? ⟨D, 2, none⟩ = some (.int .i64 ((dist s u : Nat) : Int)) := hD.cell (show 2 < 9 by omega)
      have r3 : wr.cell? ⟨D, 3, none⟩ = some (.int .i64 ((dist t s : Nat) : Int)) := hD.cell (show 3 < 9 by omega)
      have r5 : wr.cell? ⟨D, 5, none⟩ = some (.int .i64 ((dist t u : Nat) : Int)) := hD.cell (show 5 < 9 by omega)
      rw [← dist_comm s t] at r3
      have h3 := dist_three s t u
      have b1 : dist s t ≤ 40 := by have := (hw.out 0).2; have := (hw.out 1).2; unfold th at *; simp at *; unfold dist; omega
      have b2 : dist t u ≤ 40 := by have := (hw.out 1).2; have := (hw.out 2).2; unfold th at *; simp at *; unfold dist; omega
      generalize dist s t = d1 at *
      generalize dist s u = d2 at *
      generalize dist t u = d3 at *
      have g1 : (d2 : Int) ≤ (d1 : Int) + (d3 : Int) := by omega
      have hKF := Lib.hid (HKW.out.trans hK)
      clear hD hK h3
      go_wp2_with (first
        | (go_at_call 12; refine (LV.out _).mono ?_; rintro e w9 ⟨rfl, hk9⟩))
      go_ret
      exact ⟨rfl, hKF.out.trans hk9⟩
end Go.Proofs.Ytjcgplocifmolaa
