/-
  The reference's numbers: greatest common divisor, lowest terms.
  The reference's numbers: decimals.
-/
import Derived.Test.YtlnlddnjalfamaaGreatDoorUb
import Derived.Deep.RegionWith
import Derived.RegionTactic
import Derived.Laws.IdiomStrings
namespace Go.Proofs.YtlnlddnjalfamaaGreatDoor.Num
open Go.RowKit Go.Deep

theorem ZAt.len {w : World} {m : Bool} {a : Option Addr} {n c : Nat} {z : Int} (h : ZAt w (.agg #[.bool m, .slice a n c]) z) : n = 0 ↔ z = 0 := by
  obtain ⟨m', s', n', D, e, hS, hL, hm, hv, hn⟩ := h
  injection e with e
  injection e with e
  injection e with e1 e2
  injection e2 with e2 _
  subst e2
  obtain ⟨_, _, e3, _⟩ := hS
  injection e3 with _ e3 _
  subst e3
  have h1 := lean_zero hL
  constructor
  · intro h
    rw [hv, h1.2 h]
    cases m' <;> rfl
  · intro h
    apply h1.1
    rw [h] at hv
    cases m' <;> simp [sgnZ] at hv <;> omega
structure GcdIn0 (R X Y : Int) (G : Nat) : Prop where
  r0 : 0 ≤ R
  rl : R < Y
  by' : Y * 10000 < bigN
  y0 : 0 ≤ Y
  g : Int.gcd Y R = G
theorem gcd_step (X Y : Int) (hX : 0 ≤ X) (hY : 0 ≤ Y) : Int.gcd Y (X % Y) = Int.gcd X Y := by
  obtain ⟨a, rfl⟩ := Int.eq_ofNat_of_zero_le hX
  obtain ⟨b, rfl⟩ := Int.eq_ofNat_of_zero_le hY
  show Nat.gcd (b : Int).natAbs ((a : Int) % (b : Int)).natAbs = Nat.gcd (a : Int).natAbs (b : Int).natAbs
  rw [show ((a : Int) % (b : Int)).natAbs = a % b from by rw [← Int.natCast_emod]; rfl]
  show Nat.gcd b (a % b) = Nat.gcd a b
  rw [Nat.gcd_comm a b, Nat.gcd_rec b a, Nat.gcd_comm]
/-- the numbers of a round -/
structure GcdIn (w : World) (u v : Value) (X Y : Int) (G : Nat) : Prop where
  a : ZAt w u X
  b : ZAt w v Y
  x0 : 0 ≤ X
  y0 : 0 ≤ Y
  bx' : X * 10000 < bigN
  by' : Y * 10000 < bigN
  g : Int.gcd X Y = G
set_option maxRecDepth 100000 in
set_option maxHeartbeats 16000000 in
theorem Gcd_any (w : World) (u v : Value) (x y : Int) (hX : ZAt w u x) (hY : ZAt w v y) (hx0 : 0 ≤ x) (hy0 : 0 ≤ y) (hxB : x * 10000 < bigN) (hyB : y * 10000 < bigN) :
    Calls Tryz.prog 90 #[u, v] w (ZPost w (Int.gcd x y : Int)) := by
  have HX := Lib.hid hX
  have HY := Lib.hid hY
  have HX0 := Lib.hid hx0
  have HY0 := Lib.hid hy0
  have HBX := Lib.hid hxB
  have HBY := Lib.hid hyB
  obtain ⟨m, a, l, cap, rfl⟩ := hX.shape
  obtain ⟨m2, a2, l2, cap2, rfl⟩ := hY.shape
  have hA0 := box_row w (.bool m) (.slice a l cap) 53 w.heap.size rfl
  have hA1 := box_row (w.alloc (.cells #[.bool m, .slice a l cap] 53)) (.bool m2) (.slice a2 l2 cap2) 53 (w.heap.size + 1) (by simp)
  have hA2 := box_row ((w.alloc (.cells #[.bool m, .slice a l cap] 53)).alloc (.cells #[.bool m2, .slice a2 l2 cap2] 53)) (.bool false) (.slice none 0 0) 53 (w.heap.size + 1 + 1) (by simp)
  have k2 := (Kept.refl ((w.alloc (.cells #[.bool m, .slice a l cap] 53)).alloc (.cells #[.bool m2, .slice a2 l2 cap2] 53))).alloc (.cells #[.bool false, .slice none 0 0] 53)
  have k1 := ((Kept.refl (w.alloc (.cells #[.bool m, .slice a l cap] 53))).alloc (.cells #[.bool m2, .slice a2 l2 cap2] 53)).trans k2
  have hK0 := ((Kept.refl w).alloc (.cells #[.bool m, .slice a l cap] 53)).trans k1
  have hZ0 := k1.row hA0
  have hY0 := k2.row hA1
  clear hX hY hx0 hy0 hxB hyB
  go_enter Tryz.func90, Tryz.ntmps90
  go_wp2_with fail
  generalize (((w.alloc (.cells #[.bool m, .slice a l cap] 53)).alloc (.cells #[.bool m2, .slice a2 l2 cap2] 53)).alloc (.cells #[.bool false, .slice none 0 0] 53)) = W at *
  obtain ⟨r0, HR0⟩ : ∃ o0, Hid (o0 = w.heap.size + 1 + 1) := ⟨_, rfl⟩
  obtain ⟨z1, HZ1⟩ : ∃ o0, Hid (o0 = w.heap.size + 1) := ⟨_, rfl⟩
  obtain ⟨z0, HZ0⟩ : ∃ o0, Hid (o0 = w.heap.size) := ⟨_, rfl⟩
  rw [← HR0.out] at hA2 ⊢
  rw [← HZ1.out] at hY0 ⊢
  rw [← HZ0.out] at hZ0 ⊢
  have hrw : w.heap.size ≤ r0 := by rw [HR0.out]; omega
  have hz1w : w.heap.size ≤ z1 := by rw [HZ1.out]; omega
  have hz0w : w.heap.size ≤ z0 := by rw [HZ0.out]; exact Nat.le_refl _
  have h01 : z0 ≠ z1 := by rw [HZ1.out, HZ0.out]; omega
  have h0r : z0 ≠ r0 := by rw [HR0.out, HZ0.out]; omega
  have h1r : z1 ≠ r0 := by rw [HR0.out, HZ1.out]; omega
  obtain ⟨p0, p1, p2, p3⟩ := bx_cells hZ0
  obtain ⟨q0, q1, q2, q3⟩ := bx_cells hY0
  have HRr := Lib.hid hA2
  have HZr := Lib.hid hZ0
  have HYr := Lib.hid hY0
  clear hA0 hA1 hA2 k1 k2 hZ0 hY0 HR0 HZ1 HZ0
  try go_wp2_with fail
  go_region_with (first | (go_at_call 94; first | (refine (Abs_any _ _ x x (HX.out.kept (hK0.trans (by repeat (first | assumption | exact Kept.refl _ | apply Kept.drew | apply Kept.drewN | apply Kept.alloc | refine Kept.trans ?_ (by assumption))))) (by have := HX0.out; omega)).mono ?_; rintro e w5 ⟨v5, rfl, hz5, hk5⟩; obtain ⟨m5, a5, l5, c5, rfl⟩ := hz5.shape; obtain ⟨y0, y1, y2, y3⟩ := bx_cells (Kept.row (w := W) (by repeat (first | assumption | exact Kept.refl _ | apply Kept.drew | apply Kept.drewN | apply Kept.alloc | refine Kept.trans ?_ (by assumption))) HYr.out : w5.rowIs z1 _ _ _)) | (refine (Abs_any _ _ y y (HY.out.kept (hK0.trans (by repeat (first | assumption | exact Kept.refl _ | apply Kept.drew | apply Kept.drewN | apply Kept.alloc | refine Kept.trans ?_ (by assumption))))) (by have := HY0.out; omega)).mono ?_; rintro e w6 ⟨v6, rfl, hz6, hk6⟩; obtain ⟨m6, a6, l6, c6, rfl⟩ := hz6.shape; obtain ⟨s0, s1, s2, s3⟩ := bx_cells (Kept.row (w := W) (by repeat (first | assumption | exact Kept.refl _ | apply Kept.drew | apply Kept.drewN | apply Kept.alloc | refine Kept.trans ?_ (by assumption))) HZr.out : w6.rowIs z0 _ _ _); obtain ⟨s4, s5, s6, s7⟩ := bx_cells (Kept.row (w := W) (by repeat (first | assumption | exact Kept.refl _ | apply Kept.drew | apply Kept.drewN | apply Kept.alloc | refine Kept.trans ?_ (by assumption))) HYr.out : w6.rowIs z1 _ _ _))))
  all_goals
    clear p0 p1 p2 p3 q0 q1 q2 q3 y0 y1 y2 y3 s0 s1 s2 s3 s4 s5 s6 s7
    have hKW6 : Kept W w6 := (by repeat (first | assumption | exact Kept.refl _ | apply Kept.drew | apply Kept.drewN | apply Kept.alloc | refine Kept.trans ?_ (by assumption)))
    have hz56 := hz5.kept hk6
    have hZ6 := hKW6.row HZr.out
    have hY6 := hKW6.row HYr.out
    have hR6 := hKW6.row HRr.out
    have hKw6 := hK0.trans hKW6
    have hXa : KeptX (fun k => k = z0) w6 ((w6.setCell ⟨z0, 0, none⟩ (.bool m5)).setCell ⟨z0, 1, none⟩ (.slice a5 l5 c5)) := ((KeptX.refl (fun k => k = z0) w6).setIn 0 _).setIn 1 _
    have hYa := (hY6.setOther (a := ⟨z0, 0, none⟩) (Ne.symm h01) (.bool m5)).setOther (a := ⟨z0, 1, none⟩) (Ne.symm h01) (.slice a5 l5 c5)
    have hRa := (hR6.setOther (a := ⟨z0, 0, none⟩) (Ne.symm h0r) (.bool m5)).setOther (a := ⟨z0, 1, none⟩) (Ne.symm h0r) (.slice a5 l5 c5)
    have hZa := bx_set1 (bx_set0 hZ6 (.bool m5)) (.slice a5 l5 c5)
    have hz5a := hz56.keptBox hXa hZ6
    have hz6a := hz6.keptBox hXa hZ6
    have hKa : Kept w ((w6.setCell ⟨z0, 0, none⟩ (.bool m5)).setCell ⟨z0, 1, none⟩ (.slice a5 l5 c5)) := (hKw6.setCell hz0w _).setCell hz0w _
    generalize ((w6.setCell ⟨z0, 0, none⟩ (.bool m5)).setCell ⟨z0, 1, none⟩ (.slice a5 l5 c5)) = Wa at *
    have hXb : KeptX (fun k => k = z1) Wa ((Wa.setCell ⟨z1, 0, none⟩ (.bool m6)).setCell ⟨z1, 1, none⟩ (.slice a6 l6 c6)) := ((KeptX.refl (fun k => k = z1) Wa).setIn 0 _).setIn 1 _
    have hZb := (hZa.setOther (a := ⟨z1, 0, none⟩) h01 (.bool m6)).setOther (a := ⟨z1, 1, none⟩) h01 (.slice a6 l6 c6)
    have hRb := (hRa.setOther (a := ⟨z1, 0, none⟩) (Ne.symm h1r) (.bool m6)).setOther (a := ⟨z1, 1, none⟩) (Ne.symm h1r) (.slice a6 l6 c6)
    have hYb := bx_set1 (bx_set0 hYa (.bool m6)) (.slice a6 l6 c6)
    have hz5b := hz5a.keptBox hXb hYa
    have hz6b := hz6a.keptBox hXb hYa
    have hKb : Kept w ((Wa.setCell ⟨z1, 0, none⟩ (.bool m6)).setCell ⟨z1, 1, none⟩ (.slice a6 l6 c6)) := (hKa.setCell hz1w _).setCell hz1w _
    generalize ((Wa.setCell ⟨z1, 0, none⟩ (.bool m6)).setCell ⟨z1, 1, none⟩ (.slice a6 l6 c6)) = Wb at *
    have hI0 : Hid (GcdIn Wb (.agg #[.bool m5, .slice a5 l5 c5]) (.agg #[.bool m6, .slice a6 l6 c6]) x y (Int.gcd x y)) := ⟨hz5b, hz6b, HX0.out, HY0.out, HBX.out, HBY.out, rfl⟩
    have hgy : Hid (y.toNat + 1 = y.toNat + 1) := rfl
    clear hz5 hz6 hz56 hZ6 hY6 hR6 hXa hYa hRa hZa hz5a hz6a hKa hXb hz5b hz6b hKw6 hKW6 hk5 hk6
    go_wp2_with fail
    go_loopg [5] (y.toNat + 1) (fun g s5 wr => ∃ (X Y : Int) (ma mb : Bool) (aa ab : Option Addr) (la ca lb cb : Nat), g = Y.toNat + 1 ∧ Kept w wr ∧ wr.rowIs z0 53 2 (bx (.bool ma) (.slice aa la ca)) ∧ wr.rowIs z1 53 2 (bx (.bool mb) (.slice ab lb cb)) ∧ wr.rowIs r0 53 2 (bx (.bool false) (.slice none 0 0)) ∧ Hid (GcdIn wr (.agg #[.bool ma, .slice aa la ca]) (.agg #[.bool mb, .slice ab lb cb]) X Y (Int.gcd x y)))
    case atStart => exact ⟨x, y, _, _, _, _, _, _, _, _, rfl, hKb, hZb, hYb, hRb, hI0.out⟩
    case round =>
      clear hI0 hKb hZb hYb hRb hgy
      obtain ⟨X, Y, ma, mb, aa, ab, la, ca, lb, cb, rfl, hK, hZ, hY, hR, hI⟩ := hrel
      obtain ⟨k0, k1, k2, k3⟩ := bx_cells hZ
      obtain ⟨l0, l1, l2', l3⟩ := bx_cells hY
      have hlen := hI.out.b.len
      by_cases hY0 : Y = 0
      · have hlb : lb = 0 := hlen.2 hY0
        have s1 : ¬ (0 : Int) < (lb : Int) := by omega
        have hg : Hid ((X : Int) = (Int.gcd x y : Int)) := by
          have h1 := hI.out.g
          have h2 := hI.out.x0
          rw [hY0] at h1
          show X = _
          rw [← h1]
          simp [Int.gcd]
          omega
        have hzX := hI.out.a
        rw [hg.out] at hzX
        obtain ⟨j0, j1, j2, j3⟩ := bx_cells hR
        have hRF := bx_set1 (bx_set0 hR (.bool ma)) (.slice aa la ca)
        have hKF : Kept w ((wr.setCell ⟨r0, 0, none⟩ (.bool ma)).setCell ⟨r0, 1, none⟩ (.slice aa la ca)) := (hK.setCell hrw _).setCell hrw _
        have hX9 : KeptX (fun k => k = r0) wr ((wr.setCell ⟨r0, 0, none⟩ (.bool ma)).setCell ⟨r0, 1, none⟩ (.slice aa la ca)) := ((KeptX.refl (fun k => k = r0) wr).setIn 0 _).setIn 1 _
        have HF := Lib.hid (hzX.keptBox hX9 hR)
        obtain ⟨g0, g1, _, _⟩ := bx_cells hRF
        clear hI hlen hY0 hlb hzX hRF hX9
        go_wp2_with fail
        generalize ((wr.setCell ⟨r0, 0, none⟩ (.bool ma)).setCell ⟨r0, 1, none⟩ (.slice aa la ca)) = WF at *
        exact bodyPost_ret (v := .agg #[.bool ma, .slice aa la ca]) (by simp [results, Tryz.results90, go_sem, g0, g1]) rfl ⟨_, rfl, HF.out, hKF⟩
      · have hlb : lb ≠ 0 := fun h => hY0 (hlen.1 h)
        have s1 : (0 : Int) < (lb : Int) := by omega
        have hyy := hI.out.y0
        have hmod := Int.emod_lt_of_pos X (show 0 < Y by omega)
        have hmod0 := Int.emod_nonneg X hY0
        have HIO := Lib.hid hY0
        clear hlen hY0 hlb
        go_wp2_with fail
        refine (DivMod_any _ _ _ X Y hI.out.a hI.out.b hI.out.x0 (by have := HIO.out; omega) hI.out.by' (by have := hI.out.bx'; have := hI.out.x0; omega)).mono ?_
        rintro e w5 ⟨u5, v5, rfl, hzu, hz5, hk5⟩
        obtain ⟨m5, a5, l5, c5, rfl⟩ := hz5.shape
        obtain ⟨mu, au, lu, cu, rfl⟩ := hzu.shape
        have hk9 : Kept w5 ((w5.alloc (.cells #[.bool mu, .slice au lu cu] 53)).alloc (.cells #[.bool m5, .slice a5 l5 c5] 53)) := ((Kept.refl w5).alloc _).alloc _
        have hk59 := hk5.trans hk9
        have hZ9 := hk59.row hZ
        have hY9 := hk59.row hY
        have hR9 := hk59.row hR
        have hb9 := hI.out.b.kept hk59
        have hz59 := hz5.kept hk9
        have hK9 := hK.trans hk59
        have hT6 := box_row (w5.alloc (.cells #[.bool mu, .slice au lu cu] 53)) (.bool m5) (.slice a5 l5 c5) 53 (w5.heap.size + 1) (by simp)
        have hl0 : z0 < w5.heap.size := (hk5.row hZ).lt
        have hl1 : z1 < w5.heap.size := (hk5.row hY).lt
        obtain ⟨k0', k1', k2', k3'⟩ := bx_cells hZ9
        obtain ⟨l0', l1', l2'', l3'⟩ := bx_cells hY9
        have hnx : Hid (GcdIn0 (X % Y) X Y (Int.gcd x y)) := ⟨hmod0, hmod, hI.out.by', hyy, by rw [← hI.out.g]; exact gcd_step X Y hI.out.x0 hyy⟩
        clear k0 k1 k2 k3 l0 l1 l2' l3 hzu hz5 hI hZ hY hR hK hk5 hk9 hk59
        go_wp2_with fail
        generalize ((w5.alloc (.cells #[.bool mu, .slice au lu cu] 53)).alloc (.cells #[.bool m5, .slice a5 l5 c5] 53)) = W9 at *
        obtain ⟨z6, HZZ6⟩ : ∃ z, Hid (z = w5.heap.size + 1) := ⟨_, rfl⟩
        rw [← HZZ6.out] at hT6 ⊢
        have n1 : z0 ≠ z6 := by rw [HZZ6.out]; omega
        have n2 : z1 ≠ z6 := by rw [HZZ6.out]; omega
        obtain ⟨b0', b1', _, _⟩ := bx_cells hT6
        have hXa : KeptX (fun k => k = z0) W9 ((W9.setCell ⟨z0, 0, none⟩ (.bool mb)).setCell ⟨z0, 1, none⟩ (.slice ab lb cb)) := ((KeptX.refl (fun k => k = z0) W9).setIn 0 _).setIn 1 _
        have hYa := (hY9.setOther (a := ⟨z0, 0, none⟩) (Ne.symm h01) (.bool mb)).setOther (a := ⟨z0, 1, none⟩) (Ne.symm h01) (.slice ab lb cb)
        have hRa := (hR9.setOther (a := ⟨z0, 0, none⟩) (Ne.symm h0r) (.bool mb)).setOther (a := ⟨z0, 1, none⟩) (Ne.symm h0r) (.slice ab lb cb)
        have hZa := bx_set1 (bx_set0 hZ9 (.bool mb)) (.slice ab lb cb)
        have hba := hb9.keptBox hXa hZ9
        have hza := hz59.keptBox hXa hZ9
        have hKa : Kept w ((W9.setCell ⟨z0, 0, none⟩ (.bool mb)).setCell ⟨z0, 1, none⟩ (.slice ab lb cb)) := (hK9.setCell hz0w _).setCell hz0w _
        have HGO := Lib.hid (And.intro hYa (And.intro hRa (And.intro hZa (And.intro hba (And.intro hza hKa)))))
        clear hXa hYa hRa hZa hba hza hKa hZ9 hY9 hR9 hb9 hz59 hK9 hT6 hl0 hl1
        go_region
        obtain ⟨hYa, hRa, hZa, hba, hza, hKa⟩ := HGO.out
        generalize ((W9.setCell ⟨z0, 0, none⟩ (.bool mb)).setCell ⟨z0, 1, none⟩ (.slice ab lb cb)) = Wa at *
        have hXb : KeptX (fun k => k = z1) Wa ((Wa.setCell ⟨z1, 0, none⟩ (.bool m5)).setCell ⟨z1, 1, none⟩ (.slice a5 l5 c5)) := ((KeptX.refl (fun k => k = z1) Wa).setIn 0 _).setIn 1 _
        have hdr : Kept ((Wa.setCell ⟨z1, 0, none⟩ (.bool m5)).setCell ⟨z1, 1, none⟩ (.slice a5 l5 c5)) ((Wa.setCell ⟨z1, 0, none⟩ (.bool m5)).setCell ⟨z1, 1, none⟩ (.slice a5 l5 c5)).drew := (Kept.refl _).drew
        have hZb := hdr.row ((hZa.setOther (a := ⟨z1, 0, none⟩) h01 (.bool m5)).setOther (a := ⟨z1, 1, none⟩) h01 (.slice a5 l5 c5))
        have hRb := hdr.row ((hRa.setOther (a := ⟨z1, 0, none⟩) (Ne.symm h1r) (.bool m5)).setOther (a := ⟨z1, 1, none⟩) (Ne.symm h1r) (.slice a5 l5 c5))
        have hYb := hdr.row (bx_set1 (bx_set0 hYa (.bool m5)) (.slice a5 l5 c5))
        have hbb := (hba.keptBox hXb hYa).kept hdr
        have hzb := (hza.keptBox hXb hYa).kept hdr
        have hKb : Kept w ((Wa.setCell ⟨z1, 0, none⟩ (.bool m5)).setCell ⟨z1, 1, none⟩ (.slice a5 l5 c5)).drew := ((hKa.setCell hz1w _).setCell hz1w _).drew
        have hIn : Hid (GcdIn ((Wa.setCell ⟨z1, 0, none⟩ (.bool m5)).setCell ⟨z1, 1, none⟩ (.slice a5 l5 c5)).drew (.agg #[.bool mb, .slice ab lb cb]) (.agg #[.bool m5, .slice a5 l5 c5]) Y (X % Y) (Int.gcd x y)) := ⟨hbb, hzb, hnx.out.y0, hnx.out.r0, hnx.out.by', (by have h1 := hnx.out.rl; have h2 := hnx.out.by'; have h3 := hnx.out.r0; omega), hnx.out.g⟩
        have hms : Hid ((X % Y).toNat + 1 < Y.toNat + 1) := by
          have h1 := hnx.out.rl
          have h3 := hnx.out.r0
          show _ < _
          omega
        clear hYa hRa hZa hba hza hKa hXb hdr hbb hzb hnx HGO
        generalize ((Wa.setCell ⟨z1, 0, none⟩ (.bool m5)).setCell ⟨z1, 1, none⟩ (.slice a5 l5 c5)).drew = Wb at *
        go_wp2_with fail
        go_roundg ((X % Y).toNat + 1)
        case measure => exact hms.out
        case rel => exact ⟨Y, X % Y, _, _, _, _, _, _, _, _, rfl, hKb, hZb, hYb, hRb, hIn.out⟩
/-- the digits of a fraction lie in rows of numbers -/
def QTy (w : World) (v : Value) : Prop := ∃ (m : Bool) (s : Value) (m2 : Bool) (s2 : Value), v = .agg #[.bool m, s, .bool m2, s2] ∧ ZTy w (.agg #[.bool m, s]) ∧ ZTy w (.agg #[.bool m2, s2])
theorem QTy.kept {w w' : World} {v : Value} (h : QTy w v) (k : Kept w w') : QTy w' v := by
  obtain ⟨m, s, m2, s2, h1, h2, h3⟩ := h
  exact ⟨m, s, m2, s2, h1, h2.kept k, h3.kept k⟩
def QPostT (w : World) (n d : Int) (e : Ending) (w' : World) : Prop := ∃ v, e = .returned v ∧ QAt w' v n d ∧ QTy w' v ∧ Kept w w'
set_option maxRecDepth 100000 in
set_option maxHeartbeats 8000000 in
theorem Lowest_ty (w : World) (v : Value) (x y : Int) (hX : QAt w v x y) (hx0 : 0 ≤ x) (hy0 : 0 < y) (hxB : x * 10000 < bigN) (hyB : y * 10000 < bigN) :
    Calls Tryz.prog 58 #[v] w (QPostT w (x / (Int.gcd x y : Int)) (y / (Int.gcd x y : Int))) := by
  obtain ⟨m, a, l, c, m2, a2, l2, c2, rfl, hn, hd⟩ := hX.shape
  have HN := Lib.hid hn
  have HD := Lib.hid hd
  obtain ⟨G, HG⟩ : ∃ G : Int, Hid (G = (Int.gcd x y : Int)) := ⟨_, rfl⟩
  have hg0 : 0 < G := by
    rw [HG.out]
    have : Int.gcd x y ≠ 0 := fun h => by
      have := Int.gcd_eq_zero_iff.1 h
      omega
    omega
  have hgy : G ≤ y := by
    rw [HG.out]
    exact Int.le_of_dvd hy0 (Int.gcd_dvd_right x y)
  rw [← HG.out]
  have hA0 := box_row4 w (.bool m) (.slice a l c) (.bool m2) (.slice a2 l2 c2) 55 w.heap.size rfl
  have hA1 := box_row4 (w.alloc (.cells #[.bool m, .slice a l c, .bool m2, .slice a2 l2 c2] 55)) (.bool false) (.slice none 0 0) (.bool false) (.slice none 0 0) 55 (w.heap.size + 1) (by simp)
  have k1 := (Kept.refl (w.alloc (.cells #[.bool m, .slice a l c, .bool m2, .slice a2 l2 c2] 55))).alloc (.cells #[.bool false, .slice none 0 0, .bool false, .slice none 0 0] 55)
  have hK0 := ((Kept.refl w).alloc (.cells #[.bool m, .slice a l c, .bool m2, .slice a2 l2 c2] 55)).trans k1
  have hZ0 := k1.row hA0
  clear hX hn hd
  go_enter Tryz.func58, Tryz.ntmps58
  go_wp2_with fail
  generalize ((w.alloc (.cells #[.bool m, .slice a l c, .bool m2, .slice a2 l2 c2] 55)).alloc (.cells #[.bool false, .slice none 0 0, .bool false, .slice none 0 0] 55)) = W at *
  obtain ⟨r0, HR0⟩ : ∃ o0, Hid (o0 = w.heap.size + 1) := ⟨_, rfl⟩
  obtain ⟨z0, HZ0⟩ : ∃ o0, Hid (o0 = w.heap.size) := ⟨_, rfl⟩
  rw [← HR0.out] at hA1 ⊢
  rw [← HZ0.out] at hZ0 ⊢
  have hrw : w.heap.size ≤ r0 := by rw [HR0.out]; omega
  clear hA0 k1 HR0 HZ0
  have HZr := Lib.hid hZ0
  have HRr := Lib.hid hA1
  clear hZ0 hA1
  try go_wp2_with fail
  refine (Gcd_any _ _ _ x y (HN.out.kept hK0) (HD.out.kept hK0) hx0 (by omega) hxB hyB).mono ?_
  rw [← HG.out]
  rintro e w3 ⟨v3, rfl, hz3, hk3⟩
  obtain ⟨m3, a3, l3, c3, rfl⟩ := hz3.shape
  have HZ3 := Lib.hid hz3
  have hb3 := box_row w3 (.bool m3) (.slice a3 l3 c3) 53 w3.heap.size rfl
  have hk4 : Kept w3 (w3.alloc (.cells #[.bool m3, .slice a3 l3 c3] 53)) := (Kept.refl w3).alloc _
  have hk34 := hk3.trans hk4
  have hK4 := hK0.trans hk34
  obtain ⟨p0, p1, p2, p3, _⟩ := bx4_cells (hk34.row HZr.out)
  obtain ⟨b0, b1, _, _⟩ := bx_cells hb3
  have HB3 := Lib.hid hb3
  clear hz3 hb3
  go_wp2_with fail
  generalize w3.alloc (.cells #[.bool m3, .slice a3 l3 c3] 53) = W4 at *
  obtain ⟨t3, HT3⟩ : ∃ o0, Hid (o0 = w3.heap.size) := ⟨_, rfl⟩
  rw [← HT3.out] at b0 b1 HB3 ⊢
  clear HT3
  try go_wp2_with fail
  refine (DivMod_ty _ _ _ x G (HN.out.kept hK4) (HZ3.out.kept hk4) hx0 hg0 (by omega) (by omega)).mono ?_
  rintro e w5 ⟨u5, v5, rfl, hzu, hzv, htu, _, hk5⟩
  obtain ⟨mu, au, lu, cu, rfl⟩ := hzu.shape
  obtain ⟨mv, av, lv, cv, rfl⟩ := hzv.shape
  have HU := Lib.hid hzu
  have HUT := Lib.hid htu
  clear htu
  have hb5 := box_row w5 (.bool mu) (.slice au lu cu) 53 w5.heap.size rfl
  have hk6 : Kept w5 ((w5.alloc (.cells #[.bool mu, .slice au lu cu] 53)).alloc (.cells #[.bool mv, .slice av lv cv] 53)) := ((Kept.refl w5).alloc _).alloc _
  have hb6 := ((Kept.refl (w5.alloc (.cells #[.bool mu, .slice au lu cu] 53))).alloc (.cells #[.bool mv, .slice av lv cv] 53)).row hb5
  have hk56 := hk5.trans hk6
  have hK6 := hK4.trans hk56
  obtain ⟨s0, s1, s2, s3, _⟩ := bx4_cells ((hk34.trans hk56).row HZr.out)
  obtain ⟨d0, d1, _, _⟩ := bx_cells (hk56.row HB3.out)
  have HB6 := Lib.hid hb6
  clear hzu hzv hb5 hb6 p0 p1 p2 p3 b0 b1
  go_wp2_with fail
  generalize ((w5.alloc (.cells #[.bool mu, .slice au lu cu] 53)).alloc (.cells #[.bool mv, .slice av lv cv] 53)) = W6 at *
  obtain ⟨t4, HT4⟩ : ∃ o0, Hid (o0 = w5.heap.size) := ⟨_, rfl⟩
  rw [← HT4.out] at HB6 ⊢
  clear HT4
  try go_wp2_with fail
  refine (DivMod_ty _ _ _ y G (HD.out.kept hK6) (HZ3.out.kept (hk4.trans hk56)) (by omega) hg0 (by omega) (by omega)).mono ?_
  rintro e w7 ⟨u7, v7, rfl, hzu, hzv, htu, _, hk7⟩
  obtain ⟨mp, ap, lp, cp, rfl⟩ := hzu.shape
  obtain ⟨mq, aq, lq, cq, rfl⟩ := hzv.shape
  have HU7 := Lib.hid hzu
  have HUT7 := Lib.hid htu
  clear htu
  have hb7 := box_row w7 (.bool mp) (.slice ap lp cp) 53 w7.heap.size rfl
  have hk8 : Kept w7 ((w7.alloc (.cells #[.bool mp, .slice ap lp cp] 53)).alloc (.cells #[.bool mq, .slice aq lq cq] 53)) := ((Kept.refl w7).alloc _).alloc _
  have hb8 := ((Kept.refl (w7.alloc (.cells #[.bool mp, .slice ap lp cp] 53))).alloc (.cells #[.bool mq, .slice aq lq cq] 53)).row hb7
  have hk78 := hk7.trans hk8
  have hK8 := hK6.trans hk78
  have hR8 := ((hk34.trans hk56).trans hk78).row HRr.out
  obtain ⟨q0, q1, _, _⟩ := bx_cells (hk78.row HB6.out)
  obtain ⟨q2, q3, _, _⟩ := bx_cells hb8
  obtain ⟨f0, f1, f2, f3, f4, f5, f6, f7⟩ := bx4_cells hR8
  have HNF := Lib.hid ((HU.out.kept hk6).kept hk78)
  have HDF := Lib.hid (HU7.out.kept hk8)
  have HNT := Lib.hid ((HUT.out.kept hk6).kept hk78)
  have HDT := Lib.hid (HUT7.out.kept hk8)
  have HR8 := Lib.hid hR8
  clear hzu hzv hb7 hb8 hR8 s0 s1 s2 s3 d0 d1
  go_wp2_with fail
  generalize ((w7.alloc (.cells #[.bool mp, .slice ap lp cp] 53)).alloc (.cells #[.bool mq, .slice aq lq cq] 53)) = W8 at *
  have hX : KeptX (fun k => k = r0) W8 ((((W8.setCell ⟨r0, 0, none⟩ (.bool mu)).setCell ⟨r0, 1, none⟩ (.slice au lu cu)).setCell ⟨r0, 2, none⟩ (.bool mp)).setCell ⟨r0, 3, none⟩ (.slice ap lp cp)) := ((((KeptX.refl (fun k => k = r0) W8).setIn 0 _).setIn 1 _).setIn 2 _).setIn 3 _
  have hKF : Kept w ((((W8.setCell ⟨r0, 0, none⟩ (.bool mu)).setCell ⟨r0, 1, none⟩ (.slice au lu cu)).setCell ⟨r0, 2, none⟩ (.bool mp)).setCell ⟨r0, 3, none⟩ (.slice ap lp cp)) := (((hK8.setCell hrw _).setCell hrw _).setCell hrw _).setCell hrw _
  have HNT9 := Lib.hid (HNT.out.keptX hX HR8.out (by decide))
  have HDT9 := Lib.hid (HDT.out.keptX hX HR8.out (by decide))
  have HN9 := Lib.hid (HNF.out.keptBoxN hX HR8.out (bx4_noint _ _ _ _ _ _ _ _))
  have HD9 := Lib.hid (HDF.out.keptBoxN hX HR8.out (bx4_noint _ _ _ _ _ _ _ _))
  obtain ⟨g0, g1, g2, g3, _⟩ := bx4_cells (bx4_set HR8.out (.bool mu) (.slice au lu cu) (.bool mp) (.slice ap lp cp))
  generalize ((((W8.setCell ⟨r0, 0, none⟩ (.bool mu)).setCell ⟨r0, 1, none⟩ (.slice au lu cu)).setCell ⟨r0, 2, none⟩ (.bool mp)).setCell ⟨r0, 3, none⟩ (.slice ap lp cp)) = WF at *
  exact bodyPost_ret (v := .agg #[.bool mu, .slice au lu cu, .bool mp, .slice ap lp cp]) (by simp [results, Tryz.results58, go_sem, g0, g1, g2, g3]) rfl ⟨_, rfl, ⟨mu, _, mp, _, rfl, HN9.out, HD9.out⟩, ⟨mu, _, mp, _, rfl, HNT9.out, HDT9.out⟩, hKF⟩
theorem Lowest_any (w : World) (v : Value) (x y : Int) (hX : QAt w v x y) (hx0 : 0 ≤ x) (hy0 : 0 < y) (hxB : x * 10000 < bigN) (hyB : y * 10000 < bigN) :
    Calls Tryz.prog 58 #[v] w (QPost w (x / (Int.gcd x y : Int)) (y / (Int.gcd x y : Int))) :=
  (Lowest_ty w v x y hX hx0 hy0 hxB hyB).mono fun _ _ ⟨v, h1, h2, _, h3⟩ => ⟨v, h1, h2, h3⟩
end Go.Proofs.YtlnlddnjalfamaaGreatDoor.Num
namespace Go.Proofs.YtlnlddnjalfamaaGreatDoor.Num
open Go.RowKit Go.Deep

/-- the value of decimal digits, the first one first -/
def decV (l : List UInt8) : Int := l.foldl (fun a b => a * 10 + ((b.toNat : Int) - 48)) 0
def DecD (l : List UInt8) : Prop := ∀ b ∈ l, 48 ≤ b.toNat ∧ b.toNat ≤ 57
def b8 (z : Int) : UInt8 := UInt8.ofNat (48 + z.toNat)
theorem b8_nat {z : Int} (h : 0 ≤ z ∧ z ≤ 9) : ((b8 z).toNat : Int) = 48 + z := by
  unfold b8
  rw [UInt8.toNat_ofNat']
  omega
theorem decV_snoc (l : List UInt8) (b : UInt8) : decV (l ++ [b]) = decV l * 10 + ((b.toNat : Int) - 48) := by
  unfold decV
  rw [List.foldl_append]
  rfl
def four (d : Int) : List UInt8 := [b8 (d / 1000), b8 (d / 100 % 10), b8 (d / 10 % 10), b8 (d % 10)]
theorem decV_four (l : List UInt8) {d : Int} (h : 0 ≤ d ∧ d < 10000) : decV (l ++ four d) = decV l * 10000 + d := by
  have e : l ++ four d = (((l ++ [b8 (d / 1000)]) ++ [b8 (d / 100 % 10)]) ++ [b8 (d / 10 % 10)]) ++ [b8 (d % 10)] := by simp [four]
  rw [e, decV_snoc, decV_snoc, decV_snoc, decV_snoc, b8_nat (by omega), b8_nat (by omega), b8_nat (by omega), b8_nat (by omega)]
  omega
theorem decD_four {l : List UInt8} (hl : DecD l) {d : Int} (h : 0 ≤ d ∧ d < 10000) : DecD (l ++ four d) := fun b hb => by
  rcases List.mem_append.1 hb with h1 | h1
  · exact hl b h1
  · simp only [four, List.mem_cons, List.not_mem_nil, or_false] at h1
    have key : ∀ z : Int, 0 ≤ z ∧ z ≤ 9 → b = b8 z → 48 ≤ b.toNat ∧ b.toNat ≤ 57 := fun z hz e => by
      have := b8_nat hz
      rw [← e] at this
      omega
    rcases h1 with h1 | h1 | h1 | h1
    · exact key _ (by omega) h1
    · exact key _ (by omega) h1
    · exact key _ (by omega) h1
    · exact key _ (by omega) h1
def strL (l : List UInt8) : ByteArray := ⟨l.toArray⟩
theorem strL_size (l : List UInt8) : (strL l).size = l.length := by simp [strL, ByteArray.size]
theorem strL_tail (h : UInt8) (tl : List UInt8) : (strL (h :: tl)).extract 1 (strL (h :: tl)).size = strL tl := by
  apply ByteArray.ext
  rw [ByteArray.data_extract, strL_size]
  unfold strL
  simp
/-- the digits of a number above 0, without a 0 in front -/
def DecL (l : List UInt8) (x : Int) : Prop := DecD l ∧ decV l = x ∧ (l.head?.map (fun b => b.toNat) ≠ some 48) ∧ l.length ≤ 4000
def FigPost (w : World) (x : Int) (e : Ending) (w' : World) : Prop := ∃ l, e = .returned (.string (strL l)) ∧ DecL l x ∧ Kept w w'
theorem strL_append (a b : List UInt8) : strL a ++ strL b = strL (a ++ b) := by
  unfold strL
  apply ByteArray.ext
  simp [ByteArray.data_append]
theorem cv4 (w : World) (a b c d : UInt8) (z1 z2 z3 z4 : Int) (h1 : z1 = (a.toNat : Int)) (h2 : z2 = (b.toNat : Int)) (h3 : z3 = (c.toNat : Int)) (h4 : z4 = (d.toNat : Int)) : (convert 70 9 (.slice (some ⟨w.heap.size, 0, none⟩) 4 4)).run Tryz.prog (w.alloc (.cells #[.int .u8 z1, .int .u8 z2, .int .u8 z3, .int .u8 z4] 5)) = .ok (.string (strL [a, b, c, d])) (w.alloc (.cells #[.int .u8 z1, .int .u8 z2, .int .u8 z3, .int .u8 z4] 5)) :=
  run_convert_bytes_back (P := Tryz.prog) _ 70 9 5 ⟨w.heap.size, 0, none⟩ 4 [a, b, c, d] Tryz.underlying70 Tryz.underlying5 Tryz.underlying9 (fun j hj => by
    have : j = 0 ∨ j = 1 ∨ j = 2 ∨ j = 3 := by simp at hj; omega
    rcases this with rfl | rfl | rfl | rfl <;> (rw [add_at]; unfold World.cell?; dsimp only; rw [blk_alloc_new]; first | (subst h1; rfl) | (subst h2; rfl) | (subst h3; rfl) | (subst h4; rfl)))
set_option maxRecDepth 100000 in
set_option maxHeartbeats 4000000 in
theorem figures_pos (w : World) (s : Value) (n : Nat) (D : Nat → Int) (m : Bool) (hS : SlAt w s n D) (hL : LeanZ D n) (hn : n ≤ 1000) (hn0 : 0 < n) :
    Calls Tryz.prog 93 #[.agg #[.bool m, s]] w (FigPost w (valZ D n)) := by
  obtain ⟨a, cap, rfl, _, _, _, ⟨a2, b, o, cap2, eqa, ha, hc⟩⟩ := hS
  cases eqa
  obtain rfl := ha hn0
  have HC := Lib.hid hc
  have HL := Lib.hid hL
  have hbx := box_row w (.bool m) (.slice (some ⟨b, o, none⟩) n cap) 53 w.heap.size rfl
  have hk0 : Kept w (w.alloc (.cells #[.bool m, .slice (some ⟨b, o, none⟩) n cap] 53)) := (Kept.refl w).alloc _
  have s0 : ¬ (n : Int) = 0 := by omega
  have e0 : ((n : Int) == 0) = false := by simpa using s0
  clear hc hL ha
  go_enter Tryz.func93, Tryz.ntmps93
  go_wp2_with fail
  generalize w.alloc (.cells #[.bool m, .slice (some ⟨b, o, none⟩) n cap] 53) = W at *
  obtain ⟨z0, HZ0⟩ : ∃ z, Hid (z = w.heap.size) := ⟨_, rfl⟩
  rw [← HZ0.out] at hbx ⊢
  clear HZ0
  have hS0 : Hid (decV [] = hiV D n 0 ∧ DecD [] ∧ ([] : List UInt8).length = 4 * 0) := ⟨rfl, (fun b h => nomatch h), rfl⟩
  go_loopg [3, 4] n (fun g s3 s4 wr => ∃ (t : Nat) (l : List UInt8), t ≤ n ∧ g = n - t ∧ s3 = .string (strL l) ∧ s4 = .int .i64 ((n : Int) - 1 - t) ∧ Kept w wr ∧ wr.rowIs z0 53 2 (bx (.bool m) (.slice (some ⟨b, o, none⟩) n cap)) ∧ Hid (decV l = hiV D n t ∧ DecD l ∧ l.length = 4 * t))
  case atStart => exact ⟨0, [], Nat.zero_le _, rfl, rfl, by go_num, hk0, hbx, hS0.out⟩
  case round =>
    clear hk0 hbx hS0
    obtain ⟨t, l, ht, rfl, rfl, rfl, hK, hZ, hl⟩ := hrel
    by_cases hlt : t < n
    · obtain ⟨c, hcc⟩ : ∃ c, c = n - 1 - t := ⟨_, rfl⟩
      have ec : (n : Int) - 1 - (t : Int) = (c : Int) := by omega
      have t1 := hK.cellSome (HC.out c (by omega))
      have hdc := HL.out.1 c (by omega)
      obtain ⟨d, HD⟩ : ∃ d, Hid (d = D c) := ⟨_, rfl⟩
      rw [← HD.out] at t1 hdc
      have s1 : (c : Int) < (n : Int) := by omega
      have s2 : (0 : Int) ≤ (c : Int) := by omega
      have hnx : Hid (decV (l ++ four d) = hiV D n (t + 1) ∧ DecD (l ++ four d) ∧ (l ++ four d).length = 4 * (t + 1)) := by
        refine ⟨?_, decD_four hl.out.2.1 hdc, by simp [four, hl.out.2.2]; omega⟩
        rw [decV_four l hdc, hl.out.1]
        simp only [hiV]
        rw [← hcc, HD.out]
      have hec : (c : Int) - 1 = (n : Int) - 1 - ((t + 1 : Nat) : Int) := by omega
      have HEC := Lib.hid hec
      obtain ⟨k0, k1, _, _⟩ := bx_cells hZ
      rw [ec]
      obtain ⟨hd0, hd1⟩ := hdc
      have u1 : Int.tdiv d 1000 = d / 1000 := Int.tdiv_eq_ediv_of_nonneg hd0
      have u2 : Int.tdiv d 100 = d / 100 := Int.tdiv_eq_ediv_of_nonneg hd0
      have u3 : Int.tdiv d 10 = d / 10 := Int.tdiv_eq_ediv_of_nonneg hd0
      have u4 : Int.tmod (d / 100) 10 = d / 100 % 10 := Int.tmod_eq_emod_of_nonneg (by omega)
      have u5 : Int.tmod (d / 10) 10 = d / 10 % 10 := Int.tmod_eq_emod_of_nonneg (by omega)
      have u6 : Int.tmod d 10 = d % 10 := Int.tmod_eq_emod_of_nonneg hd0
      have hcv := cv4 wr (b8 (d / 1000)) (b8 (d / 100 % 10)) (b8 (d / 10 % 10)) (b8 (d % 10)) (48 + d / 1000) (48 + d / 100 % 10) (48 + d / 10 % 10) (48 + d % 10) (b8_nat (by omega)).symm (b8_nat (by omega)).symm (b8_nat (by omega)).symm (b8_nat (by omega)).symm
      have HCV := Lib.hid hcv
      have v1 : 0 ≤ d / 1000 ∧ d / 1000 ≤ 9 := by omega
      have v2 : 0 ≤ d / 100 % 10 ∧ d / 100 % 10 ≤ 9 := by omega
      have v3 : 0 ≤ d / 10 % 10 ∧ d / 10 % 10 ≤ 9 := by omega
      have v4 : 0 ≤ d % 10 ∧ d % 10 ≤ 9 := by omega
      have hlen := hl.out.2.2
      have hsz : ¬ 9223372036854775807 < (strL l).size + (strL [b8 (d / 1000), b8 (d / 100 % 10), b8 (d / 10 % 10), b8 (d % 10)]).size := by
        rw [strL_size, strL_size, hlen]; simp; omega
      have hap : strL l ++ strL [b8 (d / 1000), b8 (d / 100 % 10), b8 (d / 10 % 10), b8 (d % 10)] = strL (l ++ four d) := strL_append _ _
      have hKn : Kept w (wr.alloc (.cells #[.int .u8 (48 + d / 1000), .int .u8 (48 + d / 100 % 10), .int .u8 (48 + d / 10 % 10), .int .u8 (48 + d % 10)] 5)) := hK.alloc _
      have hZn := ((Kept.refl wr).alloc (.cells #[.int .u8 (48 + d / 1000), .int .u8 (48 + d / 100 % 10), .int .u8 (48 + d / 10 % 10), .int .u8 (48 + d % 10)] 5)).row hZ
      clear hl hec ec hcc hlen
      go_wp2_with fail
      go_roundg (n - (t + 1))
      case measure => omega
      case rel => exact ⟨t + 1, l ++ four d, by omega, rfl, by rw [← hap], by rw [← HEC.out], hKn, hZn, hnx.out⟩
    · obtain rfl : t = n := by omega
      have ec : (t : Int) - 1 - (t : Int) = -1 := by omega
      rw [ec]
      have hv : Hid (decV l = valZ D t ∧ DecD l ∧ 0 < valZ D t ∧ l.length ≤ 4000) := by
        refine ⟨by rw [hl.out.1, hiV_all], hl.out.2.1, ?_, by rw [hl.out.2.2]; omega⟩
        have h1 := valZ_bd HL.out.1
        have h2 := (lean_zero HL.out)
        have h3 : valZ D t ≠ 0 := fun h => by have := h2.1 h; omega
        omega
      clear ec hl
      go_wp2_with fail
      go_loopg [3] l.length (fun g s3 wi => ∃ l2 : List UInt8, g = l2.length ∧ s3 = .string (strL l2) ∧ Kept w wi ∧ Hid (decV l2 = valZ D t ∧ DecD l2 ∧ 0 < valZ D t ∧ l2.length ≤ 4000))
      case atStart => exact ⟨l, rfl, rfl, hK, hv.out⟩
      case round =>
        clear hK hZ hv
        obtain ⟨l2, rfl, rfl, hK, hl⟩ := hrel
        cases l2 with
        | nil => exfalso; have := hl.out; simp [decV] at this; omega
        | cons h tl =>
          have hz : 0 < (strL (h :: tl)).size := by rw [strL_size]; simp
          have hd := hl.out.2.1
          by_cases h0 : h.toNat = 48
          · have hb0 : ((strL (h :: tl))[0]'hz).toNat = 48 := h0
            have hex : (strL (h :: tl)).extract 1 (strL (h :: tl)).size = strL tl := strL_tail h tl
            have hn2 : Hid (decV tl = valZ D t ∧ DecD tl ∧ 0 < valZ D t ∧ tl.length ≤ 4000) := by
              refine ⟨?_, fun b hb => hd b (List.mem_cons_of_mem _ hb), hl.out.2.2.1, by have := hl.out.2.2.2; simp at this; omega⟩
              rw [← hl.out.1]
              show _ = (h :: tl).foldl _ 0
              simp [decV, h0]
            have hms : Hid (tl.length < (h :: tl).length) := by show _ < _; simp
            clear hl hd h0
            go_wp2_with fail
            go_roundg tl.length
            case measure => exact hms.out
            case rel => exact ⟨tl, rfl, by rw [← hex], hK, hn2.out⟩
          · have hb0 : (((((strL (h :: tl))[0]'hz).toNat : Nat) : Int) == 48) = false := by
              have e : ((strL (h :: tl))[0]'hz) = h := rfl
              rw [e]
              simp
              omega
            have hf : Hid (DecL (h :: tl) (valZ D t)) := ⟨hd, hl.out.1, by simp; exact h0, hl.out.2.2.2⟩
            clear hl hd h0
            go_wp2_with fail
            go_ret
            exact ⟨h :: tl, rfl, hf.out, hK⟩
theorem fold_ge (l : List UInt8) (hl : DecD l) (a : Int) (ha : 0 ≤ a) : a ≤ l.foldl (fun a b => a * 10 + ((b.toNat : Int) - 48)) a := by
  induction l generalizing a with
  | nil => exact Int.le_refl _
  | cons b l ih =>
    have hb := hl b (List.mem_cons_self ..)
    have := ih (fun c hc => hl c (List.mem_cons_of_mem _ hc)) (a * 10 + ((b.toNat : Int) - 48)) (by omega)
    simp only [List.foldl_cons]
    omega
theorem decV_pos {l : List UInt8} (hl : DecD l) (hne : l ≠ []) (hh : l.head?.map (fun b => b.toNat) ≠ some 48) : 1 ≤ decV l := by
  cases l with
  | nil => exact absurd rfl hne
  | cons b l =>
    have hb := hl b (List.mem_cons_self ..)
    have hb2 : b.toNat ≠ 48 := fun h => hh (by simp [h])
    have := fold_ge l (fun c hc => hl c (List.mem_cons_of_mem _ hc)) ((b.toNat : Int) - 48) (by omega)
    unfold decV
    simp only [List.foldl_cons, Int.zero_mul, Int.zero_add]
    omega
theorem head_snoc (l : List UInt8) (b : UInt8) (h : l ≠ []) : (l ++ [b]).head? = l.head? := by
  cases l with
  | nil => exact absurd rfl h
  | cons c l => rfl
theorem dec_uniq : ∀ (n : Nat) (l r : List UInt8), l.length = n → DecD l → DecD r → l.head?.map (fun b => b.toNat) ≠ some 48 → r.head?.map (fun b => b.toNat) ≠ some 48 → decV l = decV r → l = r := by
  intro n
  induction n with
  | zero =>
    intro l r hn hl hr h1 h2 he
    have e : l = [] := List.length_eq_zero_iff.1 hn
    subst e
    by_cases hre : r = []
    · exact hre.symm
    · have h3 := decV_pos hr hre h2
      have h4 : decV [] = 0 := rfl
      omega
  | succ n ih =>
    intro l r hn hl hr h1 h2 he
    have hle : l ≠ [] := fun h => by rw [h] at hn; simp at hn
    have h3 := decV_pos hl hle h1
    have hre : r ≠ [] := fun h => by rw [h] at he; have h4 : decV [] = 0 := rfl; omega
    obtain ⟨l0, b, rfl⟩ : ∃ l0 b, l = l0 ++ [b] := ⟨l.dropLast, l.getLast hle, (List.dropLast_concat_getLast hle).symm⟩
    obtain ⟨r0, c, rfl⟩ : ∃ l0 b, r = l0 ++ [b] := ⟨r.dropLast, r.getLast hre, (List.dropLast_concat_getLast hre).symm⟩
    rw [decV_snoc, decV_snoc] at he
    have hb := hl b (by simp)
    have hc := hr c (by simp)
    have hbc : b.toNat = c.toNat := by omega
    have hv : decV l0 = decV r0 := by omega
    have hl0 : DecD l0 := fun x hx => hl x (by simp [hx])
    have hr0 : DecD r0 := fun x hx => hr x (by simp [hx])
    have e1 : b = c := UInt8.toNat_inj.1 hbc
    have hh1 : l0.head?.map (fun b => b.toNat) ≠ some 48 := by
      by_cases e : l0 = []
      · subst e; simp
      · rw [← head_snoc l0 b e]; exact h1
    have hh2 : r0.head?.map (fun b => b.toNat) ≠ some 48 := by
      by_cases e : r0 = []
      · subst e; simp
      · rw [← head_snoc r0 c e]; exact h2
    have := ih l0 r0 (by simp at hn; omega) hl0 hr0 hh1 hh2 hv
    rw [this, e1]
theorem DecL.same {l r : List UInt8} {x : Int} (h : DecL l x) (g : DecL r x) : l = r :=
  dec_uniq l.length l r rfl h.1 g.1 h.2.2.1 g.2.2.1 (by rw [h.2.1, g.2.1])
/-- each number above 0 has digits -/
theorem dec_ex : ∀ (k : Nat) (x : Int), 0 < x → x < 10 ^ k → ∃ l, DecD l ∧ decV l = x ∧ l.head?.map (fun b => b.toNat) ≠ some 48 ∧ l.length ≤ k := by
  intro k
  induction k with
  | zero => intro x h1 h2; simp at h2; omega
  | succ k ih =>
    intro x h1 h2
    have hd : 0 ≤ x % 10 ∧ x % 10 ≤ 9 := by omega
    have hb := b8_nat hd
    by_cases hx : x < 10
    · refine ⟨[b8 x], ?_, ?_, ?_, by simp⟩
      · have hb2 := b8_nat (z := x) ⟨by omega, by omega⟩
        intro b hb3
        simp at hb3
        subst hb3
        omega
      · have hb2 := b8_nat (z := x) ⟨by omega, by omega⟩
        simp [decV]; omega
      · have hb2 := b8_nat (z := x) ⟨by omega, by omega⟩
        simp; omega
    · obtain ⟨l, g1, g2, g3, g4⟩ := ih (x / 10) (by omega) (by
        rw [Int.pow_succ] at h2
        omega)
      have hle : l ≠ [] := fun h => by rw [h] at g2; have h4 : decV [] = 0 := rfl; omega
      refine ⟨l ++ [b8 (x % 10)], fun b hb3 => ?_, ?_, ?_, by simp; omega⟩
      · rcases List.mem_append.1 hb3 with h | h
        · exact g1 b h
        · simp at h; subst h; omega
      · rw [decV_snoc, g2]; omega
      · rw [head_snoc l _ hle]; exact g3
end Go.Proofs.YtlnlddnjalfamaaGreatDoor.Num
