/-
  The law HeapDhar, walked.
-/
import Derived.Test.YtlnpipkhofhlnaaBa
import Derived.Test.YtlnpipkhofhlnaaLi
import Derived.Test.YtlnpipkhofhlnaaGg
namespace Go.Proofs.Ytlnpipkhofhlnaa
open Go.RowKit Go.Deep

/-- the greatest stable heaps, as the law makes them -/
def mostF (A B : Nat → Int) (m : Nat) : Nat → Int := fun i => (degN A B m (i + 1) : Int) - 1
set_option maxRecDepth 100000 in
set_option maxHeartbeats 8000000 in
theorem dhars_any (w : World) (nn : Nat) (xa za ya : Option Addr) (q qcap zq zcap yq ycap : Nat) (X Y Z V : Nat → Nat) (hnn : nn < 256) (hx : Bytes2At w (.slice xa q qcap) q X Y) (hX : ∀ i, X i < 256) (hY : ∀ i, Y i < 256) (hq : q ≤ maxLen)
    (hz : BytesAt w (.slice za zq zcap) zq Z) (hZ : ∀ i, Z i < 256) (hzq : zq ≤ maxLen) (hy : BytesAt w (.slice ya yq ycap) yq V) (hV : ∀ i, V i < 256) (hyq : yq ≤ maxLen) :
    Calls Try.prog 5 #[.agg #[.int .u8 nn, .slice xa q qcap], .slice za zq zcap, .slice ya yq ycap] w (LivesPost w) := by
  have hK0 : Kept w (w.alloc (.cells #[.int .u8 nn, .slice xa q qcap] 47)) := (Kept.refl w).alloc _
  obtain ⟨i0, hi, hz0, hz1, hz2⟩ := info_parts Try.info3
  go_enter Try.func5, Try.ntmps5
  go_wp2_with fail
  refine (made_any _ xa q qcap nn 8 X Y (hx.kept hK0) hX hY hq hnn (by omega) (by omega)).mono ?_
  rintro e w1 ⟨k, m, ea, ecap, A, B, rfl, hE1, hk1, hk2, hk8, hm19, hgood⟩
  obtain ⟨N, rfl⟩ : ∃ N, k = N + 1 := ⟨k - 1, by omega⟩
  have hK1 := hK0.trans hk1
  have hZ1 := CellsAt.kept hz hK1
  have hV1 := CellsAt.kept hy hK1
  have hO0 := own_zero w1 w1.heap.size (Nat.le_refl _)
  have hK2 : Kept w1 (w1.alloc (.cells #[] 3)) := (Kept.refl w1).alloc _
  have hsz0 : w1.heap.size ≤ (w1.alloc (.cells #[] 3)).heap.size := by simp
  obtain ⟨ok, ⟨p, hpk⟩, _, _⟩ := good_ok hgood
  simp only [Int.toNat_natCast] at ok hpk
  clear hK0 hk1 hx hX hY hz hy
  go_wp2_with fail
  have hO1 : (w1.alloc (.cells #[] 3)).ownsRow w1.heap.size 3 1 (.slice (some ⟨w1.heap.size, 0, none⟩) 0 0) 0 (ints (mostF A B m) 0) := hO0
  clear hO0
  generalize w1.alloc (.cells #[] 3) = W0 at *
  go_loopg [9, 10] N (fun g lv s10 wr => ∃ t : Nat, t ≤ N ∧ g = N - t ∧ s10 = .int .i64 ((t : Int) + 1) ∧ Kept w1 wr ∧ wr.ownsRow w1.heap.size 3 1 lv t (ints (mostF A B m) t) ∧ w1.heap.size ≤ wr.heap.size)
  case atStart => exact ⟨0, by omega, by omega, rfl, hK2, hO1, hsz0⟩
  case round =>
    obtain ⟨t, htN, rfl, rfl, hK, hO, hsz⟩ := hrel
    clear hK2 hO1 hsz0
    obtain ⟨oa, ocap, rfl⟩ := own_shape hO
    have hE := hE1.kept hK
    have s3 : (0 : Int) ≤ (t : Int) := by omega
    by_cases hlt : t < N
    · obtain ⟨dv, HDV⟩ : ∃ dv, Hid (dv = deg A B m ((t : Int) + 1)) := ⟨_, rfl⟩
      have hd1 : 1 ≤ dv := by rw [HDV.out]; exact ok.D1 (t + 1) (by omega) (by omega)
      have hd2 : dv ≤ 20 := by rw [HDV.out]; exact Nat.le_trans (cnt_le _ _) (by omega)
      have HDF : Hid (mostF A B m t = (dv : Int) - 1) := by show (degN A B m (t + 1) : Int) - 1 = _; rw [HDV.out]; rfl
      have hdeg := degree_any wr _ m A B ((t : Int) + 1) hE (by omega)
      rw [← HDV.out] at hdeg
      have s4 : IntKind.i64.wrap ((dv : Int) - 1) = (dv : Int) - 1 := IntWalk.i64_in _ (by omega)
      go_wp2_with fail
      refine hdeg.mono ?_
      rintro e w' ⟨rfl, rfl⟩
      go_wp2_with (first | (at_builtin; refine wpList_append_own _ rfl _ _ 25 rfl w1.heap.size 3 i0 (.int .i64 0) 1 8 Try.underlying25 hi hz0 hz1 hz2 rfl (by decide) _ _ _ rfl (hO.alloc _) ⟨wr.heap.size, 0, none⟩ 1 1 [.int .i64 ((dv : Int) - 1)] rfl rfl ?c1 ?c2 ?c3 ?c4 ?c5 ?_))
      case c1 =>
        intro k u h
        cases k with
        | zero => cases h; rw [add_at]; unfold World.cell?; dsimp only; rw [blk_alloc_new]; rfl
        | succ k => simp at h
      case c2 => simp [Value.oneCell']
      case c3 => unfold maxLen; omega
      case c4 => omega
      case c5 => first | omega | (simp; omega)
      intro v' w2 hO3 hgr _
      have hX2 := grew_X hgr (hO.alloc (.cells #[.int .i64 ((dv : Int) - 1)] 3))
      have hK2 : Kept w1 w2 := (hK.alloc _).step hX2 (fun i hi => hi)
      have hs2 : w1.heap.size ≤ w2.heap.size := Kept.size hK2
      have hO4 : w2.ownsRow w1.heap.size 3 1 v' (t + 1) (ints (mostF A B m) (t + 1)) := by
        rw [show ints (mostF A B m) (t + 1) = ints (mostF A B m) t ++ [.int .i64 ((dv : Int) - 1)] by simp [ints, List.range_succ, HDF.out]]; exact hO3
      clear hO3 hX2 hgr hK hO hsz hdeg
      go_wp2_with fail
      go_roundg (N - (t + 1))
      case measure => omega
      case rel => exact ⟨t + 1, by omega, rfl, by go_num, hK2, hO4, hs2⟩
    · obtain rfl : t = N := by omega
      have hM := ints_at hO
      have hbt : ∀ i, i < t → 0 ≤ mostF A B m i ∧ mostF A B m i ≤ 1000 := fun i hi => by
        have h1 := ok.D1 (i + 1) (by omega) (by omega)
        have h2 := ok.D20 (i + 1) (by omega)
        unfold mostF
        omega
      have hst : stableB (degN A B m) (mostF A B m) (t + 1) = true := allN_true.2 (fun i hi => decide_eq_true (by unfold mostF; omega))
      have hnf : NF t (btwN A B m) (mostF A B m) := nf_top ok hpk (fun i _ => Int.le_refl _)
      have hZr := CellsAt.kept hZ1 hK
      have hVr := CellsAt.kept hV1 hK
      have hKr := hK1.trans hK
      clear hZ1 hV1 hK1 hE1 hO hK hsz
      go_wp2_with fail
      refine (Burn_good wr t _ _ A B m _ hE hM (by omega) hgood hbt hst hnf).mono ?_
      rintro e w2 ⟨ov, rfl, hk2⟩
      have hZ2 := CellsAt.kept hZr hk2
      have hV2 := CellsAt.kept hVr hk2
      have hE2 := hE.kept hk2
      have hK2 := hKr.trans hk2
      clear hZr hVr hE hKr hk2 hM hbt hst hnf
      go_wp2_with fail
      refine (bars_any _ za zq zcap t Z hZ2 hZ hzq (by omega)).mono ?_
      rintro e w3 ⟨ha, hcap, rfl, hH3, hk3⟩
      have hV3 := CellsAt.kept hV2 hk3
      have hE3 := hE2.kept hk3
      have hK3 := hK2.trans hk3
      clear hV2 hE2 hK2 hk3 hZ2
      go_wp2_with fail
      refine (Again_good w3 t _ _ A B m _ hE3 hH3 (by omega) hgood (fun i _ => by have := barF_bd hZ (q := zq) i; omega)).mono ?_
      rintro e w4 ⟨r, f, x, rfl, hk4, hA4, _, _, _, hnfA, hstA, hbdA⟩
      have hV4 := CellsAt.kept hV3 hk4
      have hE4 := hE3.kept hk4
      have hK4 := hK3.trans hk4
      clear hV3 hE3 hK3 hk4 hH3
      go_wp2_with fail
      refine (bars_any _ ya yq ycap t V hV4 hV hyq (by omega)).mono ?_
      rintro e w5 ⟨hb, hbcap, rfl, hH5, hk5⟩
      have hE5 := hE4.kept hk5
      have hA5 := hA4.kept hk5
      have hK5 := hK4.trans hk5
      clear hV4 hE4 hA4 hK4 hk5
      go_wp2_with fail
      refine (Sum_good w5 t _ _ _ A B m (fun i => f (i + 1)) _ hE5 hA5 hH5 (by omega) hgood (fun i hi => by have := hbdA i hi; omega) (fun i _ => by have := barF_bd hV (q := yq) i; omega)).mono ?_
      rintro e w6 ⟨r6, f6, x6, rfl, hk6, hS6, hodo, hf6⟩
      have hE6 := hE5.kept hk6
      have hA6 := hA5.kept hk6
      have hK6 := hK5.trans hk6
      have hst6 := odo_stable hodo hf6
      have hbd6 : ∀ i, i < t → 0 ≤ f6 (i + 1) ∧ f6 (i + 1) ≤ 1000 := fun i hi => by
        have h1 := odo_pos ok (fun v hv => by
          show 0 ≤ atV _ v
          unfold atV
          by_cases e : v = 0
          · rw [if_pos e]; omega
          · rw [if_neg e]; have h2 := hbdA (v - 1) (by omega); have h3 := barF_bd hV (q := yq) (v - 1); show 0 ≤ f (v - 1 + 1) + barF yq V (v - 1); omega) hodo (v := i + 1) (by omega) (by omega)
        rw [← hf6 (i + 1) (by omega)] at h1
        have h2 := stable_bd ok hst6 i hi
        omega
      have hnf6 := sum_nf ok hnfA (fun i _ => (barF_bd hV (q := yq) i).1) hodo hf6
      clear hE5 hA5 hH5 hK5 hk6
      go_wp2_with fail
      refine (Burn_good w6 t _ _ A B m _ hE6 hS6 (by omega) hgood hbd6 hst6 hnf6).mono ?_
      rintro e w7 ⟨ov7, rfl, hk7⟩
      have hE7 := hE6.kept hk7
      have hA7 := hA6.kept hk7
      have hK7 := hK6.trans hk7
      clear hE6 hA6 hK6 hk7 hS6 hbd6 hst6 hnf6 hodo hf6
      go_wp2_with fail
      refine (Burn_good w7 t _ _ A B m _ hE7 hA7 (by omega) hgood (fun i hi => by have := hbdA i hi; omega) hstA hnfA).mono ?_
      rintro e w8 ⟨ov8, rfl, hk8⟩
      have hK8 := hK7.trans hk8
      clear hE7 hA7 hK7 hk8 hbdA hstA hnfA
      go_wp2_with fail
      refine (lives_any _).mono ?_
      rintro e w9 ⟨rfl, hk9⟩
      go_wp2_with fail
      go_ret
      exact ⟨rfl, hK8.trans hk9⟩
end Go.Proofs.Ytlnpipkhofhlnaa
