/-
  The reference reads whole numbers.
-/
import Derived.Test.YthigeafojekclaaDoorWc
namespace Go.Proofs.YthigeafojekclaaDoor.Num
open Go.RowKit Go.Deep Go.Shelf

set_option maxRecDepth 100000 in
set_option maxHeartbeats 16000000 in
theorem Parse_whole (w : World) (S : ByteArray) (n : Nat) (x : Int) (hx0 : 0 < x) (hN : NumS S n n) (hD : ∀ W, Calls Tryd.prog 51 #[.string (S.extract 0 n)] W (ReadPost W x)) :
    Calls Tryd.prog 35 #[.string S] w (ParsePost w x 1) := by
  have DG1 := Lib.hid hD
  obtain ⟨p, hp0⟩ : ∃ p, p = n := ⟨_, rfl⟩
  have hN : NumS S n p := by rw [hp0]; exact hN
  rw [← hp0] at DG1
  clear hD
  have hp9 : ¬ p < n := by omega
  clear hp0
  obtain ⟨hsz, hn0, hn1, hpn, e45, hat', hoff⟩ := hN
  have HAT := Lib.hid hat'
  have HOFF := Lib.hid hoff
  have HA : Hid (∀ i (h : i < S.size), ((S[i]'h).toNat : Int) = chr S i) := fun i h => chr_at h
  have ha0 := HA.out 0 (by omega)
  have hbn : (10 : Int) ^ 60 * 10000 < bigN := by
    have h1 : (10000 : Int) ^ 20 ≤ bigN := pw_le (by omega)
    omega
  have hR0 := box_row4 w (.bool false) (.slice none 0 0) (.bool false) (.slice none 0 0) 39 w.heap.size rfl
  have hKw : Kept w (w.alloc (.cells #[.bool false, .slice none 0 0, .bool false, .slice none 0 0] 39)) := (Kept.refl w).alloc _
  clear hat' hoff
  go_enter Tryd.func35, Tryd.ntmps35
  go_wp2_with fail
  generalize w.alloc (.cells #[.bool false, .slice none 0 0, .bool false, .slice none 0 0] 39) = W at *
  obtain ⟨r0, HR0⟩ : ∃ r0, Hid (r0 = w.heap.size) := ⟨_, rfl⟩
  rw [← HR0.out] at hR0 ⊢
  have hrw : w.heap.size ≤ r0 := by rw [HR0.out]; exact Nat.le_refl _
  have hsl0 := slV_zero hpn
  clear HR0 e45 ha0
  go_loopg [6, 7] n (fun g s6 s7 wr => ∃ t : Nat, t ≤ n ∧ g = n - t ∧ s6 = .int .i64 (slV n p t) ∧ s7 = .int .i64 ((n : Int) - 1 - (t : Int)) ∧ W = wr)
  case atStart => exact ⟨0, Nat.zero_le _, rfl, by rw [hsl0], by first | rfl | go_num, rfl⟩
  case round =>
    obtain ⟨t, ht, rfl, rfl, rfl, rfl⟩ := hrel
    have hsle := slV_le (t := t) hpn
    by_cases hlt : t < n
    · obtain ⟨j, hj⟩ : ∃ j : Nat, j + 1 + t = n := ⟨n - 1 - t, by omega⟩
      have ej : (n : Int) - 1 - (t : Int) = (j : Int) := by omega
      have hat := HA.out j (by omega)
      have s4 : (j : Int) < (S.size : Int) := by omega
      have s5 : j < S.size := by omega
      have s6 : j < n := by omega
      have hms : Hid (n - (t + 1) < n - t) := by show _ < _; omega
      have hnx : Hid ((j : Int) - 1 = (n : Int) - 1 - ((t + 1 : Nat) : Int)) := by show _ = _; omega
      have s1 : (j : Int) ≥ 0 := by omega
      have s2 : (0 : Int) ≤ (j : Int) := by omega
      have s3 : (j : Int) < (n : Int) := by omega
      by_cases hp : j = p
      · have e1 := HAT.out j (by omega) hp
        have hs2 : Hid (slV n p (t + 1) = j) := by show _ = _; rw [slV_at (by omega), hp]
        rw [ej]
        generalize chr S j = c at *
        generalize slV n p t = sv at *
        clear ej hp
        go_wp2_with fail
        go_roundg (n - (t + 1))
        case measure => exact hms.out
        case rel => exact ⟨t + 1, by omega, rfl, by rw [hs2.out], by rw [← hnx.out], rfl⟩
      · have e1 := HOFF.out j (by omega) hp
        have hs2 : Hid (slV n p (t + 1) = slV n p t) := slV_off hj hp
        rw [ej]
        generalize chr S j = c at *
        obtain ⟨sv, HSV⟩ : ∃ sv, Hid (sv = slV n p t) := ⟨_, rfl⟩
        rw [← HSV.out] at hsle hs2 ⊢
        clear ej hp
        go_wp2_with fail
        go_roundg (n - (t + 1))
        case measure => exact hms.out
        case rel => exact ⟨t + 1, by omega, rfl, by rw [hs2.out], by rw [← hnx.out], rfl⟩
    · obtain rfl : t = n := by omega
      have hsl1 := slV_all t p
      rw [hsl1]
      have s1 : ¬ ((t : Int) - 1 - (t : Int)) ≥ 0 := by omega
      have q1 : (p : Int) ≤ (t : Int) := by omega
      have q2 : (0 : Int) ≤ (p : Int) := by omega
      have hw1 : IntKind.i64.wrap (p : Int) = (p : Int) := IntWalk.i64_in _ (by omega)
      have hpt : (p : Int).toNat = p := by omega
      clear hsl0 hsl1 hsle HAT HOFF HA
      have s9 : ¬ (p : Int) < (t : Int) := by omega
      go_wp2_with fail
      refine (DG1.out _).mono ?_
      rintro e w1 ⟨v1, rfl, hz1, hk1⟩
      obtain ⟨m1, a1, l1, c1, rfl⟩ := hz1.shape
      obtain ⟨rfl, _⟩ := hz1.pos (by omega)
      have HZ1 := Lib.hid hz1
      have hb8 := box_row w1 (.bool false) (.slice a1 l1 c1) 37 w1.heap.size rfl
      have hk8 : Kept w1 (w1.alloc (.cells #[.bool false, .slice a1 l1 c1] 37)) := (Kept.refl w1).alloc _
      clear hz1
      go_wp2_with fail
      obtain ⟨z8, HZ8⟩ : ∃ z, Hid (z = w1.heap.size) := ⟨_, rfl⟩
      rw [← HZ8.out] at hb8 ⊢
      have hz8r : r0 < z8 := by rw [HZ8.out]; exact Nat.lt_of_lt_of_le hR0.lt hk1.size
      generalize w1.alloc (.cells #[.bool false, .slice a1 l1 c1] 37) = w8 at *
      clear HZ8
      refine (Int_any _ 1 (by omega) (by omega)).mono ?_
      rintro e w2 ⟨v2, rfl, hz2, hk2⟩
      obtain ⟨m2, a2, l2, c2, rfl⟩ := hz2.shape
      obtain ⟨rfl, _⟩ := hz2.pos (by omega)
      have HZ2 := Lib.hid hz2
      have hb10 := box_row w2 (.bool false) (.slice a2 l2 c2) 37 w2.heap.size rfl
      have hk10 : Kept w2 (w2.alloc (.cells #[.bool false, .slice a2 l2 c2] 37)) := (Kept.refl w2).alloc _
      obtain ⟨z10, HZ10⟩ : ∃ z, Hid (z = w2.heap.size) := ⟨_, rfl⟩
      have hz10 : z8 < z10 := by rw [HZ10.out]; exact Nat.lt_of_lt_of_le hb8.lt hk2.size
      have h8F := (hk2.trans hk10).row hb8
      have h10F := hb10
      have hrF := ((((hk1.trans hk8).trans hk2).trans hk10)).row hR0
      have hnF := HZ1.out.kept ((hk8.trans hk2).trans hk10)
      have hdF := HZ2.out.kept hk10
      have hKwF : Kept w (w2.alloc (.cells #[.bool false, .slice a2 l2 c2] 37)) := ((((hKw.trans hk1).trans hk8).trans hk2).trans hk10)
      clear hb10 hz2 HZ10 hz10
      obtain ⟨f0, f1, f2, f3, f4, f5, f6, f7⟩ := bx4_cells hrF
      obtain ⟨j0, j1, _, _⟩ := bx_cells h8F
      obtain ⟨j2, j3, _, _⟩ := bx_cells h10F
      have hRF := bx4_set hrF (.bool false) (.slice a1 l1 c1) (.bool false) (.slice a2 l2 c2)
      obtain ⟨WG, hWG⟩ : ∃ WG, WG = (((((w2.alloc (.cells #[.bool false, .slice a2 l2 c2] 37)).setCell ⟨r0, 0, none⟩ (.bool false)).setCell ⟨r0, 1, none⟩ (.slice a1 l1 c1)).setCell ⟨r0, 2, none⟩ (.bool false)).setCell ⟨r0, 3, none⟩ (.slice a2 l2 c2)) := ⟨_, rfl⟩
      have hX : KeptX (fun k => k = r0) (w2.alloc (.cells #[.bool false, .slice a2 l2 c2] 37)) (((((w2.alloc (.cells #[.bool false, .slice a2 l2 c2] 37)).setCell ⟨r0, 0, none⟩ (.bool false)).setCell ⟨r0, 1, none⟩ (.slice a1 l1 c1)).setCell ⟨r0, 2, none⟩ (.bool false)).setCell ⟨r0, 3, none⟩ (.slice a2 l2 c2)) := ((((KeptX.refl (fun k => k = r0) (w2.alloc (.cells #[.bool false, .slice a2 l2 c2] 37))).setIn 0 _).setIn 1 _).setIn 2 _).setIn 3 _
      have HN9 := Lib.hid (hnF.keptBoxN hX hrF (bx4_noint _ _ _ _ _ _ _ _))
      have HD9 := Lib.hid (hdF.keptBoxN hX hrF (bx4_noint _ _ _ _ _ _ _ _))
      have hKF : Kept w (((((w2.alloc (.cells #[.bool false, .slice a2 l2 c2] 37)).setCell ⟨r0, 0, none⟩ (.bool false)).setCell ⟨r0, 1, none⟩ (.slice a1 l1 c1)).setCell ⟨r0, 2, none⟩ (.bool false)).setCell ⟨r0, 3, none⟩ (.slice a2 l2 c2)) := (((hKwF.setCell hrw _).setCell hrw _).setCell hrw _).setCell hrw _
      obtain ⟨g0, g1, g2, g3, _⟩ := bx4_cells hRF
      clear hrF h8F h10F hRF hX hnF hdF hWG
      go_wp2_with fail
      exact bodyPost_ret (v := .tuple #[.agg #[.bool false, .slice a1 l1 c1, .bool false, .slice a2 l2 c2], .bool true]) (by simp [results, Tryd.results35, go_sem, g0, g1, g2, g3]) rfl ⟨_, rfl, ⟨false, _, false, _, rfl, HN9.out, HD9.out⟩, hKF⟩
end Go.Proofs.YthigeafojekclaaDoor.Num
