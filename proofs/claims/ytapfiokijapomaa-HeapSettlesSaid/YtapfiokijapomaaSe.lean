/-
  The law HeapSettles, walked.
-/
import Derived.Test.YtapfiokijapomaaBu
import Derived.Test.YtapfiokijapomaaLg
namespace Go.Proofs.Ytapfiokijapomaa
open Go.RowKit Go.Deep

set_option maxRecDepth 100000 in
set_option maxHeartbeats 4000000 in
theorem settles_any (w : World) (n : Int) (a c : Option Addr) (l cap q qcap : Nat) (A B f : Nat → Int) (hE : PairsAt w (.slice a l cap) l A B) (hl : l ≤ cap) (hnil : a = none → cap = 0) (hcap : cap ≤ maxLen)
    (hX : IntsAt w (.slice c q qcap) q f) (hq : q ≤ qcap) (hqnil : c = none → qcap = 0) (hqcap : qcap ≤ maxLen) :
    Calls Try.prog 3 #[.agg #[.int .i64 n, .slice a l cap], .slice c q qcap] w (LivesPost w) := by
  obtain ⟨k, hk⟩ : ∃ k, k = min l 21 := ⟨_, rfl⟩
  obtain ⟨j, hj⟩ : ∃ j, j = min q 9 := ⟨_, rfl⟩
  have hk21 : k ≤ 21 := by omega
  have hj9 : j ≤ 9 := by omega
  have hK0 : Kept w (w.alloc (.cells #[.int .i64 n, .slice a l cap] 24)) := (Kept.refl w).alloc _
  have HJ := Lib.hid hj
  clear hj
  go_enter Try.func3, Try.ntmps3
  go_wp2_with fail
  refine (few_any _ n a l cap k A B hk (hE.kept hK0) hl hnil hcap).mono ?_
  rintro e w1 ⟨ea, ecap, rfl, hE1, hk1⟩
  have hK1 := hK0.trans hk1
  have hX1 := hX.kept hK1
  clear hK0 hk1 hk
  go_wp2_with fail
  have HC := cut_any w1 c q qcap f hX1 hq hqnil hqcap
  rw [← HJ.out] at HC
  refine HC.mono ?_
  rintro e w2 ⟨xv, rfl, hO2, hk2⟩
  obtain ⟨xa, xcap, rfl⟩ := own_shape hO2
  have hX2 := ints_at hO2
  have hE2 := hE1.kept hk2
  have hK2 := hK1.trans hk2
  clear HC hO2 hX1 hE1 hk2 hK1
  go_wp2_with fail
  refine (Settle_any w2 n _ _ A B k j f hE2 hX2 (by omega)).mono ?_
  rintro e w3 ⟨hk3, hb1, hb2⟩
  have hK3 := hK2.trans hk3
  have hE3 := hE2.kept hk3
  have hX3 := hX2.kept hk3
  have hw1 := list1 hX3 25
  have hk4 : Kept w3 (w3.alloc (.cells #[.slice xa j xcap] 25)) := (Kept.refl w3).alloc _
  have HWHY := why_any _ n _ _ A B k 0 1 (fun _ => j) (fun _ => f) (hE3.kept hk4) hw1 (by omega) (by omega) (fun _ _ => by omega)
  rw [code_why] at HWHY
  have HWHY' := Lib.hid HWHY
  clear HWHY hw1 hE2 hX2 hk3 hK2
  by_cases hc0 : code1 n A B k 0 j f = 0
  · have hgood : goodB n A B k = true := by
      cases h : goodB n A B k with
      | true => rfl
      | false => rw [code1_arg h] at hc0; cases hc0
    have hhold : holdsB n.toNat 0 j f = true := by
      cases h : holdsB n.toNat 0 j f with
      | true => rfl
      | false => rw [code1_form hgood h] at hc0; cases hc0
    obtain ⟨ok, ⟨p, hpk⟩, hm20, _⟩ := good_ok hgood
    obtain ⟨N, rfl⟩ : ∃ N : Nat, n = ((N + 1 : Nat) : Int) := ⟨n.toNat - 1, by have := ok.n2; omega⟩
    simp only [Int.toNat_natCast] at ok hhold hb1 hpk
    obtain ⟨hjn, hr⟩ := holds_range hhold
    simp only [Nat.add_sub_cancel] at hjn hr
    have hn2 := ok.n2
    have hn8 := ok.n8
    obtain ⟨y, hy, hyB⟩ := hpk.stab (D := degN A B k) (h := atV f) (K := 1000) ok (by omega) (fun v hv => by
      unfold atV
      by_cases e : v = 0
      · rw [if_pos e]; omega
      · rw [if_neg e]; exact (hr (v - 1) (by omega)).2)
    have hyB2 : ∀ v, v < N + 1 → y v ≤ 1125899906842624 := fun v hv => Int.le_trans (hyB v hv) (by decide)
    have hr2 : ∀ i, i < N → 0 ≤ f i ∧ f i ≤ 1000000000 := fun i hi => ⟨(hr i hi).1, by have := (hr i hi).2; omega⟩
    obtain ⟨r, t, fs, xs, he, _, _, _, hR, hT, ho, hf, _⟩ := hb1 hc0
    subst hjn
    have hS3 : IntsAt w3 (.slice (some ⟨r, 1, none⟩) j j) j (fun i => fs (i + 1)) := CellsAt.of_row1 hR
    have hT3 : IntsAt w3 (.slice (some ⟨t, 0, none⟩) j j) j (fun i => xs (i + 1)) := CellsAt.of_row hT
    simp only [Nat.add_sub_cancel] at he
    subst he
    have HC0 := Lib.hid hc0
    have HYB := Lib.hid hyB2
    have HR2 := Lib.hid hr2
    have HHF := Lib.hid hf
    clear hb1 hb2 hgood hhold hc0 hr hr2 hyB hyB2 hR hT hpk hf
    rw [HC0.out] at HWHY'
    go_wp2_with fail
    refine HWHY'.out.mono ?_
    rintro e w5 ⟨rfl, hk5⟩
    have hK5 := hk4.trans hk5
    have hE5 := hE3.kept hK5
    have hX5 := hX3.kept hK5
    have hS5 := hS3.kept hK5
    have hT5 := hT3.kept hK5
    clear hS3 hT3
    go_wp2_with fail
    refine (rsettle_any _ j k _ _ _ A B f y hE5 hm20 ok (by omega) hn8 hX5 HR2.out hy HYB.out).mono ?_
    rintro e w6 ⟨oa, ocap, tb, g, z, rfl, hk6, hG6, hZ6, ho2, hg⟩
    have hS6 := hS5.kept hk6
    have hT6 := hT5.kept hk6
    have hxz : ∀ v, v < j + 1 → xs v = z v := Odo.unique ho ho2
    have hfg : ∀ i, i < j → fs (i + 1) = g (i + 1) := fun i hi => by rw [HHF.out _ (by omega), hg _ (by omega), fin_congr hxz (by omega)]
    have HXZ := Lib.hid hxz
    have HFG := Lib.hid hfg
    clear hxz hfg hS5 hT5 hg
    go_wp2_with fail
    refine (same_yes _ _ _ j _ _ hS6 hG6 (by omega) HFG.out).mono ?_
    rintro e w7 ⟨rfl, hk7⟩
    have hT7 := hT6.kept hk7
    have hZ7 := hZ6.kept hk7
    go_wp2_with fail
    refine (same_yes _ _ _ j _ _ hT7 hZ7 (by omega) (fun i hi => HXZ.out _ (by omega))).mono ?_
    rintro e w8 ⟨rfl, hk8⟩
    go_wp2_with fail
    refine (lives_any _).mono ?_
    rintro e w9 ⟨rfl, hk9⟩
    go_wp2_with fail
    go_ret
    exact ⟨rfl, ((((hK3.trans hK5).trans hk6).trans hk7).trans hk8).trans hk9⟩
  · have HE := Lib.hid (hb2 hc0)
    clear hb1 hb2
    rw [HE.out]
    obtain ⟨cc, HCC⟩ : ∃ cc, Hid (cc = code1 n A B k 0 j f) := ⟨_, rfl⟩
    rw [← HCC.out] at hc0 HWHY' ⊢
    have c1 : (cc == 0) = false := by simpa using hc0
    have c2 : (cc != 0) = true := by simpa using hc0
    clear hc0
    go_wp2_with fail
    refine HWHY'.out.mono ?_
    rintro e w5 ⟨rfl, hk5⟩
    go_wp2_with fail
    refine (lives_any _).mono ?_
    rintro e w6 ⟨rfl, hk6⟩
    go_wp2_with fail
    go_ret
    exact ⟨rfl, (hK3.trans (hk4.trans hk5)).trans hk6⟩
end Go.Proofs.Ytapfiokijapomaa
