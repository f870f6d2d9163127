/-
  The law HeapBurns, walked.
-/
import Derived.Test.YtapfiokijapomaaLi
import Derived.Test.YtapfiokijapomaaLe
import Derived.Test.YtapfiokijapomaaX
namespace Go.Proofs.Ytapfiokijapomaa
open Go.RowKit Go.Deep

theorem own_ints {w : World} {base : Nat} {v : Value} {l : List Nat} (h : w.ownsRow base 3 1 v l.length (nats l)) : IntsAt w v l.length (fun i => (l.getD i 0 : Int)) := by
  refine (CellsAt.of_own h).congr (fun i hi => ?_)
  simp [nats, List.getD, hi]
theorem stable_settled {A B : Nat → Int} {m n : Nat} {f : Nat → Int} : allN (fun i => decide (f i < deg A B m ((i : Int) + 1))) (n - 1) = stableB (degN A B m) f n := rfl
theorem code_why {n : Int} {A B : Nat → Int} {m : Nat} {l : Nat} {f : Nat → Int} : whyC n A B m 0 1 (fun _ => l) (fun _ => f) = code1 n A B m 0 l f := by
  unfold whyC code1
  simp [allN]

set_option maxRecDepth 100000 in
set_option maxHeartbeats 4000000 in
theorem burns_any (w : World) (n : Int) (a c : Option Addr) (l cap q qcap : Nat) (A B f : Nat → Int) (hE : PairsAt w (.slice a l cap) l A B) (hl : l ≤ cap) (hnil : a = none → cap = 0) (hcap : cap ≤ maxLen)
    (hX : IntsAt w (.slice c q qcap) q f) (hq : q ≤ qcap) (hqnil : c = none → qcap = 0) (hqcap : qcap ≤ maxLen) :
    Calls Try.prog 4 #[.agg #[.int .i64 n, .slice a l cap], .slice c q qcap] w (LivesPost w) := by
  obtain ⟨k, hk⟩ : ∃ k, k = min l 21 := ⟨_, rfl⟩
  obtain ⟨j, hj⟩ : ∃ j, j = min q 9 := ⟨_, rfl⟩
  have hk21 : k ≤ 21 := by omega
  have hj9 : j ≤ 9 := by omega
  have hK0 : Kept w (w.alloc (.cells #[.int .i64 n, .slice a l cap] 24)) := (Kept.refl w).alloc _
  have HJ := Lib.hid hj
  clear hj
  go_enter Try.func4, Try.ntmps4
  go_wp2_with fail
  refine (few_any _ n a l cap k A B hk (hE.kept hK0) hl hnil hcap).mono ?_
  rintro e w1 ⟨ea, ecap, rfl, hE1, hk1⟩
  have hK1 := hK0.trans hk1
  have hX1 := hX.kept hK1
  clear hK0 hk1 hk
  go_wp2_with fail
  have HC := cut_any w1 c q qcap f hX1 hq hqnil hqcap
  rw [← HJ.out] at HC
  refine HC.mono ?_
  rintro e w2 ⟨xv, rfl, hO2, hk2⟩
  obtain ⟨xa, xcap, rfl⟩ := own_shape hO2
  have hX2 := ints_at hO2
  have hE2 := hE1.kept hk2
  have hK2 := hK1.trans hk2
  clear HC hO2 hX1 hE1 hk2 hK1
  go_wp2_with fail
  refine (Burn_any w2 n _ _ A B k j f hE2 hX2 (by omega)).mono ?_
  rintro e w3 ⟨hk3, hb1, hb2, hb3⟩
  have hK3 := hK2.trans hk3
  have hE3 := hE2.kept hk3
  have hX3 := hX2.kept hk3
  have hw1 := list1 hX3 25
  have hk4 : Kept w3 (w3.alloc (.cells #[.slice xa j xcap] 25)) := (Kept.refl w3).alloc _
  have HWHY := why_any _ n _ _ A B k 0 1 (fun _ => j) (fun _ => f) (hE3.kept hk4) hw1 (by omega) (by omega) (fun _ _ => by omega)
  rw [code_why] at HWHY
  have HWHY' := Lib.hid HWHY
  clear HWHY hw1 hE2 hX2 hk3 hK2
  by_cases hc0 : code1 n A B k 0 j f = 0
  · have hgood : goodB n A B k = true := by
      cases h : goodB n A B k with
      | true => rfl
      | false => rw [code1_arg h] at hc0; cases hc0
    have hhold : holdsB n.toNat 0 j f = true := by
      cases h : holdsB n.toNat 0 j f with
      | true => rfl
      | false => rw [code1_form hgood h] at hc0; cases hc0
    obtain ⟨ok, _, hm20, _⟩ := good_ok hgood
    obtain ⟨N, rfl⟩ : ∃ N : Nat, n = (N : Int) := ⟨n.toNat, by have := ok.n2; omega⟩
    simp only [Int.toNat_natCast] at ok hhold hb2 hb3
    obtain ⟨hjn, hr⟩ := holds_range hhold
    have hn2 := ok.n2
    have hn8 := ok.n8
    have HC0 := Lib.hid hc0
    have HB2 := Lib.hid (hb2 hc0)
    have HB3 := Lib.hid (hb3 hc0)
    clear hb1 hb2 hb3 hgood hhold hc0 hr
    rw [HC0.out] at HWHY'
    have HJN := Lib.hid hjn
    clear hjn
    cases hs : stableB (degN A B k) f N
    · have HE := Lib.hid (HB2.out hs)
      have hst : allN (fun i => decide (f i < deg A B k ((i : Int) + 1))) j = false := by rw [HJN.out]; exact hs
      have HST := Lib.hid hst
      clear hst hs
      rw [HE.out]
      go_wp2_with fail
      refine HWHY'.out.mono ?_
      rintro e w5 ⟨rfl, hk5⟩
      have hK5 := hk4.trans hk5
      have hE5 := hE3.kept hK5
      have hX5 := hX3.kept hK5
      go_wp2_with fail
      refine (settled_any _ _ _ k A B j f hE5 hX5 (by omega) (by omega)).mono ?_
      rw [HST.out]
      rintro e w6 ⟨rfl, hq6⟩
      have hk6 := hq6.kept
      clear hq6
      go_wp2_with fail
      refine (lives_any _).mono ?_
      rintro e w7 ⟨rfl, hk7⟩
      go_wp2_with fail
      go_ret
      exact ⟨rfl, ((hK3.trans hK5).trans hk6).trans hk7⟩
    · obtain ⟨ov, he, base, hbase, hO3⟩ := HB3.out hs
      have hst : allN (fun i => decide (f i < deg A B k ((i : Int) + 1))) j = true := by rw [HJN.out]; exact hs
      have HST := Lib.hid hst
      clear hst hs
      obtain ⟨bb, hbb⟩ : ∃ bb, bb = decide ((burnAll N (btwN A B k) f).length = N - 1) := ⟨_, rfl⟩
      have he2 : e = .returned (.tuple #[ov, .bool bb, .int .i64 0]) := by rw [hbb]; exact he
      have HBB := Lib.hid hbb
      clear he hbb
      subst he2
      obtain ⟨oa, ocap, rfl⟩ := own_shape hO3
      have hB3 := own_ints hO3
      have hbl := burnL_len N (btwN A B k) f N (fun i => decide (i = 0)) []
      have hbl' : (burnAll N (btwN A B k) f).length ≤ 8 := by unfold burnAll; simp at hbl; omega
      clear hbl hO3
      obtain ⟨L, HL⟩ : ∃ L, Hid (L = burnAll N (btwN A B k) f) := ⟨_, rfl⟩
      rw [← HL.out] at hB3 hbl' ⊢
      go_wp2_with fail
      refine HWHY'.out.mono ?_
      rintro e w5 ⟨rfl, hk5⟩
      have hK5 := hk4.trans hk5
      have hE5 := hE3.kept hK5
      have hX5 := hX3.kept hK5
      go_wp2_with fail
      refine (settled_any _ _ _ k A B j f hE5 hX5 (by omega) (by omega)).mono ?_
      rw [HST.out]
      rintro e w6 ⟨rfl, hq6⟩
      have hK6 := hK5.trans hq6.kept
      have hE6 := hE3.kept hK6
      have hX6 : IntsAt w6 (.slice xa j xcap) (N - 1) f := by have := hX3.kept hK6; rw [HJN.out] at this ⊢; exact this
      have hB6 := hB3.kept hK6
      clear hq6 hE5 hX5
      go_wp2_with fail
      refine (rburn_any _ N k _ _ A B f hE6 hm20 hn8 (by omega) hX6).mono ?_
      rintro e w7 ⟨ov7, he7, hk7, hO7⟩
      have he8 : e = .returned (.tuple #[ov7, .bool bb]) := by rw [HBB.out]; exact he7
      clear he7
      subst he8
      rw [← HL.out] at hO7
      obtain ⟨oa7, ocap7, rfl⟩ := own_shape hO7
      have hB7 := own_ints hO7
      have hB6' := hB6.kept hk7
      go_wp2_with fail
      refine (same_yes _ _ _ L.length _ _ hB6' hB7 (by omega) (fun _ _ => rfl)).mono ?_
      rintro e w8 ⟨rfl, hk8⟩
      go_wp2_with fail
      refine (lives_any _).mono ?_
      rintro e w9 ⟨rfl, hk9⟩
      go_wp2_with fail
      go_ret
      exact ⟨rfl, (((hK3.trans hK6).trans hk7).trans hk8).trans hk9⟩
  · have HE := Lib.hid (hb1 hc0)
    clear hb1 hb2 hb3
    rw [HE.out]
    obtain ⟨cc, HCC⟩ : ∃ cc, Hid (cc = code1 n A B k 0 j f) := ⟨_, rfl⟩
    rw [← HCC.out] at hc0 HWHY' ⊢
    have c1 : (cc == 0) = false := by simpa using hc0
    have c2 : (cc != 0) = true := by simpa using hc0
    clear hc0
    go_wp2_with fail
    refine HWHY'.out.mono ?_
    rintro e w5 ⟨rfl, hk5⟩
    go_wp2_with fail
    refine (lives_any _).mono ?_
    rintro e w6 ⟨rfl, hk6⟩
    go_wp2_with fail
    go_ret
    exact ⟨rfl, (hK3.trans (hk4.trans hk5)).trans hk6⟩
end Go.Proofs.Ytapfiokijapomaa
