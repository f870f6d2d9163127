/-
  The law FootShorts: its walk.
-/
import Derived.Test.YtomnjcjipdnnfaaSh
import Derived.Test.YtomnjcjipdnnfaaRs
import Derived.Test.YtomnjcjipdnnfaaSm
import Derived.Test.YtomnjcjipdnnfaaLv
namespace Go.Proofs.Ytomnjcjipdnnfaa
open Go.RowKit Go.Deep

set_option maxRecDepth 100000 in
set_option maxHeartbeats 4000000 in
theorem shorts_any (w : World) (a : Option Addr) (l cap : Nat) (X Y : Nat → Int) (limit : Int) (hE : PairsAt w (.slice a l cap) l X Y) (hl : l ≤ cap) (hnil : a = none → cap = 0) (hcap : cap ≤ maxLen) :
    Calls Try.prog 8 #[.slice a l cap, .int .i64 limit] w (LivesPost w) := by
  go_enter Try.func8, Try.ntmps8
  go_wp2_with fail
  refine (cut_any _ a l cap X Y hE hl hnil hcap).mono ?_
  rintro e w1 ⟨v1, rfl, hO1, hk1⟩
  have hP1 := own_pairs hO1
  obtain ⟨a1, c1, rfl, hc1, _⟩ := own_form hO1
  obtain ⟨m, hm⟩ : ∃ m, m = min l 31 := ⟨_, rfl⟩
  rw [← hm] at hP1 hc1 ⊢
  have hm2 : m ≤ 31 := by omega
  clear hO1 hE hm
  go_wp2_with fail
  refine (Short_any _ m c1 a1 X Y limit hP1 (by omega) hc1).mono ?_
  rintro e w3 ⟨hk3, hr1, hr2⟩
  have hP3 := hP1.kept hk3
  have hK3 := hk1.trans hk3
  have hO := outs1 hP3 22
  have hk4 : Kept w3 (w3.alloc (.cells #[.slice a1 m c1] 22)) := (Kept.refl w3).alloc _
  rw [code1_limit] at hr1 hr2
  clear hP1 hk3 hk1
  by_cases hc0 : code1 0 m X Y = 0
  · obtain ⟨h1, h2, _⟩ := code1_ok hc0
    obtain ⟨r1, p1⟩ := formB_in h2
    rw [if_pos hc0] at hr1 hr2
    by_cases hlim : limit < 0
    · rw [if_pos hlim] at hr1 hr2
      obtain rfl := hr2 (by decide)
      have HC0 := Lib.hid hc0
      clear hr1 hr2 hc0 h2 r1
      go_wp2_with fail
      refine (Form_any _ _ 1 _ _ _ hO (by omega) (fun i _ => by show m ≤ 1000000; omega)).mono ?_
      rw [checkC1, HC0.out]
      rintro e w5 ⟨rfl, hk5⟩
      have hK5 := (hK3.trans hk4).trans hk5
      go_wp2_with fail
      refine (lives_any _).mono ?_
      rintro e w6 ⟨rfl, hk6⟩
      go_wp2_with fail
      go_ret
      exact ⟨rfl, hK5.trans hk6⟩
    · rw [if_neg hlim] at hr1 hr2
      obtain ⟨v3, rfl, hS3⟩ := hr1 rfl
      have HC0 := Lib.hid hc0
      have HI1 := Lib.hid r1
      have HS3 := Lib.hid hS3
      clear hr1 hr2 hc0 h2 r1 hS3
      go_wp2_with fail
      refine (Form_any _ _ 1 _ _ _ hO (by omega) (fun i _ => by show m ≤ 1000000; omega)).mono ?_
      rw [checkC1, HC0.out]
      rintro e w5 ⟨rfl, hk5⟩
      have hK5 := (hK3.trans hk4).trans hk5
      have hP5 := hP3.kept (hk4.trans hk5)
      have hS5 := HS3.out.kept (hk4.trans hk5)
      have HS5 := Lib.hid hS5
      clear hO hP3 HS3 hS5
      go_wp2_with fail
      refine (rShort_any _ m c1 a1 X Y limit hP5 HI1.out p1 (by omega) (by omega)).mono ?_
      intro e w6 h
      obtain ⟨v6, rfl, hS6, hk6⟩ := h.at
      have hone := short_one p1 (HS5.out.kept hk6) hS6
      clear h hS6
      obtain ⟨b1, b2, L, d1, d2, f1, f2, rfl, rfl, hI1, hI2, hsame⟩ := hone
      have HSA := Lib.hid hsame
      have HL : Hid (L ≤ 1000000) := by
        have := HS5.out
        obtain ⟨F, s, ba, bc, e1, _, h3, _⟩ := this
        injection e1 with q1 q2 q3
        have := few_lt h3 (fun i _ => skips_one i) (m - 1) 0 (by omega) (by omega)
        show L ≤ 1000000
        omega
      clear hsame
      go_wp2_with fail
      refine (same_any _ _ _ L L f1 f2 hI1 hI2 HL.out HL.out).mono ?_
      rw [HSA.out]
      rintro e w7 ⟨rfl, hq7⟩
      have hK7 := (hK5.trans hk6).trans hq7.kept
      clear hI1 hI2 hq7
      go_wp2_with fail
      refine (lives_any _).mono ?_
      rintro e w8 ⟨rfl, hk8⟩
      go_wp2_with fail
      go_ret
      exact ⟨rfl, hK7.trans hk8⟩
  · rw [if_neg hc0] at hr1 hr2
    obtain rfl := hr2 hc0
    obtain ⟨cc, HCC⟩ : ∃ cc, Hid (cc = code1 0 m X Y) := ⟨_, rfl⟩
    rw [← HCC.out] at hc0 ⊢
    have z1 : (cc == 0) = false := by simpa using hc0
    have z2 : (cc != 0) = true := by simpa using hc0
    clear hc0 hr1 hr2
    go_wp2_with fail
    refine (Form_any _ _ 1 _ _ _ hO (by omega) (fun i _ => by show m ≤ 1000000; omega)).mono ?_
    rw [checkC1, ← HCC.out]
    rintro e w5 ⟨rfl, hk5⟩
    have hK5 := (hK3.trans hk4).trans hk5
    go_wp2_with fail
    refine (lives_any _).mono ?_
    rintro e w6 ⟨rfl, hk6⟩
    go_wp2_with fail
    go_ret
    exact ⟨rfl, hK5.trans hk6⟩
end Go.Proofs.Ytomnjcjipdnnfaa
