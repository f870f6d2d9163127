/-
  The law FootWithins: its walk.
-/
import Derived.Test.YtfmcjbddbomohaaRd
import Derived.Test.YtfmcjbddbomohaaLv
namespace Go.Proofs.Ytfmcjbddbomohaa
open Go.RowKit Go.Deep

set_option maxRecDepth 100000 in
set_option maxHeartbeats 4000000 in
theorem withins_any (w : World) (a b : Option Addr) (l cap q qcap : Nat) (X Y U V : Nat → Int) (limit : Int) (hE : PairsAt w (.slice a l cap) l X Y) (hl : l ≤ cap) (hnil : a = none → cap = 0) (hcap : cap ≤ maxLen)
    (hF : PairsAt w (.slice b q qcap) q U V) (hq : q ≤ qcap) (hqnil : b = none → qcap = 0) (hqcap : qcap ≤ maxLen) :
    Calls Try.prog 5 #[.slice a l cap, .slice b q qcap, .int .i64 limit] w (LivesPost w) := by
  go_enter Try.func5, Try.ntmps5
  go_wp2_with fail
  refine (cut_any _ a l cap X Y hE hl hnil hcap).mono ?_
  rintro e w1 ⟨v1, rfl, hO1, hk1⟩
  have hF1 := hF.kept hk1
  have hP1 := own_pairs hO1
  obtain ⟨a1, c1, rfl, hc1, _⟩ := own_form hO1
  clear hO1 hE hF
  go_wp2_with fail
  refine (cut_any _ b q qcap U V hF1 hq hqnil hqcap).mono ?_
  rintro e w2 ⟨v2, rfl, hO2, hk2⟩
  have hP2 := hP1.kept hk2
  have hQ2 := own_pairs hO2
  obtain ⟨a2, c2, rfl, hc2, _⟩ := own_form hO2
  have hK2 := hk1.trans hk2
  obtain ⟨m, hm⟩ : ∃ m, m = min l 31 := ⟨_, rfl⟩
  obtain ⟨n, hn⟩ : ∃ n, n = min q 31 := ⟨_, rfl⟩
  rw [← hm] at hP2 hc1 ⊢
  rw [← hn] at hQ2 hc2 ⊢
  have hm2 : m ≤ 31 := by omega
  have hn2 : n ≤ 31 := by omega
  clear hO2 hF1 hP1 hk1 hk2 hm hn
  go_wp2_with fail
  refine (Within_any _ m n _ _ X Y U V limit hP2 hQ2 (by omega) (by omega)).mono ?_
  rintro e w3 ⟨hk3, hr1, hr2⟩
  have hP3 := hP2.kept hk3
  have hQ3 := hQ2.kept hk3
  have hK3 := hK2.trans hk3
  have hO := outs2 hP3 hQ3 22
  have hk4 : Kept w3 (w3.alloc (.cells #[.slice a1 m c1, .slice a2 n c2] 22)) := (Kept.refl w3).alloc _
  rw [code2_limit] at hr1 hr2
  clear hP2 hQ2 hk3 hK2
  by_cases hc0 : code2 0 m X Y n U V = 0
  · obtain ⟨h1, h2, h3, h4, _⟩ := code2_ok hc0
    obtain ⟨r1, p1⟩ := formB_in h3
    obtain ⟨r2, p2⟩ := formB_in h4
    rw [if_pos hc0] at hr1 hr2
    by_cases hlim : limit < 0
    · rw [if_pos hlim] at hr1 hr2
      obtain rfl := hr2 (by decide)
      have HC0 := Lib.hid hc0
      clear hr1 hr2 hc0 h3 h4 r1 r2
      go_wp2_with fail
      refine (Form_any _ _ 2 _ _ _ hO (by omega) (fun i _ => by show (if i = 0 then m else n) ≤ 1000000; split <;> omega)).mono ?_
      rw [checkC2, HC0.out]
      rintro e w5 ⟨rfl, hk5⟩
      have hK5 := (hK3.trans hk4).trans hk5
      go_wp2_with fail
      refine (lives_any _).mono ?_
      rintro e w6 ⟨rfl, hk6⟩
      go_wp2_with fail
      go_ret
      exact ⟨rfl, hK5.trans hk6⟩
    · rw [if_neg hlim] at hr1 hr2
      obtain rfl := hr1 rfl
      have HC0 := Lib.hid hc0
      have HI1 := Lib.hid r1
      have HI2 := Lib.hid r2
      obtain ⟨d, HD⟩ : ∃ d, Hid (d = fre m X Y n U V) := ⟨_, rfl⟩
      rw [← HD.out]
      clear hr1 hr2 hc0 h3 h4 r1 r2
      go_wp2_with fail
      refine (Form_any _ _ 2 _ _ _ hO (by omega) (fun i _ => by show (if i = 0 then m else n) ≤ 1000000; split <;> omega)).mono ?_
      rw [checkC2, HC0.out]
      rintro e w5 ⟨rfl, hk5⟩
      have hK5 := (hK3.trans hk4).trans hk5
      have hP5 := hP3.kept (hk4.trans hk5)
      have hQ5 := hQ3.kept (hk4.trans hk5)
      clear hO hP3 hQ3
      go_wp2_with fail
      refine (Rest_max _ m n a1 a2 c1 c2 X Y U V hP5 hQ5 HI1.out HI2.out p1 p2 (by omega) (by omega)).mono ?_
      rintro e w6 ⟨lb, lcap, br, Z, rfl, hk6, hT, hZ⟩
      have t0 := hT.top 0 (by omega)
      have t1 := hT.at (show 0 < m by omega) (show 0 < n by omega)
      rw [hZ 0 0 (by omega) (by omega)] at t1
      have hv : rstM X Y U V m n 0 0 = d := HD.out.symm
      rw [hv] at t1
      have hm0 : 0 < m := p1
      have hn0 : 0 < n := p2
      have hK6 := hK5.trans hk6
      clear hT hZ hv
      by_cases hd : d ≤ limit
      · go_wp2_with fail
        refine (lives_any _).mono ?_
        rintro e w7 ⟨rfl, hk7⟩
        go_wp2_with fail
        go_ret
        exact ⟨rfl, hK6.trans hk7⟩
      · go_wp2_with fail
        refine (lives_any _).mono ?_
        rintro e w7 ⟨rfl, hk7⟩
        go_wp2_with fail
        go_ret
        exact ⟨rfl, hK6.trans hk7⟩
  · rw [if_neg hc0] at hr1 hr2
    obtain rfl := hr2 hc0
    obtain ⟨cc, HCC⟩ : ∃ cc, Hid (cc = code2 0 m X Y n U V) := ⟨_, rfl⟩
    rw [← HCC.out] at hc0 ⊢
    have z1 : (cc == 0) = false := by simpa using hc0
    have z2 : (cc != 0) = true := by simpa using hc0
    clear hc0 hr1 hr2
    go_wp2_with fail
    refine (Form_any _ _ 2 _ _ _ hO (by omega) (fun i _ => by show (if i = 0 then m else n) ≤ 1000000; split <;> omega)).mono ?_
    rw [checkC2, ← HCC.out]
    rintro e w5 ⟨rfl, hk5⟩
    have hK5 := (hK3.trans hk4).trans hk5
    go_wp2_with fail
    refine (lives_any _).mono ?_
    rintro e w6 ⟨rfl, hk6⟩
    go_wp2_with fail
    go_ret
    exact ⟨rfl, hK5.trans hk6⟩
end Go.Proofs.Ytfmcjbddbomohaa
