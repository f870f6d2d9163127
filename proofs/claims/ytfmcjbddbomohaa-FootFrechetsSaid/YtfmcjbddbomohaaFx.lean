/-
  The law FootFrechets: its walk.
-/
import Derived.Test.YtfmcjbddbomohaaWy
import Derived.Test.YtfmcjbddbomohaaRx
import Derived.Test.YtfmcjbddbomohaaLv
import Derived.Test.YtfmcjbddbomohaaFo
import Derived.Test.YtfmcjbddbomohaaCu
namespace Go.Proofs.Ytfmcjbddbomohaa
open Go.RowKit Go.Deep

theorem rwalk_max (w : World) (m n : Nat) (a1 a2 : Option Addr) (cap1 cap2 : Nat) (X Y U V : Nat → Int) (hA : PairsAt w (.slice a1 m cap1) m X Y) (hB : PairsAt w (.slice a2 n cap2) n U V) (h1 : InR m X Y) (h2 : InR n U V) (hm : 1 ≤ m) (hn : 1 ≤ n) (hm2 : m ≤ 900) (hn2 : n ≤ 900) :
    Calls Try.prog 27 #[.slice a1 m cap1, .slice a2 n cap2, .bool false] w fun e w' => ∃ v, e = .returned v ∧ WalkAt w' m n (rstW m X Y n U V) v ∧ Kept w w' := by
  have hfb := fre_bd h1 h2 hm hn
  have h00 : rstM X Y U V m n 0 0 ≤ fre m X Y n U V := Int.le_refl _
  refine (rwalkM_any w m n a1 a2 cap1 cap2 X Y U V (rstM X Y U V m n) (rstW m X Y n U V) (fun _ => fre m X Y n U V) hA hB h1 h2 hm hn hm2 hn2 (Rest_max w m n a1 a2 cap1 cap2 X Y U V hA hB h1 h2 hm hn hm2 hn2) rfl (fun t ht => rfl) (fun t ht => by omega) (fun t ht => ?_)).mono ?_
  · have hin := pth_in (L := rstW m X Y n U V) hm hn t (fun u hu => ht u (by omega))
    have hin2 := pth_in (L := rstW m X Y n U V) hm hn (t + 1) (fun u hu => ht u (by omega))
    obtain ⟨c, hc, hcc, hlt⟩ := nxt_pick (L := rstW m X Y n U V) hin.1 hin.2.1 (ht t (Nat.le_refl _))
    have hz := path_zero (X := X) (Y := Y) (U := U) (V := V) (limit := fre m X Y n U V) hm hn h00 (t + 1) (fun u hu => ht u (by omega))
    refine ⟨c, hc, hcc, ?_, fun d hd h3 h4 => ?_⟩
    · exact decide_eq_true ((zero_iff _ _ _ hin2.1 hin2.2.1 rfl).1 hz)
    · have h5 := hlt d hd h3 h4
      have h6 : rstW m X Y n U V (nxt m n (rstW m X Y n U V) (pth m n (rstW m X Y n U V) t).1 (pth m n (rstW m X Y n U V) t).2).1 (nxt m n (rstW m X Y n U V) (pth m n (rstW m X Y n U V) t).1 (pth m n (rstW m X Y n U V) t).2).2 = 0 := hz
      rw [h6] at h5
      refine decide_eq_false (fun hle => ?_)
      have h7 := (zero_iff (X := X) (Y := Y) (U := U) (V := V) (limit := fre m X Y n U V) _ _ _ h3 h4 rfl).2 hle
      have h8 : rstW m X Y n U V (cand (pth m n (rstW m X Y n U V) t).1 (pth m n (rstW m X Y n U V) t).2 d).1 (cand (pth m n (rstW m X Y n U V) t).1 (pth m n (rstW m X Y n U V) t).2 d).2 = 0 := h7
      omega
  · rintro e w' ⟨t, a, cap, rfl, h3, h4, h5⟩
    exact ⟨_, rfl, ⟨t, a, cap, rfl, h3, h5⟩, h4⟩
set_option maxRecDepth 100000 in
set_option maxHeartbeats 4000000 in
theorem frechets_any (w : World) (a b : Option Addr) (l cap q qcap : Nat) (X Y U V : Nat → Int) (hE : PairsAt w (.slice a l cap) l X Y) (hl : l ≤ cap) (hnil : a = none → cap = 0) (hcap : cap ≤ maxLen)
    (hF : PairsAt w (.slice b q qcap) q U V) (hq : q ≤ qcap) (hqnil : b = none → qcap = 0) (hqcap : qcap ≤ maxLen) :
    Calls Try.prog 4 #[.slice a l cap, .slice b q qcap] w (LivesPost w) := by
  go_enter Try.func4, Try.ntmps4
  go_wp2_with fail
  refine (cut_any _ a l cap X Y hE hl hnil hcap).mono ?_
  rintro e w1 ⟨v1, rfl, hO1, hk1⟩
  have hF1 := hF.kept hk1
  have hP1 := own_pairs hO1
  obtain ⟨a1, c1, rfl, hc1, _⟩ := own_form hO1
  clear hO1 hE hF
  go_wp2_with fail
  refine (cut_any _ b q qcap U V hF1 hq hqnil hqcap).mono ?_
  rintro e w2 ⟨v2, rfl, hO2, hk2⟩
  have hP2 := hP1.kept hk2
  have hQ2 := own_pairs hO2
  obtain ⟨a2, c2, rfl, hc2, _⟩ := own_form hO2
  have hK2 := hk1.trans hk2
  obtain ⟨m, hm⟩ : ∃ m, m = min l 31 := ⟨_, rfl⟩
  obtain ⟨n, hn⟩ : ∃ n, n = min q 31 := ⟨_, rfl⟩
  rw [← hm] at hP2 hc1 ⊢
  rw [← hn] at hQ2 hc2 ⊢
  have hm2 : m ≤ 31 := by omega
  have hn2 : n ≤ 31 := by omega
  clear hO2 hF1 hP1 hk1 hk2 hm hn
  go_wp2_with fail
  refine (Frechet_any _ m n _ _ X Y U V hP2 hQ2 (by omega) (by omega)).mono ?_
  rintro e w2a ⟨hk2a, hf1, hf2⟩
  have hP2a := hP2.kept hk2a
  have hQ2a := hQ2.kept hk2a
  have hK2a := hK2.trans hk2a
  clear hP2 hQ2 hK2 hk2a
  have hP2 := hP2a
  have hQ2 := hQ2a
  have hK2 := hK2a
  clear hP2a hQ2a hK2a
  by_cases hc0 : code2 0 m X Y n U V = 0
  · obtain rfl := hf1 hc0
    obtain ⟨s0, HT⟩ : ∃ s0, Hid (s0 = fre m X Y n U V) := ⟨_, rfl⟩
    rw [← HT.out]
    clear hf1 hf2
    go_wp2_with fail
    refine (Walk_any _ m n _ _ X Y U V hP2 hQ2 (by omega) (by omega)).mono ?_
    rintro e w3 ⟨hk3, hr1, hr2⟩
    have hP3 := hP2.kept hk3
    have hQ3 := hQ2.kept hk3
    have hK3 := hK2.trans hk3
    have hO := outs2 hP3 hQ3 22
    have hk4 : Kept w3 (w3.alloc (.cells #[.slice a1 m c1, .slice a2 n c2] 22)) := (Kept.refl w3).alloc _
    clear hP2 hQ2 hk3 hK2
    obtain ⟨h1, h2, h3, h4, _⟩ := code2_ok hc0
    obtain ⟨r1, p1⟩ := formB_in h3
    obtain ⟨r2, p2⟩ := formB_in h4
    obtain ⟨v, rfl, hW3⟩ := hr1 hc0
    have HC0 := Lib.hid hc0
    have HI1 := Lib.hid r1
    have HI2 := Lib.hid r2
    have HW3 := Lib.hid hW3
    clear hW3
    clear hr1 hr2 hc0 h3 h4 r1 r2
    go_wp2_with fail
    refine (Form_any _ _ 2 _ _ _ hO (by omega) (fun i _ => by show (if i = 0 then m else n) ≤ 1000000; split <;> omega)).mono ?_
    rw [checkC2, HC0.out]
    rintro e w5 ⟨rfl, hk5⟩
    have hK5 := (hK3.trans hk4).trans hk5
    have hP5 := hP3.kept (hk4.trans hk5)
    have hQ5 := hQ3.kept (hk4.trans hk5)
    clear hO hP3 hQ3
    go_wp2_with fail
    refine (Rest_max _ m n a1 a2 c1 c2 X Y U V hP5 hQ5 HI1.out HI2.out p1 p2 (by omega) (by omega)).mono ?_
    rintro e w6 ⟨lb, lcap, br, Z, rfl, hk6, hT, hZ⟩
    have t0 := hT.top 0 (by omega)
    have t1 := hT.at (show 0 < m by omega) (show 0 < n by omega)
    rw [hZ 0 0 (by omega) (by omega)] at t1
    have hv : rstM X Y U V m n 0 0 = s0 := HT.out.symm
    rw [hv] at t1
    have hm0 : 0 < m := p1
    have hn0 : 0 < n := p2
    have hP6 := hP5.kept hk6
    have hQ6 := hQ5.kept hk6
    have hW6 := HW3.out.kept ((hk4.trans hk5).trans hk6)
    have HW6 := Lib.hid hW6
    have hK6' := hK5.trans hk6
    clear hT hZ hP5 hQ5 hW6
    go_wp2_with fail
    refine (rwalk_max _ m n a1 a2 c1 c2 X Y U V hP6 hQ6 HI1.out HI2.out p1 p2 (by omega) (by omega)).mono ?_
    rintro e w7 ⟨v7, rfl, hW7, hk7⟩
    have HW7 := Lib.hid hW7
    clear hW7 t0 t1
    go_wp2_with fail
    refine (sameWalks _ m n _ _ _ (HW6.out.kept hk7) HW7.out (fun t ht => by have := ends_le p1 p2 ht; omega)).mono ?_
    rintro e w8 ⟨rfl, hk8⟩
    have hK6 := (hK6'.trans hk7).trans hk8
    go_wp2_with fail
    refine (lives_any _).mono ?_
    rintro e w7 ⟨rfl, hk7⟩
    go_wp2_with fail
    go_ret
    exact ⟨rfl, hK6.trans hk7⟩
  · obtain rfl := hf2 hc0
    clear hf1 hf2
    obtain ⟨cc, HCC⟩ : ∃ cc, Hid (cc = code2 0 m X Y n U V) := ⟨_, rfl⟩
    rw [← HCC.out]
    go_wp2_with fail
    refine (Walk_any _ m n _ _ X Y U V hP2 hQ2 (by omega) (by omega)).mono ?_
    rintro e w3 ⟨hk3, hr1, hr2⟩
    have hP3 := hP2.kept hk3
    have hQ3 := hQ2.kept hk3
    have hK3 := hK2.trans hk3
    have hO := outs2 hP3 hQ3 22
    have hk4 : Kept w3 (w3.alloc (.cells #[.slice a1 m c1, .slice a2 n c2] 22)) := (Kept.refl w3).alloc _
    clear hP2 hQ2 hk3 hK2
    obtain rfl := hr2 hc0
    rw [← HCC.out] at hc0 ⊢
    have z1 : (cc == 0) = false := by simpa using hc0
    have z2 : (cc != 0) = true := by simpa using hc0
    clear hc0 hr1 hr2
    go_wp2_with fail
    refine (Form_any _ _ 2 _ _ _ hO (by omega) (fun i _ => by show (if i = 0 then m else n) ≤ 1000000; split <;> omega)).mono ?_
    rw [checkC2, ← HCC.out]
    rintro e w5 ⟨rfl, hk5⟩
    have hK5 := (hK3.trans hk4).trans hk5
    go_wp2_with fail
    refine (lives_any _).mono ?_
    rintro e w6 ⟨rfl, hk6⟩
    go_wp2_with fail
    go_ret
    exact ⟨rfl, hK5.trans hk6⟩
end Go.Proofs.Ytfmcjbddbomohaa
