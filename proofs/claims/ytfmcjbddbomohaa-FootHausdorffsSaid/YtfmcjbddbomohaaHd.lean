/-
  The law FootHausdorffs: its walk.
-/
import Derived.Test.YtfmcjbddbomohaaHf
import Derived.Test.YtfmcjbddbomohaaSm
import Derived.Test.YtfmcjbddbomohaaLv
import Derived.Test.YtfmcjbddbomohaaFo
import Derived.Test.YtfmcjbddbomohaaCu
namespace Go.Proofs.Ytfmcjbddbomohaa
open Go.RowKit Go.Deep

theorem same_yes (w : World) (va vb : Value) (n : Nat) (fa fb : Nat → Int) (ha : IntsAt w va n fa) (hb : IntsAt w vb n fb) (hn : n ≤ 1000000) (h : ∀ i, i < n → fa i = fb i) :
    Calls Try.prog 21 #[va, vb] w fun e w' => e = .returned (.bool true) ∧ Kept w w' := by
  refine (same_any w va vb n n fa fb ha hb hn hn).mono ?_
  rintro e w' ⟨rfl, hq⟩
  refine ⟨ret_bool ?_, hq.kept⟩
  unfold same
  rw [Bool.and_eq_true]
  exact ⟨by simp, allN_true.2 (fun i hi => by simpa using h i hi)⟩
theorem two_at {w : World} {b : Nat} {x y : Int} (h0 : w.cell? ⟨b, 0, none⟩ = some (.int .i64 x)) (h1 : w.cell? ⟨b, 1, none⟩ = some (.int .i64 y)) : IntsAt w (.slice (some ⟨b, 0, none⟩) 2 2) 2 (fun i => if i = 0 then x else y) := by
  refine ⟨_, b, 0, 2, rfl, fun _ => rfl, fun i hi => ?_⟩
  have : i = 0 ∨ i = 1 := by omega
  rcases this with rfl | rfl
  · exact h0
  · exact h1
theorem sameFar (w : World) (m n : Nat) (X Y U V : Nat → Int) (va vb : Value) (ha : FarAt w m n X Y U V m 0 va) (hb : FarAt w m n X Y U V m 0 vb) :
    Calls Try.prog 21 #[va, vb] w fun e w' => e = .returned (.bool true) ∧ Kept w w' := by
  rcases ha with ⟨rfl, hN⟩ | ⟨b1, i1, j1, rfl, c0, c1, hF⟩
  · rcases hb with ⟨rfl, _⟩ | ⟨b2, i2, j2, rfl, _, _, hF2⟩
    · exact same_yes w _ _ 0 (fun _ => 0) (fun _ => 0) ⟨_, 0, 0, 0, rfl, fun h => absurd h (by omega), fun i hi => absurd hi (by omega)⟩ ⟨_, 0, 0, 0, rfl, fun h => absurd h (by omega), fun i hi => absurd hi (by omega)⟩ (by omega) (fun _ _ => rfl)
    · have := hN i2 j2 hF2.1 hF2.2.1 (.inl hF2.1)
      rw [hF2.2.2.1] at this; cases this
  · rcases hb with ⟨rfl, hN⟩ | ⟨b2, i2, j2, rfl, d0, d1, hF2⟩
    · have := hN i1 j1 hF.1 hF.2.1 (.inl hF.1)
      rw [hF.2.2.1] at this; cases this
    · obtain ⟨rfl, rfl⟩ := first_unique hF hF2
      exact same_yes w _ _ 2 _ _ (two_at c0 c1) (two_at d0 d1) (by omega) (fun _ _ => rfl)
set_option maxRecDepth 100000 in
set_option maxHeartbeats 4000000 in
theorem hausdorffs_any (w : World) (a b : Option Addr) (l cap q qcap : Nat) (X Y U V : Nat → Int) (hE : PairsAt w (.slice a l cap) l X Y) (hl : l ≤ cap) (hnil : a = none → cap = 0) (hcap : cap ≤ maxLen)
    (hF : PairsAt w (.slice b q qcap) q U V) (hq : q ≤ qcap) (hqnil : b = none → qcap = 0) (hqcap : qcap ≤ maxLen) :
    Calls Try.prog 3 #[.slice a l cap, .slice b q qcap] w (LivesPost w) := by
  go_enter Try.func3, Try.ntmps3
  go_wp2_with fail
  refine (cut_any _ a l cap X Y hE hl hnil hcap).mono ?_
  rintro e w1 ⟨v1, rfl, hO1, hk1⟩
  have hF1 := hF.kept hk1
  have hP1 := own_pairs hO1
  obtain ⟨a1, c1, rfl, hc1, _⟩ := own_form hO1
  clear hO1 hE hF
  go_wp2_with fail
  refine (cut_any _ b q qcap U V hF1 hq hqnil hqcap).mono ?_
  rintro e w2 ⟨v2, rfl, hO2, hk2⟩
  have hP2 := hP1.kept hk2
  have hQ2 := own_pairs hO2
  obtain ⟨a2, c2, rfl, hc2, _⟩ := own_form hO2
  have hK2 := hk1.trans hk2
  obtain ⟨m, hm⟩ : ∃ m, m = min l 31 := ⟨_, rfl⟩
  obtain ⟨n, hn⟩ : ∃ n, n = min q 31 := ⟨_, rfl⟩
  rw [← hm] at hP2 hc1 ⊢
  rw [← hn] at hQ2 hc2 ⊢
  have hm2 : m ≤ 31 := by omega
  have hn2 : n ≤ 31 := by omega
  clear hO2 hF1 hP1 hk1 hk2 hm hn
  go_wp2_with fail
  refine (Hausdorff_any _ m n _ _ X Y U V hP2 hQ2 (by omega) (by omega)).mono ?_
  rintro e w2a ⟨hk2a, hf1, hf2⟩
  have hP2a := hP2.kept hk2a
  have hQ2a := hQ2.kept hk2a
  have hK2a := hK2.trans hk2a
  clear hP2 hQ2 hK2 hk2a
  have hP2 := hP2a
  have hQ2 := hQ2a
  have hK2 := hK2a
  clear hP2a hQ2a hK2a
  by_cases hc0 : code2 0 m X Y n U V = 0
  · obtain rfl := hf1 hc0
    obtain ⟨s0, HT⟩ : ∃ s0, Hid (s0 = haus m X Y n U V) := ⟨_, rfl⟩
    rw [← HT.out]
    clear hf1 hf2
    go_wp2_with fail
    refine (Farthest_any _ m n _ _ X Y U V hP2 hQ2 (by omega) (by omega)).mono ?_
    rintro e w3 ⟨hk3, hr1, hr2⟩
    have hP3 := hP2.kept hk3
    have hQ3 := hQ2.kept hk3
    have hK3 := hK2.trans hk3
    have hO := outs2 hP3 hQ3 22
    have hk4 : Kept w3 (w3.alloc (.cells #[.slice a1 m c1, .slice a2 n c2] 22)) := (Kept.refl w3).alloc _
    clear hP2 hQ2 hk3 hK2
    obtain ⟨h1, h2, h3, h4, _⟩ := code2_ok hc0
    obtain ⟨r1, p1⟩ := formB_in h3
    obtain ⟨r2, p2⟩ := formB_in h4
    obtain ⟨v, rfl, hW3⟩ := hr1 hc0
    have HC0 := Lib.hid hc0
    have HI1 := Lib.hid r1
    have HI2 := Lib.hid r2
    have HW3 := Lib.hid hW3
    clear hW3
    clear hr1 hr2 hc0 h3 h4 r1 r2
    go_wp2_with fail
    refine (Form_any _ _ 2 _ _ _ hO (by omega) (fun i _ => by show (if i = 0 then m else n) ≤ 1000000; split <;> omega)).mono ?_
    rw [checkC2, HC0.out]
    rintro e w5 ⟨rfl, hk5⟩
    have hK5 := (hK3.trans hk4).trans hk5
    have hP5 := hP3.kept (hk4.trans hk5)
    have hQ5 := hQ3.kept (hk4.trans hk5)
    clear hO hP3 hQ3
    go_wp2_with fail
    refine (rhausdorff_any _ m n _ _ X Y U V hP5 hQ5 HI1.out HI2.out p1 p2 (by omega) (by omega)).mono ?_
    rw [← HT.out]
    rintro e w6 ⟨rfl, hk6⟩
    have hP6 := hP5.kept hk6
    have hQ6 := hQ5.kept hk6
    have hW6 := HW3.out.kept ((hk4.trans hk5).trans hk6)
    have HW6 := Lib.hid hW6
    have hK6' := hK5.trans hk6
    clear hP5 hQ5 hW6
    go_wp2_with fail
    refine (rFarthest_any _ m n _ _ X Y U V hP6 hQ6 HI1.out HI2.out p1 p2 (by omega) (by omega)).mono ?_
    rintro e w7 ⟨v7, rfl, hW7, hk7⟩
    have HW7 := Lib.hid hW7
    clear hW7
    go_wp2_with fail
    refine (sameFar _ m n X Y U V _ _ (HW6.out.kept hk7) HW7.out).mono ?_
    rintro e w8 ⟨rfl, hk8⟩
    have hK6 := (hK6'.trans hk7).trans hk8
    go_wp2_with fail
    refine (lives_any _).mono ?_
    rintro e w7 ⟨rfl, hk7⟩
    go_wp2_with fail
    go_ret
    exact ⟨rfl, hK6.trans hk7⟩
  · obtain rfl := hf2 hc0
    clear hf1 hf2
    obtain ⟨cc, HCC⟩ : ∃ cc, Hid (cc = code2 0 m X Y n U V) := ⟨_, rfl⟩
    rw [← HCC.out]
    go_wp2_with fail
    refine (Farthest_any _ m n _ _ X Y U V hP2 hQ2 (by omega) (by omega)).mono ?_
    rintro e w3 ⟨hk3, hr1, hr2⟩
    have hP3 := hP2.kept hk3
    have hQ3 := hQ2.kept hk3
    have hK3 := hK2.trans hk3
    have hO := outs2 hP3 hQ3 22
    have hk4 : Kept w3 (w3.alloc (.cells #[.slice a1 m c1, .slice a2 n c2] 22)) := (Kept.refl w3).alloc _
    clear hP2 hQ2 hk3 hK2
    obtain rfl := hr2 hc0
    rw [← HCC.out] at hc0 ⊢
    have z1 : (cc == 0) = false := by simpa using hc0
    have z2 : (cc != 0) = true := by simpa using hc0
    clear hc0 hr1 hr2
    go_wp2_with fail
    refine (Form_any _ _ 2 _ _ _ hO (by omega) (fun i _ => by show (if i = 0 then m else n) ≤ 1000000; split <;> omega)).mono ?_
    rw [checkC2, ← HCC.out]
    rintro e w5 ⟨rfl, hk5⟩
    have hK5 := (hK3.trans hk4).trans hk5
    go_wp2_with fail
    refine (lives_any _).mono ?_
    rintro e w6 ⟨rfl, hk6⟩
    go_wp2_with fail
    go_ret
    exact ⟨rfl, hK5.trans hk6⟩
end Go.Proofs.Ytfmcjbddbomohaa
