/-
  The reference's Turned, and the law FootTurns: its walk.
-/
import Derived.Test.YtfmcjbddbomohaaBg
import Derived.Test.YtfmcjbddbomohaaLv
namespace Go.Proofs.Ytfmcjbddbomohaa
open Go.RowKit Go.Deep

theorem rst_congr {jn : Int → Int → Int} {F F' : Nat → Nat → Int} {m n : Nat} (h : ∀ i j, i < m → j < n → F i j = F' i j) : ∀ d i j, i < m → j < n → (m - 1 - i) + (n - 1 - j) = d → rst jn F m n i j = rst jn F' m n i j := by
  intro d
  induction d using Nat.strongRecOn with
  | ind d ih =>
    intro i j hi hj hd
    rw [rst_eq hi hj, rst_eq hi hj]
    by_cases hl : i + 1 = m ∧ j + 1 = n
    · rw [if_pos hl, if_pos hl, h i j hi hj]
    · rw [if_neg hl, if_neg hl, h i j hi hj, best3_congr hi hj hl (fun p q hp hq h1 h2 h3 => ih ((m - 1 - p) + (n - 1 - q)) (by omega) p q hp hq rfl)]
theorem fre_congr {m n : Nat} {X Y U V X' Y' U' V' : Nat → Int} (hm : 1 ≤ m) (hn : 1 ≤ n) (h1 : ∀ i, i < m → X i = X' i ∧ Y i = Y' i) (h2 : ∀ j, j < n → U j = U' j ∧ V j = V' j) : fre m X Y n U V = fre m X' Y' n U' V' :=
  rst_congr (fun i j hi hj => by unfold distF; rw [(h1 i hi).1, (h1 i hi).2, (h2 j hj).1, (h2 j hj).2]) _ 0 0 (by omega) (by omega) rfl
theorem rotF_zero {n i : Nat} {U : Nat → Int} (h : i < n) : rotF n 0 U i = U i := by
  unfold rotF catF
  rw [if_pos (by omega)]; rfl
theorem freR_zero {m n : Nat} {X Y U V : Nat → Int} (hm : 1 ≤ m) (hn : 1 ≤ n) : freR m X Y n U V 0 = fre m X Y n U V :=
  fre_congr hm hn (fun _ _ => ⟨rfl, rfl⟩) (fun _ hj => ⟨rotF_zero hj, rotF_zero hj⟩)
def rT (m : Nat) (X Y : Nat → Int) (n : Nat) (U V : Nat → Int) : Nat → Int × Int
  | 0 => (0, -1)
  | k + 1 => if (rT m X Y n U V k).2 < 0 ∨ freR m X Y n U V k < (rT m X Y n U V k).1 then (freR m X Y n U V k, (k : Int)) else rT m X Y n U V k
theorem tnd_succ (m : Nat) (X Y : Nat → Int) (n : Nat) (U V : Nat → Int) (k : Nat) : tnd m X Y n U V (k + 1) = if freR m X Y n U V k < (tnd m X Y n U V k).1 then (freR m X Y n U V k, k) else tnd m X Y n U V k := rfl
theorem rT_succ (m : Nat) (X Y : Nat → Int) (n : Nat) (U V : Nat → Int) (k : Nat) : rT m X Y n U V (k + 1) = if (rT m X Y n U V k).2 < 0 ∨ freR m X Y n U V k < (rT m X Y n U V k).1 then (freR m X Y n U V k, (k : Int)) else rT m X Y n U V k := rfl
theorem rT_tnd {m n : Nat} {X Y U V : Nat → Int} (hm : 1 ≤ m) (hn : 1 ≤ n) (k : Nat) : rT m X Y n U V (k + 1) = ((tnd m X Y n U V (k + 1)).1, ((tnd m X Y n U V (k + 1)).2 : Int)) := by
  induction k with
  | zero =>
    have h := freR_zero (X := X) (Y := Y) (U := U) (V := V) hm hn
    have e0 : (tnd m X Y n U V 0).1 = fre m X Y n U V := rfl
    have e1 : (rT m X Y n U V 0).2 < 0 := (by decide : (-1 : Int) < 0)
    rw [rT_succ, tnd_succ, if_pos (.inl e1), if_neg (by rw [h, e0]; exact Int.lt_irrefl _), h]; rfl
  | succ k ih =>
    rw [rT_succ, ih, tnd_succ m X Y n U V (k + 1)]
    by_cases h : freR m X Y n U V (k + 1) < (tnd m X Y n U V (k + 1)).1
    · rw [if_pos (.inr h), if_pos h]
    · rw [if_neg (by intro h2; rcases h2 with h2 | h2; (simp only at h2; omega); exact h h2), if_neg h]
set_option maxRecDepth 100000 in
set_option maxHeartbeats 4000000 in
theorem refTurned_any (w : World) (m n : Nat) (a1 a2 : Option Addr) (cap1 cap2 : Nat) (X Y U V : Nat → Int) (hA : PairsAt w (.slice a1 m cap1) m X Y) (hB : PairsAt w (.slice a2 n cap2) n U V) (h1 : InR m X Y) (h2 : InR n U V) (hm : 1 ≤ m) (hn : 1 ≤ n) (hm2 : m ≤ 900) (hn2 : n ≤ 900) (hcap2 : n ≤ cap2) :
    Calls Try.prog 31 #[.slice a1 m cap1, .slice a2 n cap2] w fun e w' => e = .returned (.tuple #[.int .i64 (tnd m X Y n U V n).1, .int .i64 (tnd m X Y n U V n).2]) ∧ Kept w w' := by
  have HI1 := Lib.hid h1
  have HI2 := Lib.hid h2
  have hfin : Hid (rT m X Y n U V n = ((tnd m X Y n U V n).1, ((tnd m X Y n U V n).2 : Int))) := by
    have := rT_tnd (X := X) (Y := Y) (U := U) (V := V) hm hn (n - 1)
    rwa [show n - 1 + 1 = n by omega] at this
  clear h1 h2
  go_enter Try.func31, Try.ntmps31
  go_wp2_with fail
  go_loopg [6, 7, 8] n (fun g s6 s7 s8 wr => ∃ k : Nat, k ≤ n ∧ g = n - k ∧ s8 = .int .i64 k ∧ s6 = .int .i64 (rT m X Y n U V k).1 ∧ s7 = .int .i64 (rT m X Y n U V k).2 ∧ Kept w wr)
  case atStart => exact ⟨0, Nat.zero_le _, rfl, rfl, rfl, rfl, Kept.refl _⟩
  case round =>
    obtain ⟨k, hk, rfl, rfl, rfl, rfl, hK⟩ := hrel
    by_cases hlt : k < n
    · have hA4 := hA.kept hK
      have hB4 := hB.kept hK
      have hnext : Hid (rT m X Y n U V (k + 1) = if (rT m X Y n U V k).2 < 0 ∨ freR m X Y n U V k < (rT m X Y n U V k).1 then (freR m X Y n U V k, (k : Int)) else rT m X Y n U V k) := rfl
      obtain ⟨p, HP⟩ : ∃ p, Hid (p = rT m X Y n U V k) := ⟨_, rfl⟩
      rw [← HP.out] at hnext ⊢
      go_wp2_with fail
      refine (begun_any _ a2 n cap2 k U V hB4 hcap2 hlt (by omega)).mono ?_
      rintro e w5 ⟨v5, rfl, hO5, hk5⟩
      obtain ⟨g5, c5, rfl, _⟩ := hO5.form (by omega)
      have hB5 := own_pairs hO5
      have hA5 := hA4.kept hk5
      clear hO5
      go_wp2_with fail
      refine (Rest_max _ m n a1 (some ⟨g5, 0, none⟩) cap1 c5 X Y (rotF n k U) (rotF n k V) hA5 hB5 HI1.out (rot_in hk HI2.out) hm hn hm2 hn2).mono ?_
      rintro e w6 ⟨lb, lcap, br, Z, rfl, hk6, hT, hZ⟩
      have t0 := hT.top 0 (by omega)
      have t1 := hT.at (show 0 < m by omega) (show 0 < n by omega)
      rw [hZ 0 0 (by omega) (by omega)] at t1
      obtain ⟨d, HD⟩ : ∃ d, Hid (d = freR m X Y n U V k) := ⟨_, rfl⟩
      have hv : rstM X Y (rotF n k U) (rotF n k V) m n 0 0 = d := HD.out.symm
      rw [hv] at t1
      rw [← HD.out] at hnext
      have hm0 : 0 < m := hm
      have hn0 : 0 < n := hn
      have hK6 := (hK.trans hk5).trans hk6
      clear hT hZ hv
      by_cases c1 : p.2 < 0
      · have hnn : Hid (rT m X Y n U V (k + 1) = (d, (k : Int))) := by rw [hnext.out]; exact if_pos (.inl c1)
        go_wp2_with fail
        go_roundg (n - (k + 1))
        case measure => omega
        case rel => exact ⟨k + 1, by omega, rfl, by go_num, by rw [hnn.out], by rw [hnn.out], hK6⟩
      · by_cases c2 : d < p.1
        · have hnn : Hid (rT m X Y n U V (k + 1) = (d, (k : Int))) := by rw [hnext.out]; exact if_pos (.inr c2)
          go_wp2_with fail
          go_roundg (n - (k + 1))
          case measure => omega
          case rel => exact ⟨k + 1, by omega, rfl, by go_num, by rw [hnn.out], by rw [hnn.out], hK6⟩
        · have hnn : Hid (rT m X Y n U V (k + 1) = p) := by rw [hnext.out]; exact if_neg (by intro h; rcases h with h | h; exact c1 h; exact c2 h)
          go_wp2_with fail
          go_roundg (n - (k + 1))
          case measure => omega
          case rel => exact ⟨k + 1, by omega, rfl, by go_num, by rw [hnn.out], by rw [hnn.out], hK6⟩
    · obtain rfl : k = n := by omega
      rw [hfin.out]
      go_wp2_with fail
      go_ret2
      exact ⟨rfl, hK⟩
set_option maxRecDepth 100000 in
set_option maxHeartbeats 4000000 in
theorem turns_any (w : World) (a b : Option Addr) (l cap q qcap : Nat) (X Y U V : Nat → Int) (hE : PairsAt w (.slice a l cap) l X Y) (hl : l ≤ cap) (hnil : a = none → cap = 0) (hcap : cap ≤ maxLen)
    (hF : PairsAt w (.slice b q qcap) q U V) (hq : q ≤ qcap) (hqnil : b = none → qcap = 0) (hqcap : qcap ≤ maxLen) :
    Calls Try.prog 7 #[.slice a l cap, .slice b q qcap] w (LivesPost w) := by
  go_enter Try.func7, Try.ntmps7
  go_wp2_with fail
  refine (cut_any _ a l cap X Y hE hl hnil hcap).mono ?_
  rintro e w1 ⟨v1, rfl, hO1, hk1⟩
  have hF1 := hF.kept hk1
  have hP1 := own_pairs hO1
  obtain ⟨a1, c1, rfl, hc1, _⟩ := own_form hO1
  clear hO1 hE hF
  go_wp2_with fail
  refine (cut_any _ b q qcap U V hF1 hq hqnil hqcap).mono ?_
  rintro e w2 ⟨v2, rfl, hO2, hk2⟩
  have hP2 := hP1.kept hk2
  have hQ2 := own_pairs hO2
  obtain ⟨a2, c2, rfl, hc2, _⟩ := own_form hO2
  have hK2 := hk1.trans hk2
  obtain ⟨m, hm⟩ : ∃ m, m = min l 31 := ⟨_, rfl⟩
  obtain ⟨n, hn⟩ : ∃ n, n = min q 31 := ⟨_, rfl⟩
  rw [← hm] at hP2 hc1 ⊢
  rw [← hn] at hQ2 hc2 ⊢
  have hm2 : m ≤ 31 := by omega
  have hn2 : n ≤ 31 := by omega
  clear hO2 hF1 hP1 hk1 hk2 hm hn
  go_wp2_with fail
  refine (Turned_any _ m n a1 a2 c1 c2 X Y U V hP2 hQ2 hc2 (by omega) (by omega)).mono ?_
  rintro e w3 ⟨hk3, hr1, hr2⟩
  have hP3 := hP2.kept hk3
  have hQ3 := hQ2.kept hk3
  have hK3 := hK2.trans hk3
  have hO := outs2 hP3 hQ3 22
  have hk4 : Kept w3 (w3.alloc (.cells #[.slice a1 m c1, .slice a2 n c2] 22)) := (Kept.refl w3).alloc _
  clear hP2 hQ2 hk3 hK2
  by_cases hc0 : code2 0 m X Y n U V = 0
  · obtain ⟨h1, h2, h3, h4, _⟩ := code2_ok hc0
    obtain ⟨r1, p1⟩ := formB_in h3
    obtain ⟨r2, p2⟩ := formB_in h4
    obtain rfl := hr1 hc0
    have HC0 := Lib.hid hc0
    have HI1 := Lib.hid r1
    have HI2 := Lib.hid r2
    obtain ⟨t, HT⟩ : ∃ t, Hid (t = tnd m X Y n U V n) := ⟨_, rfl⟩
    rw [← HT.out]
    clear hr1 hr2 hc0 h3 h4 r1 r2
    go_wp2_with fail
    refine (Form_any _ _ 2 _ _ _ hO (by omega) (fun i _ => by show (if i = 0 then m else n) ≤ 1000000; split <;> omega)).mono ?_
    rw [checkC2, HC0.out]
    rintro e w5 ⟨rfl, hk5⟩
    have hK5 := (hK3.trans hk4).trans hk5
    have hP5 := hP3.kept (hk4.trans hk5)
    have hQ5 := hQ3.kept (hk4.trans hk5)
    clear hO hP3 hQ3
    go_wp2_with fail
    refine (refTurned_any _ m n a1 a2 c1 c2 X Y U V hP5 hQ5 HI1.out HI2.out p1 p2 (by omega) (by omega) hc2).mono ?_
    rw [← HT.out]
    rintro e w6 ⟨rfl, hk6⟩
    have hK6 := hK5.trans hk6
    go_wp2_with fail
    refine (lives_any _).mono ?_
    rintro e w7 ⟨rfl, hk7⟩
    go_wp2_with fail
    go_ret
    exact ⟨rfl, hK6.trans hk7⟩
  · obtain rfl := hr2 hc0
    obtain ⟨cc, HCC⟩ : ∃ cc, Hid (cc = code2 0 m X Y n U V) := ⟨_, rfl⟩
    rw [← HCC.out] at hc0 ⊢
    have z1 : (cc == 0) = false := by simpa using hc0
    have z2 : (cc != 0) = true := by simpa using hc0
    clear hc0 hr1 hr2
    go_wp2_with fail
    refine (Form_any _ _ 2 _ _ _ hO (by omega) (fun i _ => by show (if i = 0 then m else n) ≤ 1000000; split <;> omega)).mono ?_
    rw [checkC2, ← HCC.out]
    rintro e w5 ⟨rfl, hk5⟩
    have hK5 := (hK3.trans hk4).trans hk5
    go_wp2_with fail
    refine (lives_any _).mono ?_
    rintro e w6 ⟨rfl, hk6⟩
    go_wp2_with fail
    go_ret
    exact ⟨rfl, hK5.trans hk6⟩
end Go.Proofs.Ytfmcjbddbomohaa
