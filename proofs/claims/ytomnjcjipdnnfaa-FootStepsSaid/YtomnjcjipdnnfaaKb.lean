/-
  Turned, as the package exports it.
-/
import Derived.Test.YtomnjcjipdnnfaaK
namespace Go.Proofs.Ytomnjcjipdnnfaa
open Go.RowKit Go.Deep

def freR (m : Nat) (X Y : Nat → Int) (n : Nat) (U V : Nat → Int) (k : Nat) : Int := fre m X Y n (rotF n k U) (rotF n k V)
/-- the least distance so far, and where it begins -/
def tnd (m : Nat) (X Y : Nat → Int) (n : Nat) (U V : Nat → Int) : Nat → Int × Nat
  | 0 => (fre m X Y n U V, 0)
  | k + 1 => if freR m X Y n U V k < (tnd m X Y n U V k).1 then (freR m X Y n U V k, k) else tnd m X Y n U V k
theorem own_pairs {w : World} {base : Nat} {v : Value} {n : Nat} {X Y : Nat → Int} {t : TypeId} (h : w.ownsRow base t 2 v n (pairs X Y n)) : PairsAt w v n X Y := by
  obtain ⟨a, cap, rfl, _, _, _, h5⟩ := own_form h
  by_cases h0 : n = 0
  · subst h0
    exact ⟨_, 0, 0, _, rfl, fun h => absurd h (by omega), fun i hi => absurd hi (by omega)⟩
  · obtain ⟨g, rfl, _⟩ := h5 (by omega)
    exact pairs_own h
def TurnedFn (w : World) (m : Nat) (X Y : Nat → Int) (n : Nat) (U V : Nat → Int) (e : Ending) (w' : World) : Prop :=
  Kept w w' ∧ (code2 0 m X Y n U V = 0 → e = .returned (.tuple #[.int .i64 (tnd m X Y n U V n).1, .int .i64 (tnd m X Y n U V n).2, .int .i64 0])) ∧ (code2 0 m X Y n U V ≠ 0 → e = .returned (.tuple #[.int .i64 0, .int .i64 0, .int .i64 (code2 0 m X Y n U V)]))
set_option maxRecDepth 100000 in
set_option maxHeartbeats 4000000 in
theorem Turned_any (w : World) (m n : Nat) (a1 a2 : Option Addr) (cap1 cap2 : Nat) (X Y U V : Nat → Int) (hA : PairsAt w (.slice a1 m cap1) m X Y) (hB : PairsAt w (.slice a2 n cap2) n U V) (hcap2 : n ≤ cap2) (hm2 : m ≤ 1000000) (hn2 : n ≤ 1000000) :
    Calls Try.prog 30 #[.slice a1 m cap1, .slice a2 n cap2] w (TurnedFn w m X Y n U V) := by
  have hA' := hA
  have hB' := hB
  have hO := outs2 hA' hB' 22
  have hk0 : Kept w (w.alloc (.cells #[.slice a1 m cap1, .slice a2 n cap2] 22)) := (Kept.refl w).alloc _
  clear hA hB
  go_enter Try.func30, Try.ntmps30
  go_wp2_with fail
  refine (check_any _ 0 _ 2 _ _ _ hO (by omega) (fun i _ => by show (if i = 0 then m else n) ≤ 1000000; split <;> omega)).mono ?_
  rw [checkC2]
  rintro e w1 ⟨rfl, hk1⟩
  have hK1 := hk0.trans hk1
  by_cases hc0 : code2 0 m X Y n U V = 0
  · obtain ⟨h1, h2, h3, h4, _⟩ := code2_ok hc0
    obtain ⟨r1, p1⟩ := formB_in h3
    obtain ⟨r2, p2⟩ := formB_in h4
    have HC0 := Lib.hid hc0
    rw [HC0.out]
    have hA1 := hA'.kept hK1
    have hB1 := hB'.kept hK1
    have HR1 := Lib.hid r1
    have HR2 := Lib.hid r2
    clear hc0 h3 h4 r1 r2
    go_wp2_with fail
    refine (between_any _ a1 a2 m cap1 n cap2).mono ?_
    rintro e w2 ⟨ba, bb, rfl, hk2, hBB⟩
    have hA2 := hA1.kept hk2
    have hB2 := hB1.kept hk2
    have HBB := Lib.hid hBB
    clear hBB
    unfold WalksV FarV
    go_wp2_with fail
    have HF := frechet_any _ m n ba bb a1 a2 cap1 cap2 X Y U V HBB.out hA2 hB2 HR1.out HR2.out p1 p2 (by omega) (by omega)
    unfold WalksV FarV at HF
    refine HF.mono ?_
    rintro e w3 ⟨rfl, hk3⟩
    have hA3 := hA2.kept hk3
    have hB3 := hB2.kept hk3
    have hK3 := (hK1.trans hk2).trans hk3
    clear HF hA2 hB2 hA1 hB1 hk3 hk2 hk1 hK1 hk0 hO hA' hB' HBB
    go_wp2_with fail
    obtain ⟨l0, HL0⟩ : ∃ l0, Hid (l0 = (tnd m X Y n U V 0).1) := ⟨_, rfl⟩
    go_loopg [8, 9, 25] n (fun g s8 s9 s25 wr => ∃ k : Nat, k ≤ n ∧ g = n - k ∧ s25 = .int .i64 k ∧ s8 = .int .i64 (tnd m X Y n U V k).1 ∧ s9 = .int .i64 (tnd m X Y n U V k).2 ∧ Kept w3 wr)
    case atStart => exact ⟨0, Nat.zero_le _, rfl, rfl, rfl, rfl, Kept.refl _⟩
    case round =>
      obtain ⟨k, hk, rfl, rfl, rfl, rfl, hK⟩ := hrel
      by_cases hlt : k < n
      · have hA4 := hA3.kept hK
        have hB4 := hB3.kept hK
        have hnext : Hid (tnd m X Y n U V (k + 1) = if freR m X Y n U V k < (tnd m X Y n U V k).1 then (freR m X Y n U V k, k) else tnd m X Y n U V k) := rfl
        obtain ⟨p, HP⟩ : ∃ p, Hid (p = tnd m X Y n U V k) := ⟨_, rfl⟩
        rw [← HP.out] at hnext ⊢
        go_wp2_with fail
        refine (turned_any _ a2 n cap2 k U V hB4 hcap2 hlt hn2).mono ?_
        rintro e w5 ⟨v5, rfl, hO5, hk5⟩
        obtain ⟨g5, c5, rfl, _⟩ := hO5.form (by omega)
        have hB5 := own_pairs hO5
        have hA5 := hA4.kept hk5
        clear hO5
        go_wp2_with fail
        refine (between_any _ a1 (some ⟨g5, 0, none⟩) m cap1 n c5).mono ?_
        rintro e w6 ⟨ba, bb, rfl, hk6, hBB⟩
        have hA6 := hA5.kept hk6
        have hB6 := hB5.kept hk6
        have HBB := Lib.hid hBB
        clear hBB
        unfold WalksV FarV
        go_wp2_with fail
        have HF := frechet_any _ m n ba bb a1 (some ⟨g5, 0, none⟩) cap1 c5 X Y (rotF n k U) (rotF n k V) HBB.out hA6 hB6 HR1.out (rot_in hk HR2.out) p1 p2 (by omega) (by omega)
        unfold WalksV FarV at HF
        refine HF.mono ?_
        rintro e w7 ⟨rfl, hk7⟩
        have hK7 := ((hK.trans hk5).trans hk6).trans hk7
        obtain ⟨d, HD⟩ : ∃ d, Hid (d = freR m X Y n U V k) := ⟨_, rfl⟩
        have hfd : fre m X Y n (rotF n k U) (rotF n k V) = d := HD.out.symm
        rw [hfd]
        rw [← HD.out] at hnext
        clear HF hfd
        by_cases hlt2 : d < p.1
        · have hnn : Hid (tnd m X Y n U V (k + 1) = (d, k)) := by rw [hnext.out]; exact if_pos hlt2
          go_wp2_with fail
          go_roundg (n - (k + 1))
          case measure => omega
          case rel => exact ⟨k + 1, by omega, rfl, by go_num, by rw [hnn.out], by rw [hnn.out], hK7⟩
        · have hnn : Hid (tnd m X Y n U V (k + 1) = p) := by rw [hnext.out]; exact if_neg hlt2
          go_wp2_with fail
          go_roundg (n - (k + 1))
          case measure => omega
          case rel => exact ⟨k + 1, by omega, rfl, by go_num, by rw [hnn.out], by rw [hnn.out], hK7⟩
      · obtain rfl : k = n := by omega
        go_wp2_with fail
        go_ret3
        exact ⟨hK3.trans hK, (fun _ => rfl), (fun h => absurd HC0.out h)⟩
  · have HC0 := Lib.hid hc0
    obtain ⟨cc, HCC⟩ : ∃ cc, Hid (cc = code2 0 m X Y n U V) := ⟨_, rfl⟩
    rw [← HCC.out] at hc0 ⊢
    have c2 : (cc != 0) = true := by simpa using hc0
    clear hc0
    go_wp2_with fail
    go_ret3
    exact ⟨hK1, (fun h => absurd h HC0.out), (fun _ => by rw [← HCC.out]; rfl)⟩
end Go.Proofs.Ytomnjcjipdnnfaa
