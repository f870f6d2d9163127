/-
  The reference's IsLow: are heaps superstable.
-/
import Derived.Test.YtlnpipkhofhlnaaR
import Derived.Test.YtlnpipkhofhlnaaLd
import Derived.Deep.QuietTactic
import Derived.BigQuiet
namespace Go.Proofs.Ytlnpipkhofhlnaa
open Go.RowKit Go.Deep

def bitB (s j : Nat) : Bool := s / 2 ^ j % 2 == 1
def lossW (D : Nat → Nat) (J : Nat → Nat → Nat) (s v w : Nat) : Int := if bitB s w then (if w = v then -(D (v + 1) : Int) else (J (v + 1) (w + 1) : Int)) else 0
def leftI (D : Nat → Nat) (J : Nat → Nat → Nat) (f : Nat → Int) (s v k : Nat) : Int := f v + sumZ (fun w => lossW D J s v w) k
def belowB (D : Nat → Nat) (J : Nat → Nat → Nat) (f : Nat → Int) (N s k : Nat) : Bool := !allN (fun v => !decide (leftI D J f s v N < 0)) k
def isLowB (A B : Nat → Int) (m N : Nat) (f : Nat → Int) : Bool := allN (fun i => decide (0 ≤ f i)) N && (allN (fun t => belowB (degN A B m) (btwN A B m) f N (t + 1) N) (2 ^ N - 1) && allN (fun i => decide (f i < deg A B m ((i : Int) + 1))) N)
theorem lossW_bd {A B : Nat → Int} {m : Nat} (hm : m ≤ 20) (s v w : Nat) : -20 ≤ lossW (degN A B m) (btwN A B m) s v w ∧ lossW (degN A B m) (btwN A B m) s v w ≤ 20 := by
  have h1 : degN A B m (v + 1) ≤ m := cnt_le _ _
  have h2 : btwN A B m (v + 1) (w + 1) ≤ m := cnt_le _ _
  unfold lossW
  split
  · split <;> omega
  · omega
theorem left_bd {A B : Nat → Int} {m : Nat} {f : Nat → Int} {s v : Nat} (hm : m ≤ 20) (hf : -2000 ≤ f v ∧ f v ≤ 2000) : ∀ k : Nat, k ≤ 7 → -2000 - 20 * (k : Int) ≤ leftI (degN A B m) (btwN A B m) f s v k ∧ leftI (degN A B m) (btwN A B m) f s v k ≤ 2000 + 20 * (k : Int) := by
  intro k
  induction k with
  | zero => intro _; simp [leftI, sumZ]; omega
  | succ k ih =>
    intro hk
    have h1 := ih (by omega)
    have h2 := lossW_bd (A := A) (B := B) hm s v k
    unfold leftI at h1 ⊢
    simp only [sumZ]
    omega

theorem lossW_self {D : Nat → Nat} {J : Nat → Nat → Nat} {s v : Nat} (h : 1 = s / 2 ^ v % 2) : lossW D J s v v = -(D (v + 1) : Int) := by unfold lossW bitB; rw [← h]; simp
theorem lossW_other {D : Nat → Nat} {J : Nat → Nat → Nat} {s v u : Nat} (h : 1 = s / 2 ^ u % 2) (hne : ¬ u = v) : lossW D J s v u = (J (v + 1) (u + 1) : Int) := by unfold lossW bitB; rw [← h]; simp [hne]
theorem lossW_none {D : Nat → Nat} {J : Nat → Nat → Nat} {s v u : Nat} (h : 0 = s / 2 ^ u % 2) : lossW D J s v u = 0 := by unfold lossW bitB; rw [← h]; simp
theorem below_step (D : Nat → Nat) (J : Nat → Nat → Nat) (f : Nat → Int) (N s k : Nat) : belowB D J f N s (k + 1) = (belowB D J f N s k || decide (leftI D J f s k N < 0)) := by
  unfold belowB
  simp only [allN, Bool.not_and, Bool.not_not]

set_option maxRecDepth 100000 in
set_option maxHeartbeats 8000000 in
theorem isLow_any (w : World) (ev lv : Value) (N m : Nat) (A B f : Nat → Int) (hE : PairsAt w ev m A B) (hL : IntsAt w lv N f) (hN : 1 ≤ N) (hN7 : N ≤ 7) (hm : m ≤ 20) (hb : ∀ i, i < N → -2000 ≤ f i ∧ f i ≤ 2000) :
    Calls Try.prog 30 #[.int .i64 ((N : Int) + 1), ev, lv] w fun e w' => e = .returned (.bool (isLowB A B m N f)) ∧ Quiet w w' := by
  have hLL := hL
  obtain ⟨a, b, o, cap, rfl, ha, hc⟩ := hL
  obtain rfl := ha (by omega)
  have HC := Lib.hid hc
  have HB := Lib.hid hb
  have h2 : 2 ^ N ≤ 128 := Nat.pow_le_pow_right (n := 2) (by omega) hN7
  have h4 : 2 ^ 1 ≤ 2 ^ N := Nat.pow_le_pow_right (n := 2) (by omega) hN
  have h3 : wrap64 ((2 : Int) ^ N) = ((2 ^ N : Nat) : Int) := by
    have h : N = 0 ∨ N = 1 ∨ N = 2 ∨ N = 3 ∨ N = 4 ∨ N = 5 ∨ N = 6 ∨ N = 7 := by omega
    rcases h with rfl | rfl | rfl | rfl | rfl | rfl | rfl | rfl <;> (rw [IntWalk.wrap64_in _ (by omega)]; rfl)
  obtain ⟨S, HS⟩ : ∃ S : Nat, Hid (S = 2 ^ N) := ⟨2 ^ N, rfl⟩
  rw [← HS.out] at h2 h3 h4
  clear hc ha hb
  go_enter Try.func30, Try.ntmps30
  go_wp2_with fail
  go_loopg [7] N (fun g i wr => ∃ k : Nat, k ≤ N ∧ g = N - k ∧ i = .int .i64 k ∧ Hid (allN (fun i => decide (0 ≤ f i)) k = true) ∧ Quiet w wr)
  case atStart => exact ⟨0, Nat.zero_le _, rfl, rfl, rfl, Quiet.refl _⟩
  case round =>
    obtain ⟨k, hk, rfl, rfl, hH, hq⟩ := hrel
    by_cases hlt : k < N
    · have t1 := hq.kept.cellSome (HC.out k hlt)
      have s1 : (k : Int) < (N : Int) := by omega
      have s2 : (0 : Int) ≤ (k : Int) := by omega
      by_cases e1 : f k < 0
      · go_wp2_with fail
        go_ret
        exact ⟨ret_bool (by unfold isLowB; rw [allN_false hlt (decide_eq_false (by omega))]; rfl), hq⟩
      · go_wp2_with fail
        go_roundg (N - (k + 1))
        case measure => omega
        case rel => exact ⟨k + 1, by omega, rfl, by go_num, allN_step hH.out (decide_eq_true (by omega)), hq⟩
    · obtain rfl : k = N := by omega
      have hq0 := hq
      clear hq hlt hk
      go_wp2_with fail
      go_loopg [8] (S - 1) (fun g s8 wr => ∃ t : Nat, t ≤ S - 1 ∧ g = S - 1 - t ∧ s8 = .int .i64 ((t : Int) + 1) ∧ Hid (allN (fun t => belowB (degN A B m) (btwN A B m) f k (t + 1) k) t = true) ∧ Quiet w wr)
      case atStart => exact ⟨0, Nat.zero_le _, rfl, rfl, rfl, hq0⟩
      case round =>
        obtain ⟨t, htS, rfl, rfl, hT, hq1⟩ := hrel
        clear hq0
        by_cases hlt : t < S - 1
        · have s1 : (t : Int) + 1 < (S : Int) := by omega
          go_wp2_with fail
          (try rw [h3])
          go_loopg [9, 10] k (fun g s9 s10 wr => ∃ v : Nat, v ≤ k ∧ g = k - v ∧ s9 = .bool (belowB (degN A B m) (btwN A B m) f k (t + 1) v) ∧ s10 = .int .i64 ((v : Int) + 1) ∧ Quiet w wr)
          case atStart => exact ⟨0, Nat.zero_le _, rfl, rfl, rfl, hq1⟩
          case round =>
            obtain ⟨v, hvk, rfl, rfl, rfl, hq2⟩ := hrel
            clear hq1
            by_cases hlv : v < k
            · have t1 := hq2.kept.cellSome (HC.out v hlv)
              have hfv := HB.out v hlv
              have s2 : (v : Int) < (k : Int) := by omega
              have s3 : (0 : Int) ≤ (v : Int) := by omega
              have hbv := bit_of (t + 1) v
              have hbd := fun u (hu : u ≤ k) => left_bd (A := A) (B := B) (f := f) (s := t + 1) (v := v) hm hfv u (by omega)
              have HBD := Lib.hid hbd
              obtain ⟨tv, HTV⟩ : ∃ tv, Hid (tv = (t + 1) / 2 ^ v % 2) := ⟨_, rfl⟩
              rw [← HTV.out] at hbv
              have hbv2 : bits .and .i64 (((t : Int) + 1) / 2 ^ v) 1 = (tv : Int) := hbv
              obtain ⟨dv, HDV⟩ : ∃ dv, Hid (dv = deg A B m ((v : Int) + 1)) := ⟨_, rfl⟩
              have hdv : dv ≤ 20 := by rw [HDV.out]; exact Nat.le_trans (deg_le _ _ _ _) hm
              clear hfv hbd hbv
              go_wp2_with fail
              go_loopg [11, 12] k (fun g s11 s12 wr => ∃ u : Nat, u ≤ k ∧ g = k - u ∧ s11 = .int .i64 (leftI (degN A B m) (btwN A B m) f (t + 1) v u) ∧ s12 = .int .i64 ((u : Int) + 1) ∧ Quiet w wr)
              case atStart => exact ⟨0, Nat.zero_le _, rfl, by simp [leftI, sumZ], rfl, hq2⟩
              case round =>
                obtain ⟨u, huk, rfl, rfl, rfl, hq3⟩ := hrel
                clear hq2
                by_cases hlu : u < k
                · have hE3 := hE.kept hq3.kept
                  have hbd := HBD.out u huk
                  have hst : leftI (degN A B m) (btwN A B m) f (t + 1) v (u + 1) = leftI (degN A B m) (btwN A B m) f (t + 1) v u + lossW (degN A B m) (btwN A B m) (t + 1) v u := by unfold leftI; simp only [sumZ]; omega
                  obtain ⟨L, HL⟩ : ∃ L, Hid (L = leftI (degN A B m) (btwN A B m) f (t + 1) v u) := ⟨_, rfl⟩
                  rw [← HL.out] at hbd hst ⊢
                  have HST := Lib.hid hst
                  have s4 : (u : Int) < (k : Int) := by omega
                  have s5 : (0 : Int) ≤ (u : Int) := by omega
                  have hbu := bit_of (t + 1) u
                  obtain ⟨tu, HTU⟩ : ∃ tu, Hid (tu = (t + 1) / 2 ^ u % 2) := ⟨_, rfl⟩
                  rw [← HTU.out] at hbu
                  have hbu2 : bits .and .i64 (((t : Int) + 1) / 2 ^ u) 1 = (tu : Int) := hbu
                  have hk7 : (k : Int) ≤ 7 := by omega
                  clear hst hbu
                  by_cases e1 : u = v
                  · subst e1
                    have e9 : tv = tu := by rw [HTV.out, HTU.out]
                    subst e9
                    by_cases e2 : tv = 1
                    · subst e2
                      have hdeg := degree_any wr ev m A B ((u : Int) + 1) hE3 (by omega)
                      rw [← HDV.out] at hdeg
                      go_wp2_with fail
                      refine hdeg.mono ?_
                      rintro e w' ⟨rfl, rfl⟩
                      go_wp2_with fail
                      go_roundg (k - (u + 1))
                      case measure => omega
                      case rel => exact ⟨u + 1, by omega, rfl, by rw [HST.out, lossW_self HTU.out]; show Value.int .i64 (L - dv) = .int .i64 (L + -((deg A B m ((u : Int) + 1) : Nat) : Int)); rw [← HDV.out]; rfl, by go_num, hq3⟩
                    · have e3 : tv = 0 := by have := Nat.mod_lt ((t + 1) / 2 ^ u) (show 0 < 2 by omega); rw [← HTU.out] at this; omega
                      subst e3
                      go_wp2_with fail
                      go_roundg (k - (u + 1))
                      case measure => omega
                      case rel => exact ⟨u + 1, by omega, rfl, by rw [HST.out, lossW_none HTU.out, Int.add_zero], by go_num, hq3⟩
                  · have e1' : ¬ (u : Int) = (v : Int) := by omega
                    by_cases e2 : tu = 1
                    · subst e2
                      obtain ⟨bv, HBV⟩ : ∃ bv, Hid (bv = btw A B m ((v : Int) + 1) ((u : Int) + 1)) := ⟨_, rfl⟩
                      have hbv3 : bv ≤ 20 := by rw [HBV.out]; exact Nat.le_trans (btw_le _ _ _ _ _) hm
                      have hbtw := between_any wr ev m A B ((v : Int) + 1) ((u : Int) + 1) hE3 (by omega)
                      rw [← HBV.out] at hbtw
                      go_wp2_with fail
                      refine hbtw.mono ?_
                      rintro e w' ⟨rfl, rfl⟩
                      have hqq := hq3
                      go_wp2_with fail
                      go_roundg (k - (u + 1))
                      case measure => omega
                      case rel => exact ⟨u + 1, by omega, rfl, by rw [HST.out, lossW_other HTU.out e1]; show Value.int .i64 (L + bv) = .int .i64 (L + ((btw A B m ((v : Int) + 1) ((u : Int) + 1) : Nat) : Int)); rw [← HBV.out], by go_num, hqq⟩
                    · have e3 : tu = 0 := by have := Nat.mod_lt ((t + 1) / 2 ^ u) (show 0 < 2 by omega); rw [← HTU.out] at this; omega
                      subst e3
                      go_wp2_with fail
                      go_roundg (k - (u + 1))
                      case measure => omega
                      case rel => exact ⟨u + 1, by omega, rfl, by rw [HST.out, lossW_none HTU.out, Int.add_zero], by go_num, hq3⟩
                · obtain rfl : u = k := by omega
                  have hbs := below_step (degN A B m) (btwN A B m) f u (t + 1) v
                  obtain ⟨L, HL⟩ : ∃ L, Hid (L = leftI (degN A B m) (btwN A B m) f (t + 1) v u) := ⟨_, rfl⟩
                  obtain ⟨bb, HBB⟩ : ∃ bb, Hid (bb = belowB (degN A B m) (btwN A B m) f u (t + 1) v) := ⟨_, rfl⟩
                  rw [← HL.out, ← HBB.out] at hbs
                  rw [← HL.out, ← HBB.out]
                  have HBS := Lib.hid hbs
                  clear hbs
                  cases bb
                  · by_cases e1 : L < 0
                    · go_wp2_with fail
                      go_roundg (u - (v + 1))
                      case measure => omega
                      case rel => exact ⟨v + 1, by omega, rfl, by rw [HBS.out, decide_eq_true e1]; rfl, by go_num, hq3⟩
                    · go_wp2_with fail
                      go_roundg (u - (v + 1))
                      case measure => omega
                      case rel => exact ⟨v + 1, by omega, rfl, by rw [HBS.out, decide_eq_false (Int.not_lt.2 (by omega))]; rfl, by go_num, hq3⟩
                  · go_wp2_with fail
                    go_roundg (u - (v + 1))
                    case measure => omega
                    case rel => exact ⟨v + 1, by omega, rfl, by rw [HBS.out]; rfl, by go_num, hq3⟩
            · obtain rfl : v = k := by omega
              obtain ⟨bb, HBB⟩ : ∃ bb, Hid (bb = belowB (degN A B m) (btwN A B m) f v (t + 1) v) := ⟨_, rfl⟩
              rw [← HBB.out]
              cases bb
              · go_wp2_with fail
                go_ret
                exact ⟨ret_bool (by unfold isLowB; rw [allN_false (p := fun t => belowB (degN A B m) (btwN A B m) f v (t + 1) v) (k := t) (by rw [← HS.out]; exact hlt) HBB.out.symm]; simp), hq2⟩
              · go_wp2_with fail
                go_roundg (S - 1 - (t + 1))
                case measure => omega
                case rel => exact ⟨t + 1, by omega, rfl, by go_num, allN_step hT.out HBB.out.symm, hq2⟩
        · obtain rfl : t = S - 1 := by omega
          have hE1 := hE.kept hq1.kept
          have hL1 := hLL.kept hq1.kept
          have e1 : ((S - 1 : Nat) : Int) + 1 = (S : Int) := by omega
          have s1 : ¬ (((S - 1 : Nat) : Int) + 1 < (S : Int)) := by omega
          go_wp2_with fail
          refine (settled_any wr ev _ m A B k f hE1 hL1 (by omega) (by omega)).mono ?_
          rintro e w' ⟨rfl, hq5⟩
          go_wp2_with fail
          go_ret
          obtain ⟨n1, rfl⟩ := hq1
          obtain ⟨n2, rfl⟩ := hq5
          exact ⟨ret_bool (by unfold isLowB; rw [← HS.out, hT.out, hH.out]; rfl), n1 + n2, by simp⟩
end Go.Proofs.Ytlnpipkhofhlnaa
