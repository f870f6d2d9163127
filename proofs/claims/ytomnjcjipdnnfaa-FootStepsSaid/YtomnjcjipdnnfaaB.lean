/-
  Outlines: Hausdorff's distance, and what is checked of outlines; the program's functions.
-/
import Derived.Test.YtomnjcjipdnnfaaA
namespace Go.Proofs.Ytomnjcjipdnnfaa
open Go.RowKit Go.Deep

/-- the greatest of c and the distances of the first k points to the nearest of n others -/
def farF (c : Int) (X Y U V : Nat → Int) (n : Nat) : Nat → Int
  | 0 => c
  | k + 1 => max (farF c X Y U V n k) (nearI (X k) (Y k) U V n)
def haus (m : Nat) (X Y : Nat → Int) (n : Nat) (U V : Nat → Int) : Int := farF (farF 0 X Y U V n m) U V X Y m n
theorem farF_bd {c : Int} {X Y U V : Nat → Int} {m n : Nat} (hc : 0 ≤ c ∧ c ≤ 8000000) (h1 : InR m X Y) (h2 : InR n U V) (hn : 1 ≤ n) (k : Nat) (hk : k ≤ m) : 0 ≤ farF c X Y U V n k ∧ farF c X Y U V n k ≤ 8000000 := by
  induction k with
  | zero => exact hc
  | succ k ih =>
    have a := ih (by omega)
    have b := nearI_bd (h1 k (by omega)).1 (h1 k (by omega)).2 h2 hn n (Nat.le_refl _)
    simp only [farF]
    omega
theorem haus_bd {X Y U V : Nat → Int} {m n : Nat} (h1 : InR m X Y) (h2 : InR n U V) (hm : 1 ≤ m) (hn : 1 ≤ n) : 0 ≤ haus m X Y n U V ∧ haus m X Y n U V ≤ 8000000 :=
  farF_bd (farF_bd (by omega) h1 h2 hn m (Nat.le_refl _)) h2 h1 hm n (Nat.le_refl _)

set_option maxRecDepth 100000 in
set_option maxHeartbeats 2000000 in
theorem hausdorff_any (w : World) (m n : Nat) (av bv : Value) (X Y U V : Nat → Int) (hA : PairsAt w av m X Y) (hB : PairsAt w bv n U V) (h1 : InR m X Y) (h2 : InR n U V) (hm : 1 ≤ m) (hn : 1 ≤ n) (hm2 : m ≤ 1000000) (hn2 : n ≤ 1000000) :
    Calls Try.prog 46 #[av, bv] w fun e w' => e = .returned (.int .i64 (haus m X Y n U V)) ∧ Kept w w' := by
  have hA' := hA
  have hB' := hB
  obtain ⟨a1, b1, o1, cap1, rfl, ha1, hc1⟩ := hA
  obtain ⟨a2, b2, o2, cap2, rfl, ha2, hc2⟩ := hB
  obtain rfl := ha1 (by omega)
  obtain rfl := ha2 (by omega)
  have HC1 := Lib.hid hc1
  have HC2 := Lib.hid hc2
  have HR1 := Lib.hid h1
  have HR2 := Lib.hid h2
  have HZ : Hid (farF 0 X Y U V n 0 = 0) := rfl
  clear hc1 hc2 ha1 ha2 h1 h2
  go_enter Try.func46, Try.ntmps46
  go_wp2_with fail
  go_loopg [5, 12] m (fun g s5 s12 wr => ∃ k : Nat, k ≤ m ∧ g = m - k ∧ s12 = .int .i64 k ∧ s5 = .int .i64 (farF 0 X Y U V n k) ∧ Kept w wr)
  case atStart => exact ⟨0, Nat.zero_le _, rfl, rfl, rfl, Kept.refl _⟩
  case round =>
    obtain ⟨k, hk, rfl, rfl, rfl, hK⟩ := hrel
    by_cases hlt : k < m
    · obtain ⟨c0, c1⟩ := HC1.out k hlt
      have t0 := hK.cellSome c0
      have t1 := hK.cellSome c1
      have hu := HR1.out k hlt
      have hn1 : Hid (farF 0 X Y U V n (k + 1) = max (farF 0 X Y U V n k) (nearI (X k) (Y k) U V n)) := rfl
      obtain ⟨q, HQ⟩ : ∃ q, Hid (q = farF 0 X Y U V n k) := ⟨_, rfl⟩
      obtain ⟨dd, HDD⟩ : ∃ dd, Hid (dd = nearI (X k) (Y k) U V n) := ⟨_, rfl⟩
      rw [← HQ.out]
      have hkB := (Kept.refl wr).alloc (.cells #[.int .i64 (X k), .int .i64 (Y k)] 78)
      clear c0 c1
      go_wp2_with fail
      refine (nearest_any _ (X k) (Y k) n _ U V hu.1 hu.2 (hB'.kept (hK.trans hkB)) HR2.out hn hn2).mono ?_
      rw [← HDD.out]
      rintro e w3 ⟨rfl, hk3⟩
      have hK3 : Kept w w3 := (hK.trans hkB).trans hk3
      go_wp2_with fail
      all_goals
        go_roundg (m - (k + 1))
        case measure => omega
        case rel => exact ⟨k + 1, by omega, rfl, by go_num, by (rw [hn1.out, ← HQ.out, ← HDD.out]; first | rfl | (congr 1; omega)), hK3⟩
    · obtain rfl : k = m := by omega
      obtain ⟨q, HQ⟩ : ∃ q, Hid (q = farF 0 X Y U V n k) := ⟨_, rfl⟩
      rw [← HQ.out]
      go_wp2_with fail
      obtain ⟨Wo, rfl⟩ : ∃ Wo : World, Wo = wr := ⟨_, rfl⟩
      go_loopg [5, 24] n (fun g s5 s24 wi => ∃ t : Nat, t ≤ n ∧ g = n - t ∧ s24 = .int .i64 t ∧ s5 = .int .i64 (farF q U V X Y k t) ∧ Kept w wi)
      case atStart => exact ⟨0, Nat.zero_le _, rfl, rfl, rfl, hK⟩
      case round =>
        clear hK
        obtain ⟨t, ht, rfl, rfl, rfl, hK⟩ := hrel
        by_cases hlt2 : t < n
        · obtain ⟨c0, c1⟩ := HC2.out t hlt2
          have t0 := hK.cellSome c0
          have t1 := hK.cellSome c1
          have hu := HR2.out t hlt2
          have hn1 : Hid (farF q U V X Y k (t + 1) = max (farF q U V X Y k t) (nearI (U t) (V t) X Y k)) := rfl
          obtain ⟨p, HP⟩ : ∃ p, Hid (p = farF q U V X Y k t) := ⟨_, rfl⟩
          obtain ⟨dd, HDD⟩ : ∃ dd, Hid (dd = nearI (U t) (V t) X Y k) := ⟨_, rfl⟩
          rw [← HP.out]
          have hkB := (Kept.refl wr).alloc (.cells #[.int .i64 (U t), .int .i64 (V t)] 78)
          clear c0 c1
          go_wp2_with fail
          refine (nearest_any _ (U t) (V t) k _ X Y hu.1 hu.2 (hA'.kept (hK.trans hkB)) HR1.out hm hm2).mono ?_
          rw [← HDD.out]
          rintro e w3 ⟨rfl, hk3⟩
          have hK3 : Kept w w3 := (hK.trans hkB).trans hk3
          go_wp2_with fail
          all_goals
            go_roundg (n - (t + 1))
            case measure => omega
            case rel => exact ⟨t + 1, by omega, rfl, by go_num, by (rw [hn1.out, ← HP.out, ← HDD.out]; first | rfl | (congr 1; omega)), hK3⟩
        · obtain rfl : t = n := by omega
          go_wp2_with fail
          go_ret
          exact ⟨ret_int (by unfold haus; rw [← HQ.out]), hK⟩

def placeB (x : Int) : Bool := decide (-1000 ≤ x) && decide (x ≤ 1000)
theorem placeB_pl {x : Int} (h : placeB x = true) : pl x := by simpa [placeB, pl] using h
def formB (n : Nat) (X Y : Nat → Int) : Bool := allN (fun i => placeB (X i) && placeB (Y i)) n && decide (0 < n)
theorem formB_in {n : Nat} {X Y : Nat → Int} (h : formB n X Y = true) : InR n X Y ∧ 1 ≤ n := by
  simp only [formB, Bool.and_eq_true, decide_eq_true_eq] at h
  refine ⟨fun i hi => ?_, h.2⟩
  have := allN_true.1 h.1 i hi
  rw [Bool.and_eq_true] at this
  exact ⟨placeB_pl this.1, placeB_pl this.2⟩
theorem placed_at (w : World) (x : Int) (r : Bool) (hr : placeB x = r) : Calls Try.prog 91 #[.int .i64 x] w fun e w' => e = .returned (.bool r) ∧ w = w' := by
  by_cases h1 : -1000 ≤ x
  · by_cases h2 : x ≤ 1000
    · have : r = true := by rw [← hr]; unfold placeB; simp [h1, h2]
      subst this
      clear hr
      go_enter Try.func91, Try.ntmps91
      go_wp2
      go_ret
      exact ⟨ret_bool (by simp <;> omega), rfl⟩
    · have : r = false := by rw [← hr]; unfold placeB; simp [h2]
      subst this
      clear hr
      go_enter Try.func91, Try.ntmps91
      go_wp2
      go_ret
      exact ⟨ret_bool (by simp <;> omega), rfl⟩
  · have : r = false := by rw [← hr]; unfold placeB; simp [h1]
    subst this
    clear hr
    go_enter Try.func91, Try.ntmps91
    go_wp2
    go_ret
    exact ⟨rfl, rfl⟩
set_option maxRecDepth 100000 in
set_option maxHeartbeats 2000000 in
theorem formed_at (w : World) (n : Nat) (av : Value) (X Y : Nat → Int) (hA : PairsAt w av n X Y) (hn2 : n ≤ 1000000) (r : Bool) (hr : formB n X Y = r) :
    Calls Try.prog 70 #[av] w fun e w' => e = .returned (.bool r) ∧ Kept w w' := by
  obtain ⟨a1, b1, o1, cap1, rfl, ha1, hc1⟩ := hA
  have HC1 := Lib.hid hc1
  have HR := Lib.hid hr
  clear hc1 hr
  go_enter Try.func70, Try.ntmps70
  go_wp2_with fail
  go_loopg [7] n (fun g s7 wr => ∃ k : Nat, k ≤ n ∧ g = n - k ∧ s7 = .int .i64 k ∧ Hid (allN (fun i => placeB (X i) && placeB (Y i)) k = true) ∧ Kept w wr)
  case atStart => exact ⟨0, Nat.zero_le _, rfl, rfl, rfl, Kept.refl _⟩
  case round =>
    obtain ⟨k, hk, rfl, rfl, hH, hK⟩ := hrel
    by_cases hlt : k < n
    · obtain rfl := ha1 (by omega)
      obtain ⟨c0, c1⟩ := HC1.out k hlt
      have t0 := hK.cellSome c0
      have t1 := hK.cellSome c1
      have hkB := (Kept.refl wr).alloc (.cells #[.int .i64 (X k), .int .i64 (Y k)] 78)
      obtain ⟨q0, q1⟩ := box2 wr (.int .i64 (X k)) (.int .i64 (Y k)) 78
      clear c0 c1
      cases e1 : placeB (X k)
      · have hf : r = false := by
          rw [← HR.out]; unfold formB
          rw [allN_false (p := fun i => placeB (X i) && placeB (Y i)) hlt (by show (placeB (X k) && placeB (Y k)) = false; rw [e1]; rfl)]; rfl
        subst hf
        clear HR
        go_wp2_with fail
        refine (placed_at _ (X k) false e1).mono ?_
        rintro e w3 ⟨rfl, rfl⟩
        go_wp2_with fail
        go_ret
        exact ⟨rfl, hK.trans hkB⟩
      · cases e2 : placeB (Y k)
        · have hf : r = false := by
            rw [← HR.out]; unfold formB
            rw [allN_false (p := fun i => placeB (X i) && placeB (Y i)) hlt (by show (placeB (X k) && placeB (Y k)) = false; rw [e2, Bool.and_false])]; rfl
          subst hf
          clear HR
          go_wp2_with fail
          refine (placed_at _ (X k) true e1).mono ?_
          rintro e w3 ⟨rfl, rfl⟩
          go_wp2_with fail
          refine (placed_at _ (Y k) false e2).mono ?_
          rintro e w3 ⟨rfl, rfl⟩
          go_wp2_with fail
          go_ret
          exact ⟨rfl, hK.trans hkB⟩
        · go_wp2_with fail
          refine (placed_at _ (X k) true e1).mono ?_
          rintro e w3 ⟨rfl, rfl⟩
          go_wp2_with fail
          refine (placed_at _ (Y k) true e2).mono ?_
          rintro e w3 ⟨rfl, rfl⟩
          go_wp2_with fail
          go_roundg (n - (k + 1))
          case measure => omega
          case rel => exact ⟨k + 1, by omega, rfl, by go_num, allN_step hH.out (by rw [e1, e2]; rfl), hK.trans hkB⟩
    · obtain rfl : k = n := by omega
      have hrr : Hid (r = decide (0 < k)) := by
        show _ = _
        rw [← HR.out]; unfold formB; rw [hH.out, Bool.true_and]
      clear HR
      go_wp2_with fail
      go_ret
      exact ⟨ret_bool hrr.out.symm, hK⟩
end Go.Proofs.Ytomnjcjipdnnfaa
