/-
  Rows made of bytes; the reference of gait: Minus, Back.
-/
import Derived.Test.YthigeafojekclaaDoorRb
namespace Go.Proofs.YthigeafojekclaaDoor
open Go.RowKit Go.Deep Go.Shelf

def pmS : ByteArray := ⟨#[43, 45]⟩
theorem pm_bit (b : Bool) : pmS.extract (if b then 1 else 0) (if b then 2 else 1) = rowS 1 (fun _ => b) := by
  cases b <;> decide +kernel
theorem row_snoc (n : Nat) (p : Nat → Bool) : rowS (n + 1) p = rowS n p ++ rowS 1 (fun _ => p n) := by
  rw [rowS_append]
  refine rowS_congr fun i hi => ?_
  by_cases h : i < n
  · rw [if_pos h]
  · rw [if_neg h]; congr 1; omega
theorem row_zero (p : Nat → Bool) : rowS 0 p = ⟨#[]⟩ := rfl
/-- v reads as n bytes -/
def BytesAt (w : World) (v : Value) (n : Nat) (Z : Nat → Nat) : Prop := CellsAt w v n (fun i => .int .u8 ((Z i : Nat) : Int))
def MadePost (w : World) (m : Nat) (Z : Nat → Nat) (n most : Nat) (e : Ending) (w' : World) : Prop :=
  ∃ p, e = .returned (.string (rowS m p)) ∧ Kept w w' ∧ 1 ≤ m ∧ m ≤ max 1 most ∧ (0 < min n most → m = min n most ∧ ∀ i, p i = (Z i % 2 == 1))
set_option maxRecDepth 100000 in
set_option maxHeartbeats 4000000 in
theorem made_any (w : World) (v : Value) (n most : Nat) (Z : Nat → Nat) (hV : BytesAt w v n Z) (hZ : ∀ i, Z i < 256) (hn : n ≤ maxLen) (hm : most ≤ 1000) :
    Calls Tryd.prog 17 #[v, .int .i64 most] w fun e w' => ∃ m, MadePost w m Z n most e w' := by
  obtain ⟨a, b, o, cap, rfl, ha, hc⟩ := hV
  have HC := Lib.hid hc
  have HZ := Lib.hid hZ
  unfold maxLen at hn
  obtain ⟨p, HP⟩ : ∃ p : Nat → Bool, Hid (∀ i, p i = (Z i % 2 == 1)) := ⟨fun i => Z i % 2 == 1, fun _ => rfl⟩
  have hr0 := row_zero p
  clear hc hZ
  go_enter Tryd.func17, Tryd.ntmps17
  go_wp2_with fail
  rw [← hr0]
  go_loopg [5, 6] (min n most) (fun g s5 s6 wr => ∃ i : Nat, i ≤ n ∧ i ≤ most ∧ g = min n most - i ∧ s6 = .int .i64 i ∧ s5 = .string (rowS i p) ∧ Quiet w wr)
  case atStart => exact ⟨0, Nat.zero_le _, Nat.zero_le _, rfl, rfl, rfl, Quiet.refl _⟩
  case round =>
    obtain ⟨i, hi, hi2, rfl, rfl, rfl, hQ⟩ := hrel
    have hsz : (rowS i p).size = i := rowS_size _ _
    by_cases hlt : i < n ∧ i < most
    · obtain ⟨h1, h2⟩ := hlt
      obtain rfl := ha (by omega)
      have t0 := hQ.kept.cellSome (HC.out i h1)
      have s1 : (i : Int) < (n : Int) := by omega
      have s2 : (i : Int) < (most : Int) := by omega
      have s3 : (0 : Int) ≤ (i : Int) := by omega
      have hsn := Lib.hid (row_snoc i p)
      have hpb := Lib.hid (pm_bit (p i))
      have hpi := HP.out i
      obtain ⟨q, HQ⟩ : ∃ q : Nat, Hid (q = Z i % 2) := ⟨_, rfl⟩
      have em : Int.tmod ((Z i : Nat) : Int) 2 = (q : Int) := by rw [HQ.out]; exact (Int.ofNat_tmod (Z i) 2).symm
      have hq2 : q < 2 := by rw [HQ.out]; omega
      rw [← HQ.out] at hpi
      obtain ⟨z, HZI⟩ : ∃ z, z = Z i := ⟨_, rfl⟩
      rw [← HZI] at t0 em
      have hzb := HZ.out i
      rw [← HZI] at hzb
      obtain ⟨b0, HB⟩ : ∃ b0, b0 = p i := ⟨_, rfl⟩
      rw [← HB] at hpb hpi hsn
      have hx := hpb.out
      have hTs : (rowS 1 (fun _ => b0)).size = 1 := rowS_size _ _
      unfold pmS at hx
      have w1 : IntKind.u8.wrap (q : Int) = (q : Int) := IntWalk.u8_in _ (by omega)
      have w2 : IntKind.u8.wrap ((q : Int) + 1) = (q : Int) + 1 := IntWalk.u8_in _ (by omega)
      have s4 : ¬ 9223372036854775807 < i + 1 := by omega
      obtain ⟨R', HR'⟩ : ∃ R', R' = rowS (i + 1) p := ⟨_, rfl⟩
      rw [← HR'] at hsn
      clear HQ HB HZI hpb
      cases b0 with
      | true =>
        obtain rfl : q = 1 := by simpa using hpi.symm
        clear hpi
        simp only [if_true] at hx
        generalize rowS 1 (fun _ => true) = T at *
        generalize rowS i p = R at *
        go_wp2_with fail
        go_quiet (fail)
        go_wp2_with fail
        go_roundg (min n most - (i + 1))
        case measure => omega
        case rel => exact ⟨i + 1, by omega, by omega, rfl, by first | rfl | go_num, by rw [← HR', hsn.out], hQ.drewN _⟩
      | false =>
        obtain rfl : q = 0 := by
          have : q ≠ 1 := fun e => by simp [e] at hpi
          omega
        clear hpi
        simp only [Bool.false_eq_true, if_false] at hx
        generalize rowS 1 (fun _ => false) = T at *
        generalize rowS i p = R at *
        go_wp2_with fail
        go_quiet (fail)
        go_wp2_with fail
        go_roundg (min n most - (i + 1))
        case measure => omega
        case rel => exact ⟨i + 1, by omega, by omega, rfl, by first | rfl | go_num, by rw [← HR', hsn.out], hQ.drewN _⟩
    · have hbad : Hid (i = min n most) := by show _ = _; omega
      have e0 : ¬ ((i : Int) < (n : Int) ∧ (i : Int) < (most : Int)) := by omega
      have hfin : Hid (∀ (q : Nat → Bool) (m : Nat) (w' : World), Quiet w w' → (0 < i → m = i ∧ q = p) → (i = 0 → m = 1) → MadePost w m Z n most (.returned (.string (rowS m q))) w') := fun q m w' hq h1 h2 => by
        refine ⟨q, rfl, hq.kept, ?_, ?_, ?_⟩
        · by_cases h : 0 < i
          · rw [(h1 h).1]; exact h
          · rw [h2 (by omega)]; exact Nat.le_refl _
        · by_cases h : 0 < i
          · rw [(h1 h).1]; omega
          · rw [h2 (by omega)]; omega
        · intro h
          have h3 : 0 < i := by rw [hbad.out]; exact h
          exact ⟨by rw [(h1 h3).1]; exact hbad.out, fun k => by rw [(h1 h3).2]; exact HP.out k⟩
      have hem : (rowS i p).toList.isEmpty = decide (i = 0) := by rw [empty_size, rowS_size]
      by_cases h0 : i = 0
      · rw [decide_eq_true h0] at hem
        have hone : Hid ((⟨#[43]⟩ : ByteArray) = rowS 1 (fun _ => false)) := rfl
        have H0 := Lib.hid h0
        clear h0
        by_cases h1 : i < n
        · have s1 : (i : Int) < (n : Int) := by omega
          have s2 : ¬ (i : Int) < (most : Int) := by omega
          generalize rowS i p = R at *
          go_wp2_with fail
          go_ret
          refine ⟨1, ?_⟩
          have := hfin.out (fun _ => false) 1 wr hQ (fun h => absurd H0.out (by omega)) (fun _ => rfl)
          rw [← hone.out] at this
          exact this
        · have s1 : ¬ (i : Int) < (n : Int) := by omega
          generalize rowS i p = R at *
          go_wp2_with fail
          go_ret
          refine ⟨1, ?_⟩
          have := hfin.out (fun _ => false) 1 wr hQ (fun h => absurd H0.out (by omega)) (fun _ => rfl)
          rw [← hone.out] at this
          exact this
      · rw [decide_eq_false h0] at hem
        have H0 := Lib.hid h0
        have hres := Lib.hid (hfin.out p i wr hQ (fun _ => ⟨rfl, rfl⟩) (fun h => absurd h h0))
        clear h0 hfin
        by_cases h1 : i < n
        · have s1 : (i : Int) < (n : Int) := by omega
          have s2 : ¬ (i : Int) < (most : Int) := by omega
          generalize rowS i p = R at *
          go_wp2_with fail
          go_ret
          exact ⟨i, hres.out⟩
        · have s1 : ¬ (i : Int) < (n : Int) := by omega
          generalize rowS i p = R at *
          go_wp2_with fail
          go_ret
          exact ⟨i, hres.out⟩
end Go.Proofs.YthigeafojekclaaDoor
