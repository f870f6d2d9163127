/-
  GaitBarker.
-/
import Derived.Test.YtcgbfhjefepafaaDoorLv
import Derived.Test.YtcgbfhjefepafaaDoorBp
namespace Go.Proofs.YtcgbfhjefepafaaDoor
open Go.RowKit Go.Deep Go.Shelf

theorem row1_any (w : World) (s : ByteArray) (h : rowC s = 0) : Calls Tryd.prog 19 #[.slice (some ⟨w.heap.size, 0, none⟩) 1 1] (w.alloc (.cells #[.string s] 9)) fun e w' => e = .returned (.int .i64 0) ∧ Kept w w' :=
  (Row_any _ _ 1 (fun _ => s) (strs_one w s) (by omega)).mono fun e w' hh => ⟨by rw [hh.1, rowsC_one, h], ((Kept.refl w).alloc _).trans hh.2.kept⟩
set_option maxRecDepth 100000 in
set_option maxHeartbeats 16000000 in
theorem barkerLaw_any (w : World) (n : Nat) (hn : n < 256) (v : Value) (xn : Nat) (Z : Nat → Nat) (hV : BytesAt w v xn Z) (hZ : ∀ i, Z i < 256) (hxn : xn ≤ maxLen) :
    Calls Tryd.prog 12 #[.int .u8 n, v] w (LivesPost w) := by
  obtain ⟨_, _, _, _, rfl, _, _⟩ := id hV
  obtain ⟨k, HK⟩ : ∃ k, Hid (k = n % 13 + 1) := ⟨_, rfl⟩
  have hk1' : 1 ≤ k := by rw [HK.out]; omega
  have hk13 : k ≤ 13 := by rw [HK.out]; omega
  have em : Int.tmod (n : Int) 13 = (k : Int) - 1 := by
    have : Int.tmod (n : Int) 13 = ((n % 13 : Nat) : Int) := (Int.ofNat_tmod n 13).symm
    rw [this]
    have := HK.out
    omega
  have ek : (k : Int) - 1 + 1 = (k : Int) := by omega
  have hhas := bar_has hk1' hk13
  have BA := Lib.hid (fun W => Barker_any W (k : Int))
  unfold BarAns at BA
  simp only [if_pos (show 1 ≤ (k : Int) ∧ (k : Int) ≤ 13 by omega), Int.toNat_natCast] at BA
  have LV := Lib.hid lives_any
  by_cases h2 : bx k < 2 ^ k
  · simp only [if_pos h2] at BA
    have HB := Lib.hid (fun q => bar_best (bx_is h2) q)
    have MA := Lib.hid (fun (W : World) (hk : Kept w W) => made_any W _ xn k Z (hV.kept hk) hZ hxn (by omega))
    have hSs : (rowN k (bx k)).size = k := rowS_size _ _
    have RW := Lib.hid (fun W => row1_any W (rowN k (bx k)) (rowC_rowS hk1' (by omega)))
    rw [decide_eq_true h2] at hhas
    unfold barHas at hhas
    have hcase : (k = 1) ∨ (2 ≤ k ∧ k ≤ 5) ∨ k = 7 ∨ k = 11 ∨ k = 13 := by
      simp at hhas
      omega
    generalize rowN k (bx k) = S at *
    clear h2 hhas HK hV hZ
    rcases hcase with hc | hc | hc | hc | hc
    · subst hc
      have s0 : (1 : Int) ≤ 5 := by omega
      go_enter Tryd.func12, Tryd.ntmps12
      go_wp2_with (first
        | (go_at_call 27; refine (BA.out _).mono ?_; rintro e w1 ⟨hk1, rfl⟩)
        | (go_at_call 19; refine (RW.out _).mono ?_; rintro e w2 ⟨rfl, hk2⟩)
        | (go_at_call 20; refine (LV.out _).mono ?_; rintro e w3 ⟨rfl, hk3⟩)
        | (go_at_call 54; refine (MA.out _ ((hk1.trans hk2).trans hk3)).mono ?_; rintro e w4 ⟨m, p, rfl, hk4, hm1, hm2, _⟩))
      go_ret
      exact ⟨rfl, (hk1.trans hk2).trans hk3⟩
    · obtain ⟨c1, c2⟩ := hc
      have s0 : (k : Int) ≤ 5 := by omega
      have z1 : ((k : Int) == 1) = false := beq_eq_false_iff_ne.2 (by omega)
      go_enter Tryd.func12, Tryd.ntmps12
      go_wp2_with (first
        | (go_at_call 27; refine (BA.out _).mono ?_; rintro e w1 ⟨hk1, rfl⟩)
        | (go_at_call 19; refine (RW.out _).mono ?_; rintro e w2 ⟨rfl, hk2⟩)
        | (go_at_call 20; refine (LV.out _).mono ?_; rintro e w3 ⟨rfl, hk3⟩)
        | (go_at_call 54; refine (MA.out _ ((hk1.trans hk2).trans hk3)).mono ?_; rintro e w4 ⟨m, p, rfl, hk4, hm1, hm2, _⟩))
      have hmk : m ≤ k := by omega
      have hK4 : Kept w w4 := ((hk1.trans hk2).trans hk3).trans hk4
      clear hk1 hk2 hk3 hk4 hm1 hm2 BA RW LV MA
      go_loopg [9] (k - m) (fun g s9 wr => ∃ (j : Nat) (q : Nat → Bool), m ≤ j ∧ j ≤ k ∧ g + j = k ∧ s9 = .string (rowS j q) ∧ w4 = wr)
      case atStart => exact ⟨m, p, Nat.le_refl _, hmk, by omega, rfl, rfl⟩
      case round =>
        obtain ⟨j, q, hj1, hj, hg, rfl, rfl⟩ := hrel
        have hsz : (rowS j q).size = j := rowS_size _ _
        by_cases hlt : j < k
        · have s1 : (j : Int) < (k : Int) := by omega
          have hsn : Hid (rowS (j + 1) (fun i => if i < j then q i else false) = rowS j q ++ ⟨#[43]⟩) := by
            show _ = _
            rw [row_snoc]
            have h1 : rowS j (fun i => if i < j then q i else false) = rowS j q := rowS_congr fun i hi => by simp [hi]
            have h2 : rowS 1 (fun _ => if j < j then q j else false) = ⟨#[43]⟩ := by simp only [Nat.lt_irrefl, if_false]; rfl
            rw [h1, h2]
          have s4 : ¬ 9223372036854775807 < j + 1 := by omega
          go_wp2_with fail
          go_roundg (k - (j + 1))
          case measure => omega
          case rel => exact ⟨j + 1, _, by omega, by omega, by omega, by rw [hsn.out], rfl⟩
        · obtain rfl : j = k := by omega
          have s1 : ¬ (j : Int) < (j : Int) := by omega
          have hle := HB.out q
          have S1 := Lib.hid (fun W => rSquares_any W S j hSs (by omega))
          have S2 := Lib.hid (fun W => rSquares_any W (rowS j q) j (rowS_size _ _) (by omega))
          have hd : decide (rsq S j ≤ rsq (rowS j q) j) = true := decide_eq_true hle
          have S1' := Lib.hid (fun W => show Calls Tryd.prog 24 #[.string S] W fun e w' => e = .returned (.int .i64 (rsq S j)) ∧ Kept W w' from S1.out W)
          have S2' := Lib.hid (fun W => show Calls Tryd.prog 24 #[.string (rowS j q)] W fun e w' => e = .returned (.int .i64 (rsq (rowS j q) j)) ∧ Kept W w' from S2.out W)
          clear S1 S2 HB
          generalize rsq S j = a at *
          generalize rsq (rowS j q) j = b at *
          generalize rowS j q = T at *
          go_wp2_with (go_at_call 24; first | (refine (S1'.out _).mono ?_; clear S1'; rintro e w5 ⟨rfl, hk5⟩) | (refine (S2'.out _).mono ?_; rintro e w6 ⟨rfl, hk6⟩))
          go_ret
          exact ⟨by first | rfl | (rw [show decide (a ≤ b) = true from hd]) | simp [hle], (hK4.trans hk5).trans hk6⟩
    · have s0 : ¬ (k : Int) ≤ 5 := by omega
      have z1 : ((k : Int) == 1) = false := beq_eq_false_iff_ne.2 (by omega)
      have y7 : ((k : Int) == 7) = true := by first | exact beq_iff_eq.2 (by omega) | exact beq_eq_false_iff_ne.2 (by omega)
      clear hc
      go_enter Tryd.func12, Tryd.ntmps12
      go_wp2_with (first
        | (go_at_call 27; refine (BA.out _).mono ?_; rintro e w1 ⟨hk1, rfl⟩)
        | (go_at_call 19; refine (RW.out _).mono ?_; rintro e w2 ⟨rfl, hk2⟩)
        | (go_at_call 20; refine (LV.out _).mono ?_; rintro e w3 ⟨rfl, hk3⟩)
        | (go_at_call 54; refine (MA.out _ ((hk1.trans hk2).trans hk3)).mono ?_; rintro e w4 ⟨m, p, rfl, hk4, hm1, hm2, _⟩))
      have hmk : m ≤ k := by omega
      have hK4 : Kept w w4 := ((hk1.trans hk2).trans hk3).trans hk4
      clear hk1 hk2 hk3 hk4 hm1 hm2 BA RW LV MA
      go_loopg [9] (k - m) (fun g s9 wr => ∃ (j : Nat) (q : Nat → Bool), m ≤ j ∧ j ≤ k ∧ g + j = k ∧ s9 = .string (rowS j q) ∧ w4 = wr)
      case atStart => exact ⟨m, p, Nat.le_refl _, hmk, by omega, rfl, rfl⟩
      case round =>
        obtain ⟨j, q, hj1, hj, hg, rfl, rfl⟩ := hrel
        have hsz : (rowS j q).size = j := rowS_size _ _
        by_cases hlt : j < k
        · have s1 : (j : Int) < (k : Int) := by omega
          have hsn : Hid (rowS (j + 1) (fun i => if i < j then q i else false) = rowS j q ++ ⟨#[43]⟩) := by
            show _ = _
            rw [row_snoc]
            have h1 : rowS j (fun i => if i < j then q i else false) = rowS j q := rowS_congr fun i hi => by simp [hi]
            have h2 : rowS 1 (fun _ => if j < j then q j else false) = ⟨#[43]⟩ := by simp only [Nat.lt_irrefl, if_false]; rfl
            rw [h1, h2]
          have s4 : ¬ 9223372036854775807 < j + 1 := by omega
          go_wp2_with fail
          go_roundg (k - (j + 1))
          case measure => omega
          case rel => exact ⟨j + 1, _, by omega, by omega, by omega, by rw [hsn.out], rfl⟩
        · obtain rfl : j = k := by omega
          have s1 : ¬ (j : Int) < (j : Int) := by omega
          have hle := HB.out q
          have S1 := Lib.hid (fun W => rSquares_any W S j hSs (by omega))
          have S2 := Lib.hid (fun W => rSquares_any W (rowS j q) j (rowS_size _ _) (by omega))
          have hd : decide (rsq S j ≤ rsq (rowS j q) j) = true := decide_eq_true hle
          have S1' := Lib.hid (fun W => show Calls Tryd.prog 24 #[.string S] W fun e w' => e = .returned (.int .i64 (rsq S j)) ∧ Kept W w' from S1.out W)
          have S2' := Lib.hid (fun W => show Calls Tryd.prog 24 #[.string (rowS j q)] W fun e w' => e = .returned (.int .i64 (rsq (rowS j q) j)) ∧ Kept W w' from S2.out W)
          clear S1 S2 HB
          generalize rsq S j = a at *
          generalize rsq (rowS j q) j = b at *
          generalize rowS j q = T at *
          go_wp2_with (go_at_call 24; first | (refine (S1'.out _).mono ?_; clear S1'; rintro e w5 ⟨rfl, hk5⟩) | (refine (S2'.out _).mono ?_; rintro e w6 ⟨rfl, hk6⟩))
          go_ret
          exact ⟨by first | rfl | (rw [show decide (a ≤ b) = true from hd]) | simp [hle], (hK4.trans hk5).trans hk6⟩
    · have s0 : ¬ (k : Int) ≤ 5 := by omega
      have z1 : ((k : Int) == 1) = false := beq_eq_false_iff_ne.2 (by omega)
      have y7 : ((k : Int) == 7) = false := by first | exact beq_iff_eq.2 (by omega) | exact beq_eq_false_iff_ne.2 (by omega)
      have y11 : ((k : Int) == 11) = true := by first | exact beq_iff_eq.2 (by omega) | exact beq_eq_false_iff_ne.2 (by omega)
      clear hc
      go_enter Tryd.func12, Tryd.ntmps12
      go_wp2_with (first
        | (go_at_call 27; refine (BA.out _).mono ?_; rintro e w1 ⟨hk1, rfl⟩)
        | (go_at_call 19; refine (RW.out _).mono ?_; rintro e w2 ⟨rfl, hk2⟩)
        | (go_at_call 20; refine (LV.out _).mono ?_; rintro e w3 ⟨rfl, hk3⟩)
        | (go_at_call 54; refine (MA.out _ ((hk1.trans hk2).trans hk3)).mono ?_; rintro e w4 ⟨m, p, rfl, hk4, hm1, hm2, _⟩))
      have hmk : m ≤ k := by omega
      have hK4 : Kept w w4 := ((hk1.trans hk2).trans hk3).trans hk4
      clear hk1 hk2 hk3 hk4 hm1 hm2 BA RW LV MA
      go_loopg [9] (k - m) (fun g s9 wr => ∃ (j : Nat) (q : Nat → Bool), m ≤ j ∧ j ≤ k ∧ g + j = k ∧ s9 = .string (rowS j q) ∧ w4 = wr)
      case atStart => exact ⟨m, p, Nat.le_refl _, hmk, by omega, rfl, rfl⟩
      case round =>
        obtain ⟨j, q, hj1, hj, hg, rfl, rfl⟩ := hrel
        have hsz : (rowS j q).size = j := rowS_size _ _
        by_cases hlt : j < k
        · have s1 : (j : Int) < (k : Int) := by omega
          have hsn : Hid (rowS (j + 1) (fun i => if i < j then q i else false) = rowS j q ++ ⟨#[43]⟩) := by
            show _ = _
            rw [row_snoc]
            have h1 : rowS j (fun i => if i < j then q i else false) = rowS j q := rowS_congr fun i hi => by simp [hi]
            have h2 : rowS 1 (fun _ => if j < j then q j else false) = ⟨#[43]⟩ := by simp only [Nat.lt_irrefl, if_false]; rfl
            rw [h1, h2]
          have s4 : ¬ 9223372036854775807 < j + 1 := by omega
          go_wp2_with fail
          go_roundg (k - (j + 1))
          case measure => omega
          case rel => exact ⟨j + 1, _, by omega, by omega, by omega, by rw [hsn.out], rfl⟩
        · obtain rfl : j = k := by omega
          have s1 : ¬ (j : Int) < (j : Int) := by omega
          have hle := HB.out q
          have S1 := Lib.hid (fun W => rSquares_any W S j hSs (by omega))
          have S2 := Lib.hid (fun W => rSquares_any W (rowS j q) j (rowS_size _ _) (by omega))
          have hd : decide (rsq S j ≤ rsq (rowS j q) j) = true := decide_eq_true hle
          have S1' := Lib.hid (fun W => show Calls Tryd.prog 24 #[.string S] W fun e w' => e = .returned (.int .i64 (rsq S j)) ∧ Kept W w' from S1.out W)
          have S2' := Lib.hid (fun W => show Calls Tryd.prog 24 #[.string (rowS j q)] W fun e w' => e = .returned (.int .i64 (rsq (rowS j q) j)) ∧ Kept W w' from S2.out W)
          clear S1 S2 HB
          generalize rsq S j = a at *
          generalize rsq (rowS j q) j = b at *
          generalize rowS j q = T at *
          go_wp2_with (go_at_call 24; first | (refine (S1'.out _).mono ?_; clear S1'; rintro e w5 ⟨rfl, hk5⟩) | (refine (S2'.out _).mono ?_; rintro e w6 ⟨rfl, hk6⟩))
          go_ret
          exact ⟨by first | rfl | (rw [show decide (a ≤ b) = true from hd]) | simp [hle], (hK4.trans hk5).trans hk6⟩
    · have s0 : ¬ (k : Int) ≤ 5 := by omega
      have z1 : ((k : Int) == 1) = false := beq_eq_false_iff_ne.2 (by omega)
      have y7 : ((k : Int) == 7) = false := by first | exact beq_iff_eq.2 (by omega) | exact beq_eq_false_iff_ne.2 (by omega)
      have y11 : ((k : Int) == 11) = false := by first | exact beq_iff_eq.2 (by omega) | exact beq_eq_false_iff_ne.2 (by omega)
      have y13 : ((k : Int) == 13) = true := by first | exact beq_iff_eq.2 (by omega) | exact beq_eq_false_iff_ne.2 (by omega)
      clear hc
      go_enter Tryd.func12, Tryd.ntmps12
      go_wp2_with (first
        | (go_at_call 27; refine (BA.out _).mono ?_; rintro e w1 ⟨hk1, rfl⟩)
        | (go_at_call 19; refine (RW.out _).mono ?_; rintro e w2 ⟨rfl, hk2⟩)
        | (go_at_call 20; refine (LV.out _).mono ?_; rintro e w3 ⟨rfl, hk3⟩)
        | (go_at_call 54; refine (MA.out _ ((hk1.trans hk2).trans hk3)).mono ?_; rintro e w4 ⟨m, p, rfl, hk4, hm1, hm2, _⟩))
      have hmk : m ≤ k := by omega
      have hK4 : Kept w w4 := ((hk1.trans hk2).trans hk3).trans hk4
      clear hk1 hk2 hk3 hk4 hm1 hm2 BA RW LV MA
      go_loopg [9] (k - m) (fun g s9 wr => ∃ (j : Nat) (q : Nat → Bool), m ≤ j ∧ j ≤ k ∧ g + j = k ∧ s9 = .string (rowS j q) ∧ w4 = wr)
      case atStart => exact ⟨m, p, Nat.le_refl _, hmk, by omega, rfl, rfl⟩
      case round =>
        obtain ⟨j, q, hj1, hj, hg, rfl, rfl⟩ := hrel
        have hsz : (rowS j q).size = j := rowS_size _ _
        by_cases hlt : j < k
        · have s1 : (j : Int) < (k : Int) := by omega
          have hsn : Hid (rowS (j + 1) (fun i => if i < j then q i else false) = rowS j q ++ ⟨#[43]⟩) := by
            show _ = _
            rw [row_snoc]
            have h1 : rowS j (fun i => if i < j then q i else false) = rowS j q := rowS_congr fun i hi => by simp [hi]
            have h2 : rowS 1 (fun _ => if j < j then q j else false) = ⟨#[43]⟩ := by simp only [Nat.lt_irrefl, if_false]; rfl
            rw [h1, h2]
          have s4 : ¬ 9223372036854775807 < j + 1 := by omega
          go_wp2_with fail
          go_roundg (k - (j + 1))
          case measure => omega
          case rel => exact ⟨j + 1, _, by omega, by omega, by omega, by rw [hsn.out], rfl⟩
        · obtain rfl : j = k := by omega
          have s1 : ¬ (j : Int) < (j : Int) := by omega
          have hle := HB.out q
          have S1 := Lib.hid (fun W => rSquares_any W S j hSs (by omega))
          have S2 := Lib.hid (fun W => rSquares_any W (rowS j q) j (rowS_size _ _) (by omega))
          have hd : decide (rsq S j ≤ rsq (rowS j q) j) = true := decide_eq_true hle
          have S1' := Lib.hid (fun W => show Calls Tryd.prog 24 #[.string S] W fun e w' => e = .returned (.int .i64 (rsq S j)) ∧ Kept W w' from S1.out W)
          have S2' := Lib.hid (fun W => show Calls Tryd.prog 24 #[.string (rowS j q)] W fun e w' => e = .returned (.int .i64 (rsq (rowS j q) j)) ∧ Kept W w' from S2.out W)
          clear S1 S2 HB
          generalize rsq S j = a at *
          generalize rsq (rowS j q) j = b at *
          generalize rowS j q = T at *
          go_wp2_with (go_at_call 24; first | (refine (S1'.out _).mono ?_; clear S1'; rintro e w5 ⟨rfl, hk5⟩) | (refine (S2'.out _).mono ?_; rintro e w6 ⟨rfl, hk6⟩))
          go_ret
          exact ⟨by first | rfl | (rw [show decide (a ≤ b) = true from hd]) | simp [hle], (hK4.trans hk5).trans hk6⟩
  · simp only [if_neg h2] at BA
    rw [decide_eq_false h2] at hhas
    unfold barHas at hhas
    have hcase : ¬ k ≤ 5 ∧ k ≠ 7 ∧ k ≠ 11 ∧ k ≠ 13 := by
      simp at hhas
      omega
    obtain ⟨c1, c2, c3, c4⟩ := hcase
    have s0 : ¬ (k : Int) ≤ 5 := by omega
    have y7 : ((k : Int) == 7) = false := beq_eq_false_iff_ne.2 (by omega)
    have y11 : ((k : Int) == 11) = false := beq_eq_false_iff_ne.2 (by omega)
    have y13 : ((k : Int) == 13) = false := beq_eq_false_iff_ne.2 (by omega)
    clear h2 hhas HK c1 c2 c3 c4
    go_enter Tryd.func12, Tryd.ntmps12
    go_wp2_with (first
        | (go_at_call 27; refine (BA.out _).mono ?_; rintro e w1 ⟨hk1, rfl⟩)
        | (go_at_call 20; refine (LV.out _).mono ?_; rintro e w3 ⟨rfl, hk3⟩))
    go_ret
    exact ⟨rfl, hk1.trans hk3⟩
end Go.Proofs.YtcgbfhjefepafaaDoor
