/-
  Package gait: strings.Trim of signs; rowsError.
-/
import Derived.Test.YthigeafojekclaaDoorChecked
import Derived.Test.YthigeafojekclaaDoorSf
import Derived.Test.YthigeafojekclaaDoorGa
namespace Go.Proofs.YthigeafojekclaaDoor
open Go.RowKit Go.Deep

theorem empty_size (s : ByteArray) : s.toList.isEmpty = decide (s.size = 0) := by
  rw [Lib.toList_data]
  have h := Lib.size_eq s
  cases e : s.data.toList with
  | nil => rw [e] at h; simp at h; simp [h]
  | cons a l => rw [e] at h; simp at h; simp [h]
theorem dropWhile_nil (p : UInt8 → Bool) (l : List UInt8) : (l.dropWhile p).isEmpty = l.all p := by
  induction l with
  | nil => rfl
  | cons a l ih =>
    rw [List.dropWhile_cons, List.all_cons]
    cases h : p a with
    | true => simpa using ih
    | false => simp
theorem trim_all (l : List UInt8) : (Lib.trimS l [43, 45]).isEmpty = l.all (fun b => [43, 45].contains b) := by
  unfold Lib.trimS Lib.trimLeftS Lib.trimRightS
  rw [dropWhile_nil, List.all_reverse]
  cases h : l.all (fun b => [43, 45].contains b) with
  | true =>
    have h2 : (l.reverse.dropWhile (fun b => [43, 45].contains b)).isEmpty = true := by rw [dropWhile_nil, List.all_reverse]; exact h
    rw [List.isEmpty_iff.1 h2]
    rfl
  | false =>
    have h2 : (l.reverse.dropWhile (fun b => [43, 45].contains b)).isEmpty = false := by rw [dropWhile_nil, List.all_reverse]; exact h
    cases e : l.reverse.dropWhile (fun b => [43, 45].contains b) with
    | nil => rw [e] at h2; cases h2
    | cons a m =>
      have h3 := List.head_dropWhile_not (fun b => [43, 45].contains b) (l := l.reverse) (by rw [e]; simp)
      simp only [e, List.head_cons] at h3
      rw [List.all_cons, h3]
      rfl
theorem sg_byte (b : UInt8) : isSg (b.toNat : Int) = [43, 45].contains b := by
  by_cases h1 : b = 43
  · subst h1; rfl
  · by_cases h2 : b = 45
    · subst h2; rfl
    · have n1 : ¬ ((b.toNat : Int) = 43) := fun h => h1 (UInt8.toNat_inj.1 (by simp; omega))
      have n2 : ¬ ((b.toNat : Int) = 45) := fun h => h2 (UInt8.toNat_inj.1 (by simp; omega))
      simp [isSg, h1, h2, n1, n2]
theorem allSg_list (s : ByteArray) : allSg s = s.data.toList.all (fun b => [43, 45].contains b) := by
  unfold allSg
  rw [Bool.eq_iff_iff, allN_true, List.all_eq_true]
  have hs := Lib.size_eq s
  constructor
  · intro h b hb
    obtain ⟨i, hi, rfl⟩ := List.getElem_of_mem hb
    have := h i (by omega)
    rw [chr_list _ _ (by omega), List.getD_eq_getElem?_getD, List.getElem?_eq_getElem hi, Option.getD_some] at this
    rw [← sg_byte]
    exact this
  · intro h i hi
    have hi2 : i < s.data.toList.length := by omega
    have := h _ (List.getElem_mem hi2)
    rw [chr_list _ _ hi, List.getD_eq_getElem?_getD, List.getElem?_eq_getElem hi2, Option.getD_some]
    rw [sg_byte]
    exact this
theorem trim_any (w : World) (s : ByteArray) (hs : s.size ≤ 9223372036854775807) :
    Calls Tryd.prog 36 #[.string s, .string ⟨#[43, 45]⟩] w fun e w' => (∃ r : ByteArray, e = .returned (.string r) ∧ r.toList.isEmpty = allSg s) ∧ Kept w w' := by
  have h := Any.strings_Trim_laid Tryd.lays160 (by kernel_rfl) s ⟨#[43, 45]⟩ w hs (by decide) (ascii_of_all (by decide))
  refine Calls.mono (show Calls Tryd.prog 36 _ _ _ from h) ?_
  rintro e w' ⟨rfl, hb⟩
  refine ⟨⟨_, rfl, ?_⟩, Kept.below hb⟩
  rw [Lib.toList_data, allSg_list, ← trim_all]
/-- texts in memory -/
abbrev StrsAt (w : World) (v : Value) (n : Nat) (S : Nat → ByteArray) : Prop := CellsAt w v n (fun i => .string (S i))
def okS (s : ByteArray) : Bool := decide (0 < s.size) && allSg s
/-- what is wrong with rows -/
def rowsC (n : Nat) (S : Nat → ByteArray) : Int := if allN (fun i => decide ((S i).size ≤ 64)) n then (if allN (fun i => okS (S i)) n then 0 else 2) else 3
theorem rowsC_one (S : Nat → ByteArray) : rowsC 1 S = rowC (S 0) := by
  unfold rowsC rowC
  have e1 : allN (fun i => decide ((S i).size ≤ 64)) 1 = decide ((S 0).size ≤ 64) := by simp [allN]
  have e2 : allN (fun i => okS (S i)) 1 = okS (S 0) := by simp [allN]
  rw [e1, e2]
  unfold okS
  by_cases h1 : (S 0).size ≤ 64
  · have n1 : ¬ 64 < (S 0).size := by omega
    by_cases h2 : (S 0).size = 0
    · simp [h2]
    · have h3 : 0 < (S 0).size := by omega
      simp [h1, n1, h2, h3]
  · have n1 : 64 < (S 0).size := by omega
    simp [h1, n1]
def RowsPost (w : World) (n : Nat) (S : Nat → ByteArray) (e : Ending) (w' : World) : Prop := e = .returned (.int .i64 (rowsC n S)) ∧ Kept w w'
set_option maxRecDepth 100000 in
set_option maxHeartbeats 4000000 in
theorem rowsError_any (w : World) (v : Value) (n : Nat) (S : Nat → ByteArray) (hV : StrsAt w v n S) (hn : n ≤ 1000000) (hS : ∀ i, i < n → (S i).size ≤ 9223372036854775807) :
    Calls Tryd.prog 21 #[v] w (RowsPost w n S) := by
  obtain ⟨a, b, o, cap, rfl, ha, hc⟩ := hV
  have HC := Lib.hid hc
  have HS := Lib.hid hS
  have HT := Lib.hid (fun (W : World) (s : ByteArray) (hs : s.size ≤ 9223372036854775807) => trim_any W s hs)
  clear hc hS
  go_enter Tryd.func21, Tryd.ntmps21
  go_wp2_with fail
  go_loopg [9] n (fun g s9 wr => ∃ i : Nat, i ≤ n ∧ g = n - i ∧ s9 = .int .i64 i ∧ w = wr ∧ Hid (allN (fun i => decide ((S i).size ≤ 64)) i = true))
  case atStart => exact ⟨0, Nat.zero_le _, rfl, rfl, rfl, rfl⟩
  case round =>
    obtain ⟨i, hi, rfl, rfl, rfl, hA⟩ := hrel
    by_cases hlt : i < n
    · obtain rfl := ha (by omega)
      have t0 := HC.out i hlt
      have s2 : (i : Int) < (n : Int) := by omega
      have s3 : (0 : Int) ≤ (i : Int) := by omega
      have hsz := HS.out i hlt
      obtain ⟨s, Hs⟩ : ∃ s, Hid (s = S i) := ⟨_, rfl⟩
      rw [← Hs.out] at t0 hsz
      by_cases h1 : s.size ≤ 64
      · have e1 : ¬ (64 : Int) < (s.size : Int) := by omega
        have hA2 : Hid (allN (fun i => decide ((S i).size ≤ 64)) (i + 1) = true) := allN_step hA.out (by rw [← Hs.out]; simpa using h1)
        clear hA
        go_wp2_with fail
        go_roundg (n - (i + 1))
        case measure => omega
        case rel => exact ⟨i + 1, by omega, rfl, by go_num, rfl, hA2.out⟩
      · have e1 : (64 : Int) < (s.size : Int) := by omega
        have hr : Hid (rowsC n S = 3) := by
          show _ = _
          unfold rowsC
          rw [allN_false hlt (by rw [← Hs.out]; simpa using h1)]
          rfl
        clear hA
        go_wp2_with fail
        go_ret
        exact ⟨ret_int hr.out.symm, Kept.refl _⟩
    · obtain rfl : i = n := by omega
      have hr : Hid (rowsC i S = if allN (fun j => okS (S j)) i then 0 else 2) := by
        show _ = _
        unfold rowsC
        rw [hA.out]
        rfl
      clear hA
      go_wp2_with fail
      go_loopg [19] i (fun g s19 wr => ∃ j : Nat, j ≤ i ∧ g = i - j ∧ s19 = .int .i64 j ∧ Kept w wr ∧ Hid (allN (fun j => okS (S j)) j = true))
      case atStart => exact ⟨0, Nat.zero_le _, rfl, rfl, Kept.refl _, rfl⟩
      case round =>
        obtain ⟨j, hj, rfl, rfl, hK, hA⟩ := hrel
        by_cases hlt : j < i
        · obtain rfl := ha (by omega)
          have t0 := hK.cellSome (HC.out j hlt)
          have s2 : (j : Int) < (i : Int) := by omega
          have s3 : (0 : Int) ≤ (j : Int) := by omega
          have hsz := HS.out j hlt
          obtain ⟨s, Hs⟩ : ∃ s, Hid (s = S j) := ⟨_, rfl⟩
          rw [← Hs.out] at t0 hsz
          have HT2 := Lib.hid (fun W => HT.out W s hsz)
          by_cases h0 : s.size = 0
          · have e0 : s.toList.isEmpty = true := by rw [empty_size]; simpa using h0
            have hbad : Hid (rowsC i S = 2) := by
              show _ = _
              rw [hr.out, allN_false hlt (by rw [← Hs.out]; unfold okS; simp [h0])]
              rfl
            clear hA h0 hsz
            go_wp2_with fail
            go_ret
            exact ⟨ret_int hbad.out.symm, hK⟩
          · have e0 : s.toList.isEmpty = false := by rw [empty_size]; simpa using h0
            obtain ⟨b1, HB⟩ : ∃ b1, Hid (b1 = allSg s) := ⟨_, rfl⟩
            cases b1 with
            | true =>
              have hA2 : Hid (allN (fun j => okS (S j)) (j + 1) = true) := allN_step hA.out (by rw [← Hs.out]; unfold okS; rw [← HB.out]; simp; omega)
              clear hA h0
              go_wp2_with (first | (go_at_call 36; refine (HT2.out _).mono ?_; rintro e w1 ⟨⟨r, rfl, hr1⟩, hk1⟩; rw [← HB.out] at hr1))
              go_roundg (i - (j + 1))
              case measure => omega
              case rel => exact ⟨j + 1, by omega, rfl, by go_num, hK.trans hk1, hA2.out⟩
            | false =>
              have hbad : Hid (rowsC i S = 2) := by
                show _ = _
                rw [hr.out, allN_false hlt (by rw [← Hs.out]; unfold okS; rw [← HB.out]; simp)]
                rfl
              clear hA h0
              go_wp2_with (first | (go_at_call 36; refine (HT2.out _).mono ?_; rintro e w1 ⟨⟨r, rfl, hr1⟩, hk1⟩; rw [← HB.out] at hr1))
              go_ret
              exact ⟨ret_int hbad.out.symm, hK.trans hk1⟩
        · obtain rfl : j = i := by omega
          have hgood : Hid (rowsC j S = 0) := by show _ = _; rw [hr.out, hA.out]; rfl
          go_wp2_with fail
          go_ret
          exact ⟨ret_int hgood.out.symm, hK⟩
end Go.Proofs.YthigeafojekclaaDoor
