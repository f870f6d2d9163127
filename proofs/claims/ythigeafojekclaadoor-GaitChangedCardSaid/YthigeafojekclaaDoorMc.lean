/-
  The law's cut; the reference's Minus.
-/
import Derived.Test.YthigeafojekclaaDoorRb
import Derived.Test.YthigeafojekclaaDoorRc
namespace Go.Proofs.YthigeafojekclaaDoor
open Go.RowKit Go.Deep Go.Shelf

def cutS (s : ByteArray) : ByteArray := if s.size ≤ 65 then s else s.extract 0 65
theorem cutS_size (s : ByteArray) : (cutS s).size ≤ 65 := by
  unfold cutS
  split
  · assumption
  · rw [size_extract _ _ _ (by omega)]; omega
set_option maxRecDepth 100000 in
set_option maxHeartbeats 4000000 in
theorem cut_any (w : World) (s : ByteArray) (hs : s.size ≤ 9223372036854775807) :
    Calls Tryd.prog 5 #[.string s] w fun e w' => e = .returned (.string (cutS s)) ∧ w = w' := by
  unfold cutS
  by_cases h : s.size ≤ 65
  · rw [if_pos h]
    have s1 : (s.size : Int) ≤ 65 := by omega
    have s2 : min (s.size : Int) 65 = (s.size : Int) := by omega
    have s3 : (0 : Int) ≤ (s.size : Int) := by omega
    have w1 : IntKind.i64.wrap (s.size : Int) = (s.size : Int) := IntWalk.i64_in _ (by omega)
    go_enter Tryd.func5, Tryd.ntmps5
    go_wp2_with fail
    go_ret
    exact ⟨rfl, rfl⟩
  · rw [if_neg h]
    have s1 : ¬ (s.size : Int) ≤ 65 := by omega
    have s2 : min (s.size : Int) 65 = 65 := by omega
    have s3 : (65 : Int) ≤ (s.size : Int) := by omega
    have s4 : 65 ≤ s.size := by omega
    go_enter Tryd.func5, Tryd.ntmps5
    go_wp2_with fail
    go_ret
    exact ⟨rfl, rfl⟩
set_option maxRecDepth 100000 in
set_option maxHeartbeats 4000000 in
theorem rMinus_any (w : World) (s : ByteArray) (n : Nat) (hs : s.size = n) (hn : n ≤ 1000) :
    Calls Tryd.prog 18 #[.string s] w fun e w' => e = .returned (.string (rowS n (fun i => chr s i == 43))) ∧ w = w' := by
  have SG := Lib.hid (fun (W : World) (i : Nat) (h : i < s.size) => Sign_any W s i h)
  obtain ⟨p, HP⟩ : ∃ p : Nat → Bool, Hid (p = fun i => chr s i == 43) := ⟨_, rfl⟩
  rw [← HP.out]
  go_enter Tryd.func18, Tryd.ntmps18
  go_wp2_with fail
  go_loopg [3, 4] n (fun g s3 s4 wr => ∃ i : Nat, i ≤ n ∧ g = n - i ∧ s3 = .string (rowS i p) ∧ s4 = .int .i64 i ∧ w = wr)
  case atStart => exact ⟨0, Nat.zero_le _, rfl, rfl, rfl, rfl⟩
  case round =>
    obtain ⟨i, hi, rfl, rfl, rfl, rfl⟩ := hrel
    have hsz : (rowS i p).size = i := rowS_size _ _
    by_cases hlt : i < n
    · have s2 : (i : Int) < (n : Int) := by omega
      have SGi := Lib.hid (fun W => SG.out W i (by omega))
      have hsn := Lib.hid (row_snoc i p)
      have hpb := Lib.hid (pm_bit (p i))
      have hx := hpb.out
      have hTs : (rowS 1 (fun _ => p i)).size = 1 := rowS_size _ _
      have hpi : p i = (chr s i == 43) := by rw [HP.out]
      unfold sgS at SGi
      unfold pmS at hx
      have s4 : ¬ 9223372036854775807 < i + 1 := by omega
      obtain ⟨R', HR'⟩ : ∃ R', R' = rowS (i + 1) p := ⟨_, rfl⟩
      rw [← HR'] at hsn
      generalize p i = b at *
      cases b with
      | true =>
        have hc : chr s i = 43 := by simpa using hpi.symm
        rw [if_pos hc] at SGi
        simp only [if_true] at hx
        generalize rowS 1 (fun _ => true) = T at *
        generalize rowS i p = R at *
        clear hpi hc hpb
        go_wp2_with (first | (go_at_call 30; refine (SGi.out _).mono ?_; rintro e w1 ⟨rfl, rfl⟩))
        go_roundg (n - (i + 1))
        case measure => omega
        case rel => exact ⟨i + 1, by omega, rfl, by rw [← HR', hsn.out], by first | rfl | go_num, rfl⟩
      | false =>
        have hc : ¬ chr s i = 43 := by simpa using hpi.symm
        rw [if_neg hc] at SGi
        simp only [Bool.false_eq_true, if_false] at hx
        generalize rowS 1 (fun _ => false) = T at *
        generalize rowS i p = R at *
        clear hpi hc hpb
        go_wp2_with (first | (go_at_call 30; refine (SGi.out _).mono ?_; rintro e w1 ⟨rfl, rfl⟩))
        go_roundg (n - (i + 1))
        case measure => omega
        case rel => exact ⟨i + 1, by omega, rfl, by rw [← HR', hsn.out], by first | rfl | go_num, rfl⟩
    · obtain rfl : i = n := by omega
      have s2 : ¬ (i : Int) < (i : Int) := by omega
      go_wp2_with fail
      go_ret
      exact ⟨rfl, rfl⟩
end Go.Proofs.YthigeafojekclaaDoor
