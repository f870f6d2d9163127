/-
  The reference of gait: Back.
-/
import Derived.Test.YthigeafojekclaaDoorRb
import Derived.Test.YthigeafojekclaaDoorRc
namespace Go.Proofs.YthigeafojekclaaDoor
open Go.RowKit Go.Deep Go.Shelf

set_option maxRecDepth 100000 in
set_option maxHeartbeats 4000000 in
theorem rBack_any (w : World) (n : Nat) (p : Nat → Bool) (hn : n ≤ 1000) :
    Calls Tryd.prog 19 #[.string (rowS n p)] w fun e w' => e = .returned (.string (rowS n (fun i => p (n - 1 - i)))) ∧ w = w' := by
  obtain ⟨S, HS⟩ : ∃ S, Hid (S = rowS n p) := ⟨_, rfl⟩
  have hSs : S.size = n := by rw [HS.out]; exact rowS_size _ _
  obtain ⟨b, HB⟩ : ∃ b : Nat → Bool, Hid (b = fun i => p (n - 1 - i)) := ⟨_, rfl⟩
  rw [← HS.out, ← HB.out]
  go_enter Tryd.func19, Tryd.ntmps19
  go_wp2_with fail
  go_loopg [3, 4] n (fun g s3 s4 wr => ∃ i : Nat, i ≤ n ∧ g = n - i ∧ s3 = .string (rowS i b) ∧ s4 = .int .i64 ((n : Int) - 1 - (i : Int)) ∧ w = wr)
  case atStart => exact ⟨0, Nat.zero_le _, rfl, rfl, by first | rfl | go_num, rfl⟩
  case round =>
    obtain ⟨i, hi, rfl, rfl, rfl, rfl⟩ := hrel
    have hsz : (rowS i b).size = i := rowS_size _ _
    by_cases hlt : i < n
    · obtain ⟨j, hj⟩ : ∃ j : Nat, j + 1 + i = n := ⟨n - 1 - i, by omega⟩
      have ej : (n : Int) - 1 - (i : Int) = (j : Int) := by omega
      have hx : Hid (S.extract j (j + 1) = rowS 1 (fun _ => b i)) := by
        show _ = _
        rw [HS.out, HB.out, rowS_extract _ _ _ _ (by omega), show j + 1 - j = 1 by omega]
        exact rowS_congr fun t ht => by dsimp only; rw [show n - 1 - i = j by omega, show j + t = j by omega]
      have hsn := Lib.hid (row_snoc i b)
      have hres : Hid (rowS (i + 1) b = rowS i b ++ S.extract j (j + 1)) := by show _ = _; rw [hx.out]; exact hsn.out
      have hxs : (S.extract j (j + 1)).size = 1 := by rw [hx.out]; exact rowS_size _ _
      have s1 : (j : Int) ≥ 0 := by omega
      have s2 : (0 : Int) ≤ (j : Int) := by omega
      have s7 : (j : Int) ≤ (j : Int) + 1 := by omega
      have s8 : (j : Int) + 1 ≤ (n : Int) := by omega
      have s5 : ¬ 9223372036854775807 < i + 1 := by omega
      have hw1 : IntKind.i64.wrap (j : Int) = (j : Int) := IntWalk.i64_in _ (by omega)
      have hw2 : IntKind.i64.wrap ((j : Int) + 1) = (j : Int) + 1 := IntWalk.i64_in _ (by omega)
      have et : ((j : Int) + 1).toNat = j + 1 := by omega
      obtain ⟨R', HR'⟩ : ∃ R', R' = rowS (i + 1) b := ⟨_, rfl⟩
      rw [← HR'] at hres
      generalize rowS i b = R at *
      rw [ej]
      clear hsn hx HS HB
      go_wp2_with fail
      go_roundg (n - (i + 1))
      case measure => omega
      case rel => exact ⟨i + 1, by omega, rfl, by rw [← HR', hres.out], by rw [show (n : Int) - 1 - ((i + 1 : Nat) : Int) = (j : Int) - 1 by omega], rfl⟩
    · obtain rfl : i = n := by omega
      have s1 : ¬ ((i : Int) - 1 - (i : Int)) ≥ 0 := by omega
      go_wp2_with fail
      go_ret
      exact ⟨rfl, rfl⟩
end Go.Proofs.YthigeafojekclaaDoor
