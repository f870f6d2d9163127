/-
  Package gait: Golay.
-/
import Derived.Test.YthigeafojekclaaDoorGk
import Derived.Test.YthigeafojekclaaDoorGm
namespace Go.Proofs.YthigeafojekclaaDoor
open Go.RowKit Go.Deep Go.Shelf

theorem rows_any (w : World) (n : Int) : Calls Tryd.prog 44 #[.int .i64 n] w fun e w' => e = .returned (.func (.func 65) #[] #[.pointer (some ⟨w.heap.size, 0, none⟩)]) ∧ w' = w.alloc (.cells #[.int .i64 n] 3) :=
  callsIn_wide.1 (rows_in 4 n w)
theorem collect_any (w : World) (n Bn : Nat) (hn : n ≤ 13) (hBl : Bn < w.heap.size) (hBn : w.cell? ⟨Bn, 0, none⟩ = some (.int .i64 n)) :
    Calls Tryd.prog 43 #[.func (.func 65) #[] #[.pointer (some ⟨Bn, 0, none⟩)]] w fun e W' => ∃ v, e = .returned v ∧ StrsAt W' v (2 ^ n) (rowN n) ∧ Kept w W' :=
  callsIn_wide.1 ((collect_in 4 n Bn (by omega) hn w hBl hBn).mono (fun _ _ ⟨v, he, hO, hB⟩ => ⟨v, he, strs_own hO, Kept.below hB⟩))
/-- two numbers of rows are a Golay pair -/
def gB (n x y : Nat) : Bool := golN n (bitP n x) (bitP n y)
def gy (n x : Nat) : Nat := least (fun y => gB n x y) (2 ^ n)
def gx (n : Nat) : Nat := least (fun x => decide (gy n x < 2 ^ n)) (2 ^ n)
def GolAns (w : World) (n : Int) (e : Ending) (w' : World) : Prop :=
  Kept w w' ∧ if 1 ≤ n ∧ n ≤ 10 then (if gx n.toNat < 2 ^ n.toNat then e = .returned (.tuple #[.string (rowN n.toNat (gx n.toNat)), .string (rowN n.toNat (gy n.toNat (gx n.toNat))), .int .i64 0]) else e = .returned (.tuple #[.string ⟨#[]⟩, .string ⟨#[]⟩, .int .i64 5])) else e = .returned (.tuple #[.string ⟨#[]⟩, .string ⟨#[]⟩, .int .i64 1])
set_option maxRecDepth 100000 in
set_option maxHeartbeats 8000000 in
theorem Golay_any (w : World) (n : Int) : Calls Tryd.prog 27 #[.int .i64 n] w (GolAns w n) := by
  have IW := Lib.hid (fun W => isWithin_any W n 1 10)
  have RW := Lib.hid (fun W => rows_any W n)
  by_cases h1 : 1 ≤ n ∧ n ≤ 10
  · have H1 := Lib.hid h1
    rw [decide_eq_true h1] at IW
    obtain ⟨n, rfl⟩ : ∃ m : Nat, n = m := ⟨n.toNat, by omega⟩
    have hN : 2 ^ n ≤ 1024 := by have := Nat.pow_le_pow_right (n := 2) (by omega) (show n ≤ 10 by omega); omega
    have CO := Lib.hid (fun (W : World) (B : Nat) (hB : B < W.heap.size) (hc : W.cell? ⟨B, 0, none⟩ = some (.int .i64 n)) => collect_any W n B (by omega) hB hc)
    have IG := Lib.hid (fun (W : World) (x y : Nat) => show Calls Tryd.prog 45 #[.string (rowN n x), .string (rowN n y)] W fun e w' => e = .returned (.bool (gB n x y)) ∧ Kept W w' by
      have h := isGolay_any W (rowN n x) (rowN n y) n (rowS_size _ _) (rowS_size _ _) (by omega) (by omega)
      unfold rowN at h ⊢
      rw [golS_rows] at h
      exact h)
    have hans : Hid (∀ (e : Ending) (w' : World), Kept w w' → (if gx n < 2 ^ n then e = .returned (.tuple #[.string (rowN n (gx n)), .string (rowN n (gy n (gx n))), .int .i64 0]) else e = .returned (.tuple #[.string ⟨#[]⟩, .string ⟨#[]⟩, .int .i64 5])) → GolAns w n e w') := fun e w' hk h => ⟨hk, by rw [if_pos H1.out, Int.toNat_natCast]; exact h⟩
    have hgx : Hid (gx n = least (fun x => decide (gy n x < 2 ^ n)) (2 ^ n)) := rfl
    have hgy : Hid (∀ x, gy n x = least (fun y => gB n x y) (2 ^ n)) := fun _ => rfl
    obtain ⟨N, HN⟩ : ∃ N : Nat, Hid (N = 2 ^ n) := ⟨2 ^ n, rfl⟩
    rw [← HN.out] at hN CO hans hgx hgy
    clear h1
    go_enter Tryd.func27, Tryd.ntmps27
    go_wp2_with (first | (go_at_call 40; refine (IW.out _).mono ?_; rintro e w1 ⟨rfl, rfl⟩) | (go_at_call 44; refine (RW.out _).mono ?_; rintro e w1 ⟨rfl, hw1⟩; subst hw1) | (go_at_call 43; refine (CO.out _ _ (by simp) (box_cell _ _ _)).mono ?_; rintro e w2 ⟨v, rfl, hV, hk2⟩; obtain ⟨a, b, o, cap, rfl, ha, hc⟩ := hV; have HC := Lib.hid hc; clear hc))
    have hK0 : Kept w w2 := ((Kept.refl w).alloc _).trans hk2
    clear hk2
    go_loopg [18] N (fun g s18 wr => ∃ x : Nat, x ≤ N ∧ g = N - x ∧ s18 = .int .i64 x ∧ Kept w wr ∧ Kept w2 wr ∧ Hid (least (fun x => decide (gy n x < N)) x = x))
    case atStart => exact ⟨0, Nat.zero_le _, rfl, rfl, hK0, Kept.refl _, rfl⟩
    case round =>
      obtain ⟨x, hx, rfl, rfl, hK, hK2, hA⟩ := hrel
      by_cases hlt : x < N
      · obtain rfl := ha (by omega)
        have t0 := hK2.cellSome (HC.out x hlt)
        have s2 : (x : Int) < (N : Int) := by omega
        have s3 : (0 : Int) ≤ (x : Int) := by omega
        obtain ⟨Wo, rfl⟩ : ∃ Wo : World, Wo = wr := ⟨_, rfl⟩
        go_wp2_with fail
        go_loopg [24] N (fun g s24 wi => ∃ y : Nat, y ≤ N ∧ g = N - y ∧ s24 = .int .i64 y ∧ Kept w wi ∧ Kept w2 wi ∧ Hid (least (fun y => gB n x y) y = y))
        case atStart => exact ⟨0, Nat.zero_le _, rfl, rfl, hK, hK2, rfl⟩
        case round =>
          obtain ⟨y, hy, rfl, rfl, hKi, hKi2, hB⟩ := hrel
          by_cases hlt2 : y < N
          · have t1 := hKi2.cellSome (HC.out y hlt2)
            have s4 : (y : Int) < (N : Int) := by omega
            have s5 : (0 : Int) ≤ (y : Int) := by omega
            have IGx := Lib.hid (fun W => IG.out W x y)
            obtain ⟨b, HBB⟩ : ∃ b, Hid (b = gB n x y) := ⟨_, rfl⟩
            rw [← HBB.out] at IGx
            have hfin : Hid (b = true → gx n = x ∧ gy n x = y) := fun hb => by
              have h1 : gy n x = y := by rw [hgy.out]; exact least_hit hB.out (by rw [← HBB.out]; exact hb) hlt2
              exact ⟨by rw [hgx.out]; exact least_hit hA.out (by simp only [h1, decide_eq_true_eq]; exact hlt2) hlt, h1⟩
            have hnx : Hid (b = false → least (fun y => gB n x y) (y + 1) = y + 1) := fun hb => least_step hB.out (by rw [← HBB.out]; exact hb)
            cases b with
            | true =>
              obtain ⟨hf1, hf2⟩ := hfin.out rfl
              have HF := Lib.hid (show ∀ (e : Ending) (w' : World), Kept w w' → e = .returned (.tuple #[.string (rowN n x), .string (rowN n y), .int .i64 0]) → GolAns w n e w' from fun e w' hk he => hans.out e w' hk (by rw [hf1, hf2, if_pos hlt]; exact he))
              clear hf1 hf2 hfin hnx hA hB
              go_wp2_with (first | (go_at_call 45; refine (IGx.out _).mono ?_; rintro e w3 ⟨rfl, hk3⟩))
              go_ret3
              exact HF.out _ _ (hKi.trans hk3) rfl
            | false =>
              have hB2 : Hid (least (fun y => gB n x y) (y + 1) = y + 1) := hnx.out rfl
              clear hfin hnx hA hB
              go_wp2_with (first | (go_at_call 45; refine (IGx.out _).mono ?_; rintro e w3 ⟨rfl, hk3⟩))
              go_roundg (N - (y + 1))
              case measure => omega
              case rel => exact ⟨y + 1, by omega, rfl, by first | rfl | go_num, hKi.trans hk3, hKi2.trans hk3, hB2.out⟩
          · obtain rfl : y = N := by omega
            have hA2 : Hid (least (fun x => decide (gy n x < y)) (x + 1) = x + 1) := least_step hA.out (by rw [hgy.out, hB.out]; simp)
            clear hA hB
            go_wp2_with fail
            go_roundg (y - (x + 1))
            case measure => omega
            case rel => exact ⟨x + 1, by omega, rfl, by first | rfl | go_num, hKi, hKi2, hA2.out⟩
      · obtain rfl : x = N := by omega
        have hno : Hid (¬ gx n < x) := by
          show ¬ _
          rw [hgx.out, hA.out]
          omega
        clear hA
        go_wp2_with fail
        go_ret3
        exact hans.out _ _ hK (by rw [if_neg hno.out]; rfl)
  · have H1 := Lib.hid h1
    rw [decide_eq_false h1] at IW
    clear h1
    go_enter Tryd.func27, Tryd.ntmps27
    go_wp2_with (first | (go_at_call 40; refine (IW.out _).mono ?_; rintro e w1 ⟨rfl, rfl⟩))
    go_ret3
    exact ⟨Kept.refl _, by rw [if_neg H1.out]; rfl⟩
end Go.Proofs.YthigeafojekclaaDoor
