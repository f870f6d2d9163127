/-
  The reference of gait: Matrix, Right, Columns.
-/
import Derived.Test.YtofgadehblpoiaaDoorXa
import Derived.Test.YtofgadehblpoiaaDoorRb
import Derived.Test.YtofgadehblpoiaaDoorRc
namespace Go.Proofs.YtofgadehblpoiaaDoor
open Go.RowKit Go.Deep Go.Shelf

theorem rowC_ok {s : ByteArray} (h : s.size ≤ 64) : (rowC s = 0) ↔ okS s = true := by
  unfold rowC okS
  rw [if_neg (by omega)]
  by_cases h0 : s.size = 0
  · rw [if_pos h0]; simp [h0]
  · rw [if_neg h0]
    cases allSg s <;> simp
    omega
theorem matC_ref (n : Nat) (S : Nat → ByteArray) :
    matC n S = if 32 < n then 3 else if allN (fun i => decide ((S i).size ≤ 64)) n then (if allN (fun i => decide ((S i).size = n) && decide (rowC (S i) = 0)) n then (if n = 0 then 2 else 0) else 2) else 3 := by
  unfold matC
  by_cases h1 : 32 < n
  · rw [if_pos h1, if_pos h1]
  rw [if_neg h1, if_neg h1]
  by_cases h2 : n = 0
  · subst h2; rfl
  rw [if_neg h2]
  unfold rowsC
  cases h3 : allN (fun i => decide ((S i).size ≤ 64)) n with
  | false => rfl
  | true =>
    have h3' := allN_true.1 h3
    simp only [if_true]
    cases h4 : allN (fun i => okS (S i)) n with
    | false =>
      have : allN (fun i => decide ((S i).size = n) && decide (rowC (S i) = 0)) n = false := by
        cases h5 : allN (fun i => decide ((S i).size = n) && decide (rowC (S i) = 0)) n with
        | false => rfl
        | true =>
          rw [← h4]
          refine (allN_true.2 fun i hi => ?_).symm
          have := allN_true.1 h5 i hi
          simp only [Bool.and_eq_true, decide_eq_true_eq] at this
          exact (rowC_ok (by simpa using h3' i hi)).1 this.2
      rw [this]
      rfl
    | true =>
      have h4' := allN_true.1 h4
      have : allN (fun i => decide ((S i).size = n) && decide (rowC (S i) = 0)) n = allN (fun i => decide ((S i).size = n)) n := by
        rw [Bool.eq_iff_iff, allN_true, allN_true]
        constructor
        · intro h i hi; have := h i hi; simp only [Bool.and_eq_true] at this; exact this.1
        · intro h i hi
          rw [h i hi, decide_eq_true ((rowC_ok (by simpa using h3' i hi)).2 (h4' i hi))]
          rfl
      rw [this, if_neg h2]
      rfl
set_option maxRecDepth 100000 in
set_option maxHeartbeats 8000000 in
theorem rMatrix_any (w : World) (v : Value) (n : Nat) (S : Nat → ByteArray) (hV : StrsAt w v n S) (hn : n ≤ 1000000) :
    Calls Tryd.prog 33 #[v] w fun e w' => e = .returned (.int .i64 (matC n S)) ∧ Kept w w' := by
  obtain ⟨a, b, o, cap, rfl, ha, hc⟩ := hV
  have HC := Lib.hid hc
  have RW := Lib.hid (fun W s => (Row_any (W.alloc (.cells #[.string s] 9)) (.slice (some ⟨W.heap.size, 0, none⟩) 1 1) 1 (fun _ => s) (strs_one W s) (by omega)))
  have hcd0 := matC_ref n S
  clear hc
  by_cases h32 : 32 < n
  · have hcd : Hid (matC n S = 3) := by show _ = _; rw [hcd0, if_pos h32]
    have s1 : (32 : Int) < (n : Int) := by omega
    clear hcd0
    go_enter Tryd.func33, Tryd.ntmps33
    go_wp2_with fail
    go_ret
    exact ⟨ret_int hcd.out.symm, Kept.refl _⟩
  rw [if_neg h32] at hcd0
  have hcd := Lib.hid hcd0
  have s1 : ¬ (32 : Int) < (n : Int) := by omega
  clear hcd0
  go_enter Tryd.func33, Tryd.ntmps33
  go_wp2_with fail
  go_loopg [3] n (fun g s3 wr => ∃ i : Nat, i ≤ n ∧ g = n - i ∧ s3 = .int .i64 i ∧ Quiet w wr ∧ Hid (allN (fun i => decide ((S i).size ≤ 64)) i = true))
  case atStart => exact ⟨0, Nat.zero_le _, rfl, rfl, Quiet.refl _, rfl⟩
  case round =>
    obtain ⟨i, hi, rfl, rfl, hQ, hA⟩ := hrel
    by_cases hlt : i < n
    · obtain rfl := ha (by omega)
      have t0 := hQ.kept.cellSome (HC.out i hlt)
      (try dsimp only at t0)
      have s3 : (i : Int) < (n : Int) := by omega
      have s4 : (0 : Int) ≤ (i : Int) := by omega
      by_cases he : (S i).size ≤ 64
      · have hA2 : Hid (allN (fun i => decide ((S i).size ≤ 64)) (i + 1) = true) := allN_step hA.out (decide_eq_true he)
        have e1 : ¬ (64 : Int) < ((S i).size : Int) := by omega
        clear hA he
        generalize S i = s at *
        go_wp2_with fail
        go_roundg (n - (i + 1))
        case measure => omega
        case rel => exact ⟨i + 1, by omega, rfl, by first | rfl | go_num, hQ, hA2.out⟩
      · have hbad : Hid (matC n S = 3) := by show _ = _; rw [hcd.out, allN_false hlt (decide_eq_false he)]; rfl
        have e1 : (64 : Int) < ((S i).size : Int) := by omega
        clear hA he
        generalize S i = s at *
        go_wp2_with fail
        go_ret
        exact ⟨ret_int hbad.out.symm, hQ.kept⟩
    · obtain rfl : i = n := by omega
      have hcd2 : Hid (matC i S = if allN (fun j => decide ((S j).size = i) && decide (rowC (S j) = 0)) i then (if i = 0 then 2 else 0) else 2) := by show _ = _; rw [hcd.out, hA.out]; rfl
      have hsz : Hid (∀ j, j < i → (S j).size ≤ 64) := fun j hj => by simpa using allN_true.1 hA.out j hj
      have s3 : ¬ (i : Int) < (i : Int) := by omega
      have hKq := hQ.kept
      clear hA hcd hQ
      obtain ⟨Wo, rfl⟩ : ∃ Wo : World, Wo = wr := ⟨_, rfl⟩
      go_wp2_with fail
      go_loopg [4] i (fun g s4 wi => ∃ j : Nat, j ≤ i ∧ g = i - j ∧ s4 = .int .i64 j ∧ Kept w wi ∧ Hid (allN (fun j => decide ((S j).size = i) && decide (rowC (S j) = 0)) j = true))
      case atStart => exact ⟨0, Nat.zero_le _, rfl, rfl, hKq, rfl⟩
      case round =>
        obtain ⟨j, hj, rfl, rfl, hK, hB⟩ := hrel
        by_cases hlt : j < i
        · obtain rfl := ha (by omega)
          have t0 := hK.cellSome (HC.out j hlt)
          (try dsimp only at t0)
          have s4 : (j : Int) < (i : Int) := by omega
          have s5 : (0 : Int) ≤ (j : Int) := by omega
          have RWj := Lib.hid (fun W => RW.out W (S j))
          simp only [rowsC_one] at RWj
          by_cases he : (S j).size = i
          · by_cases hr : rowC (S j) = 0
            · have hB2 : Hid (allN (fun j => decide ((S j).size = i) && decide (rowC (S j) = 0)) (j + 1) = true) := allN_step hB.out (by rw [decide_eq_true he, decide_eq_true hr]; rfl)
              have e1 : (((S j).size : Int) != (i : Int)) = false := by simp [he]
              rw [hr] at RWj
              clear hB he hr
              generalize S j = s at *
              go_wp2_with (first | (go_at_call 19; refine (RWj.out _).mono ?_; rintro e w1 ⟨rfl, hq1⟩; have hk2 := (hK.alloc _).trans hq1.kept))
              go_roundg (i - (j + 1))
              case measure => omega
              case rel => exact ⟨j + 1, by omega, rfl, by first | rfl | go_num, hk2, hB2.out⟩
            · have hbad : Hid (matC i S = 2) := by show _ = _; rw [hcd2.out, allN_false hlt (by rw [decide_eq_false hr, Bool.and_false])]; rfl
              have e1 : (((S j).size : Int) != (i : Int)) = false := by simp [he]
              have e2 : (rowC (S j) != 0) = true := by simpa using hr
              clear hB he hr
              generalize rowC (S j) = c at *
              generalize S j = s at *
              go_wp2_with (first | (go_at_call 19; refine (RWj.out _).mono ?_; rintro e w1 ⟨rfl, hq1⟩; have hk2 := (hK.alloc _).trans hq1.kept))
              go_ret
              exact ⟨ret_int hbad.out.symm, hk2⟩
          · have hbad : Hid (matC i S = 2) := by show _ = _; rw [hcd2.out, allN_false hlt (by rw [decide_eq_false he, Bool.false_and])]; rfl
            have e1 : (((S j).size : Int) != (i : Int)) = true := by simp; omega
            clear hB he
            generalize S j = s at *
            go_wp2_with fail
            go_ret
            exact ⟨ret_int hbad.out.symm, hK⟩
        · obtain rfl : j = i := by omega
          have s4 : ¬ (j : Int) < (j : Int) := by omega
          have hcd3 : Hid (matC j S = if j = 0 then 2 else 0) := by show _ = _; rw [hcd2.out, hB.out]; rfl
          clear hB hcd2
          by_cases h0 : j = 0
          · subst h0
            have hres : Hid (matC 0 S = 2) := by show _ = _; rw [hcd3.out]; rfl
            go_wp2_with fail
            go_ret
            exact ⟨ret_int hres.out.symm, hK⟩
          · have e1 : ((j : Int) == 0) = false := by rw [beq_eq_false_iff_ne]; omega
            have hres : Hid (matC j S = 0) := by show _ = _; rw [hcd3.out, if_neg h0]
            go_wp2_with fail
            go_ret
            exact ⟨ret_int hres.out.symm, hK⟩
theorem sgS_cases' (s : ByteArray) (i : Nat) : sgS s i = 1 ∨ sgS s i = -1 := by unfold sgS; split <;> simp
/-- the sum of the first m products of two rows -/
def dotP (M : Nat → Nat → Bool) (i k m : Nat) : Int := sumZ (fun j => sg (M i j) * sg (M k j)) m
theorem dotP_full (M : Nat → Nat → Bool) (i k n : Nat) : dotP M i k n = lkN (M i) (M k) n := rfl
theorem dotP_le (M : Nat → Nat → Bool) (i k m : Nat) : -(m : Int) ≤ dotP M i k m ∧ dotP M i k m ≤ m := lkN_bound _ _ _
set_option maxRecDepth 100000 in
set_option maxHeartbeats 8000000 in
theorem rRight_any (w : World) (v : Value) (n : Nat) (M : Nat → Nat → Bool) (hV : StrsAt w v n (fun i => rowS n (M i))) (hn : n ≤ 100) :
    Calls Tryd.prog 34 #[v] w fun e w' => e = .returned (.bool (rgtB n M)) ∧ Quiet w w' := by
  obtain ⟨a, b, o, cap, rfl, ha, hc⟩ := hV
  have HC := Lib.hid hc
  have SG := Lib.hid (fun W i j (h : j < n) => show Calls Tryd.prog 58 #[.string (rowS n (M i)), .int .i64 (j : Int)] W fun e w' => e = .returned (.int .i64 (sg (M i j))) ∧ W = w' by
    have h2 := Sign_any W (rowS n (M i)) j (by rw [rowS_size]; exact h)
    rw [sgS_row h] at h2
    exact h2)
  clear hc
  go_enter Tryd.func34, Tryd.ntmps34
  go_wp2_with fail
  go_loopg [3] n (fun g s3 wr => ∃ i : Nat, i ≤ n ∧ g = n - i ∧ s3 = .int .i64 i ∧ Quiet w wr ∧ Hid (allN (rgtR n M) i = true))
  case atStart => exact ⟨0, Nat.zero_le _, rfl, rfl, Quiet.refl _, rfl⟩
  case round =>
    obtain ⟨i, hi, rfl, rfl, hQ, hA⟩ := hrel
    by_cases hlt : i < n
    · obtain rfl := ha (by omega)
      have s3 : (i : Int) < (n : Int) := by omega
      have s4 : (0 : Int) ≤ (i : Int) := by omega
      obtain ⟨Wo, rfl⟩ : ∃ Wo : World, Wo = wr := ⟨_, rfl⟩
      go_wp2_with fail
      go_loopg [4] i (fun g s4 wi => ∃ k : Nat, k ≤ i ∧ g = i - k ∧ s4 = .int .i64 k ∧ Quiet w wi ∧ Hid (allN (fun k => decide (lkN (M i) (M k) n = 0)) k = true))
      case atStart => exact ⟨0, Nat.zero_le _, rfl, rfl, hQ, rfl⟩
      case round =>
        obtain ⟨k, hk, rfl, rfl, hQ2, hB⟩ := hrel
        by_cases hlt2 : k < i
        · have s5 : (k : Int) < (i : Int) := by omega
          have s6 : (0 : Int) ≤ (k : Int) := by omega
          have s7 : (k : Int) < (n : Int) := by omega
          have c0 := Lib.hid (HC.out i hlt)
          have c1 := Lib.hid (HC.out k (by omega))
          have SG1 := Lib.hid (fun W j h => SG.out W i j h)
          have SG2 := Lib.hid (fun W j h => SG.out W k j h)
          have hyes : Hid (lkN (M i) (M k) n = 0 → allN (fun k => decide (lkN (M i) (M k) n = 0)) (k + 1) = true) := fun h => allN_step hB.out (decide_eq_true h)
          have hno : Hid (¬ lkN (M i) (M k) n = 0 → rgtB n M = false) := fun h => allN_false hlt (allN_false hlt2 (decide_eq_false h))
          have hfull : Hid (lkN (M i) (M k) n = dotP M i k n) := (dotP_full M i k n).symm
          have R1e : ∃ R1, R1 = rowS n (M i) := ⟨_, rfl⟩
          obtain ⟨R1, HR1⟩ := R1e
          obtain ⟨R2, HR2⟩ : ∃ R2, R2 = rowS n (M k) := ⟨_, rfl⟩
          rw [← HR1] at SG1
          rw [← HR2] at SG2
          have c0' : w.cell? ⟨b, o + i, none⟩ = some (.string R1) := by rw [HR1]; exact c0.out
          have c1' : w.cell? ⟨b, o + k, none⟩ = some (.string R2) := by rw [HR2]; exact c1.out
          have D0 := Lib.hid c0'
          have D1 := Lib.hid c1'
          clear c0 c1 c0' c1' HR1 HR2 hB
          obtain ⟨Wp, rfl⟩ : ∃ Wp : World, Wp = wr := ⟨_, rfl⟩
          go_wp2_with fail
          go_loopg [5, 6] n (fun g s5 s6 wj => ∃ j : Nat, j ≤ n ∧ g = n - j ∧ s5 = .int .i64 (dotP M i k j) ∧ s6 = .int .i64 j ∧ Quiet w wj)
          case atStart => exact ⟨0, Nat.zero_le _, rfl, rfl, rfl, hQ2⟩
          case round =>
            obtain ⟨j, hj, rfl, rfl, rfl, hQ3⟩ := hrel
            have hbj := dotP_le M i k j
            by_cases hlt3 : j < n
            · have s8 : (j : Int) < (n : Int) := by omega
              have t0 := hQ3.kept.cellSome D0.out
              have t1 := hQ3.kept.cellSome D1.out
              have hb2 := dotP_le M i k (j + 1)
              have hnx : dotP M i k (j + 1) = dotP M i k j + sg (M i j) * sg (M k j) := rfl
              have SG1j := Lib.hid (fun W => SG1.out W j hlt3)
              have SG2j := Lib.hid (fun W => SG2.out W j hlt3)
              have hp : -1 ≤ sg (M i j) * sg (M k j) ∧ sg (M i j) * sg (M k j) ≤ 1 := by rw [sg_mul]; rcases sg_cases (M i j ^^ M k j) with h | h <;> rw [h] <;> omega
              obtain ⟨z, HZ⟩ : ∃ z, Hid (z = dotP M i k (j + 1)) := ⟨_, rfl⟩
              rw [← HZ.out] at hnx hb2
              generalize dotP M i k j = y at *
              generalize sg (M i j) = p at *
              generalize sg (M k j) = q at *
              obtain ⟨x, HX⟩ : ∃ x, x = p * q := ⟨_, rfl⟩
              rw [← HX] at hnx hp
              have e1 : p * q = x := HX.symm
              have v1 : IntKind.i64.wrap x = x := IntWalk.i64_in _ (by omega)
              have v2 : wrap64 x = x := IntWalk.wrap64_in _ (by omega)
              have v3 : IntKind.i64.wrap (y + x) = z := by rw [hnx]; exact IntWalk.i64_in _ (by omega)
              have v4 : wrap64 (y + x) = z := by rw [hnx]; exact IntWalk.wrap64_in _ (by omega)
              clear HX hnx
              go_wp2_with fail
              go_quiet ((go_at_call 58; first | exact quietS (SG1j.out _) | exact quietS (SG2j.out _)))
              go_wp2_with fail
              go_roundg (n - (j + 1))
              case measure => omega
              case rel => exact ⟨j + 1, by omega, rfl, by first | (rw [← HZ.out]; done) | (rw [← HZ.out]; simp only [v2, v4]; done) | (rw [← HZ.out]; simp only [v1, v3]; done), by first | rfl | go_num, hQ3.drewN _⟩
            · obtain rfl : j = n := by omega
              have s8 : ¬ (j : Int) < (j : Int) := by omega
              rw [hfull.out] at hyes hno
              generalize dotP M i k j = x at *
              by_cases hx : x = 0
              · have e1 : (x != 0) = false := by simp [hx]
                have hB2 := Lib.hid (hyes.out hx)
                clear hyes hno hx hfull hbj
                go_wp2_with fail
                go_roundg (i - (k + 1))
                case measure => omega
                case rel => exact ⟨k + 1, by omega, rfl, by first | rfl | go_num, hQ3, hB2.out⟩
              · have e1 : (x != 0) = true := by simpa using hx
                have hB2 := Lib.hid (hno.out hx)
                clear hyes hno hx hfull hbj
                go_wp2_with fail
                go_ret
                exact ⟨ret_bool hB2.out.symm, hQ3⟩
        · obtain rfl : k = i := by omega
          have s5 : ¬ (k : Int) < (k : Int) := by omega
          have hA2 : Hid (allN (rgtR n M) (k + 1) = true) := allN_step hA.out hB.out
          clear hA hB
          go_wp2_with fail
          go_roundg (n - (k + 1))
          case measure => omega
          case rel => exact ⟨k + 1, by omega, rfl, by first | rfl | go_num, hQ2, hA2.out⟩
    · obtain rfl : i = n := by omega
      have s3 : ¬ (i : Int) < (i : Int) := by omega
      go_wp2_with fail
      go_ret
      exact ⟨ret_bool hA.out.symm, hQ⟩
/-- the rows that are the columns -/
def colS (n : Nat) (M : Nat → Nat → Bool) (j : Nat) : ByteArray := rowS n (fun i => M i j)
set_option maxRecDepth 100000 in
set_option maxHeartbeats 8000000 in
theorem rColumns_any (w : World) (v : Value) (n : Nat) (M : Nat → Nat → Bool) (hV : StrsAt w v n (fun i => rowS n (M i))) (hn : n ≤ 100) :
    Calls Tryd.prog 49 #[v] w (StrsPost w n (colS n M)) := by
  obtain ⟨i0, hi, hz0, hz1, hz2⟩ := info_parts Tryd.info9
  obtain ⟨a, b, o, cap, rfl, ha, hc⟩ := hV
  have HC := Lib.hid hc
  have hO0 := own_zero w w.heap.size 9 (Nat.le_refl _)
  have hK0 : Kept w (w.alloc (.cells #[] 9)) := (Kept.refl w).alloc _
  clear hc
  go_enter Tryd.func49, Tryd.ntmps49
  go_wp2_with fail
  have hsz0 : w.heap.size < (w.alloc (.cells #[] 9)).heap.size := by simp
  obtain ⟨G, HG⟩ : ∃ G, Hid (G = w.heap.size) := ⟨_, rfl⟩
  generalize w.alloc (.cells #[] 9) = W0 at *
  go_loopg [3, 4] n (fun g s3 s4 wr => ∃ j : Nat, j ≤ n ∧ g = n - j ∧ s4 = .int .i64 j ∧ Kept w wr ∧ wr.ownsRow w.heap.size 9 1 s3 j (strs (colS n M) j) ∧ w.heap.size < wr.heap.size)
  case atStart => exact ⟨0, Nat.zero_le _, rfl, rfl, hK0, hO0, hsz0⟩
  case round =>
    obtain ⟨j, hj1, rfl, rfl, hK, hO, hsz⟩ := hrel
    clear hK0 hO0 hsz0
    obtain ⟨va, vcap, rfl⟩ := own_shape hO
    by_cases hlt : j < n
    · have s3 : (j : Int) < (n : Int) := by omega
      have s0 : (0 : Int) ≤ (j : Int) := by omega
      have sj1 : (j : Int) ≤ (j : Int) + 1 := by omega
      have sj2 : (j : Int) + 1 ≤ (n : Int) := by omega
      have hwj1 : IntKind.i64.wrap (j : Int) = (j : Int) := IntWalk.i64_in _ (by omega)
      have hwj2 : IntKind.i64.wrap ((j : Int) + 1) = (j : Int) + 1 := IntWalk.i64_in _ (by omega)
      have etj : ((j : Int) + 1).toNat = j + 1 := by omega
      obtain rfl := ha (by omega)
      obtain ⟨Wo, rfl⟩ : ∃ Wo : World, Wo = wr := ⟨_, rfl⟩
      go_wp2_with fail
      go_loopg [5, 6] n (fun g s5 s6 wi => ∃ i : Nat, i ≤ n ∧ g = n - i ∧ s5 = .string (rowS i (fun i => M i j)) ∧ s6 = .int .i64 i ∧ Quiet Wo wi)
      case atStart => exact ⟨0, Nat.zero_le _, by omega, rfl, rfl, Quiet.refl _⟩
      case round =>
        obtain ⟨i, hi', rfl, rfl, rfl, hQ⟩ := hrel
        have hszj : (rowS i (fun i => M i j)).size = i := rowS_size _ _
        by_cases hlt2 : i < n
        · have s4 : (i : Int) < (n : Int) := by omega
          have s5 : (0 : Int) ≤ (i : Int) := by omega
          have t0 := hQ.kept.cellSome (hK.cellSome (HC.out i hlt2))
          (try dsimp only at t0)
          have s6 : ¬ 9223372036854775807 < i + 1 := by omega
          have hsn := Lib.hid (row_snoc i (fun i => M i j))
          have hxx : Hid ((rowS n (M i)).extract j (j + 1) = rowS 1 (fun _ => M i j)) := by
            show _ = _
            rw [rowS_extract _ _ _ _ (by omega), show j + 1 - j = 1 by omega]
            exact rowS_congr fun t ht => by rw [show j + t = j by omega]
          have hxs : ((rowS n (M i)).extract j (j + 1)).size = 1 := by rw [hxx.out]; exact rowS_size _ _
          have hRs : (rowS n (M i)).size = n := rowS_size _ _
          obtain ⟨R', HR'⟩ : ∃ R', R' = rowS (i + 1) (fun i => M i j) := ⟨_, rfl⟩
          have hres : Hid (R' = rowS i (fun i => M i j) ++ (rowS n (M i)).extract j (j + 1)) := by show _ = _; rw [HR', hsn.out, hxx.out]
          clear hsn hxx
          generalize rowS n (M i) = R1 at *
          generalize rowS i (fun i => M i j) = R at *
          go_wp2_with fail
          go_roundg (n - (i + 1))
          case measure => omega
          case rel => exact ⟨i + 1, by omega, rfl, by first | (rw [← HR', hres.out]) | (rw [← HR', hres.out]; rfl), by first | rfl | go_num, by first | exact hQ | exact hQ.drewN _⟩
        · obtain rfl : i = n := by omega
          have s4 : ¬ (i : Int) < (i : Int) := by omega
          have hK1 := hK.trans hQ.kept
          have hO1 := own_kept hO hQ.kept
          have hsz1 := Nat.lt_of_lt_of_le hsz hQ.kept.size
          have hnx : Hid (strs (colS i M) (j + 1) = strs (colS i M) j ++ [.string (rowS i (fun i => M i j))]) := strs_succ _ _
          generalize rowS i (fun i => M i j) = R at *
          clear hK hO hsz hQ
          go_wp2_with (first | (at_builtin; refine wpList_append_own _ rfl _ _ 42 rfl w.heap.size 9 i0 (.string ⟨#[]⟩) 1 16 Tryd.underlying42 hi hz0 hz1 hz2 rfl (by decide) _ _ _ rfl (hO1.alloc _) ⟨_, 0, none⟩ 1 1 [.string R] rfl rfl (cell_one_new _ _ _) ?c2 ?c3 ?c4 ?c5 ?_))
          case c2 => simp [Value.oneCell']
          case c3 => unfold maxLen; omega
          case c4 => omega
          case c5 => (try simp); omega
          intro ov' w2 hO3 hgr _
          have hK2 : Kept w w2 := (hK1.alloc _).grew hgr (hO1.alloc _) (Nat.le_refl _)
          have hO4 : w2.ownsRow w.heap.size 9 1 ov' (j + 1) (strs (colS i M) (j + 1)) := by rw [hnx.out]; exact hO3
          have hsz2 : w.heap.size < w2.heap.size := by have := hgr.size; simp at this; omega
          clear hO3 hgr hO1
          go_wp2_with fail
          go_roundg (i - (j + 1))
          case measure => omega
          case rel => exact ⟨j + 1, by omega, rfl, by first | rfl | go_num, hK2, hO4, hsz2⟩
    · obtain rfl : j = n := by omega
      have s3 : ¬ (j : Int) < (j : Int) := by omega
      go_wp2_with fail
      go_ret
      exact ⟨_, rfl, hK, hO⟩
end Go.Proofs.YtofgadehblpoiaaDoor
