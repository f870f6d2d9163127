/-
  The reference of gait: Row, Squares, Minus, Back.
-/
import Derived.Test.YthigeafojekclaaDoorRs
namespace Go.Proofs.YthigeafojekclaaDoor
open Go.RowKit Go.Deep Go.Shelf

theorem two_false {c : Int} {b : Bool} (h1 : (c != 43) = true) (h2 : (c != 45) = b) : isSg c = !b := by
  unfold isSg
  cases b
  · simp at h1 h2; simp [h2]
  · simp at h1 h2; simp [h1, h2]
set_option maxRecDepth 100000 in
set_option maxHeartbeats 4000000 in
theorem Row_any (w : World) (v : Value) (n : Nat) (S : Nat → ByteArray) (hV : StrsAt w v n S) (hn : n ≤ 1000000) :
    Calls Tryd.prog 9 #[v] w fun e w' => e = .returned (.int .i64 (rowsC n S)) ∧ Quiet w w' := by
  obtain ⟨a, b, o, cap, rfl, ha, hc⟩ := hV
  have HC := Lib.hid hc
  clear hc
  go_enter Tryd.func9, Tryd.ntmps9
  go_wp2_with fail
  go_loopg [3] n (fun g s3 wr => ∃ i : Nat, i ≤ n ∧ g = n - i ∧ s3 = .int .i64 i ∧ Quiet w wr ∧ Hid (allN (fun i => decide ((S i).size ≤ 64)) i = true))
  case atStart => exact ⟨0, Nat.zero_le _, rfl, rfl, Quiet.refl _, rfl⟩
  case round =>
    obtain ⟨i, hi, rfl, rfl, hQ, hA⟩ := hrel
    by_cases hlt : i < n
    · obtain rfl := ha (by omega)
      have t0 := hQ.kept.cellSome (HC.out i hlt)
      have s2 : (i : Int) < (n : Int) := by omega
      have s3 : (0 : Int) ≤ (i : Int) := by omega
      obtain ⟨s, Hs⟩ : ∃ s, Hid (s = S i) := ⟨_, rfl⟩
      rw [← Hs.out] at t0
      by_cases h1 : s.size ≤ 64
      · have e1 : ¬ (64 : Int) < (s.size : Int) := by omega
        have hA2 : Hid (allN (fun i => decide ((S i).size ≤ 64)) (i + 1) = true) := allN_step hA.out (by rw [← Hs.out]; simpa using h1)
        clear hA
        go_wp2_with fail
        go_roundg (n - (i + 1))
        case measure => omega
        case rel => exact ⟨i + 1, by omega, rfl, by first | rfl | go_num, hQ, hA2.out⟩
      · have e1 : (64 : Int) < (s.size : Int) := by omega
        have hr : Hid (rowsC n S = 3) := by
          show _ = _
          unfold rowsC
          rw [allN_false hlt (by rw [← Hs.out]; simpa using h1)]
          rfl
        clear hA
        go_wp2_with fail
        go_ret
        exact ⟨ret_int hr.out.symm, hQ⟩
    · obtain rfl : i = n := by omega
      have hr : Hid (rowsC i S = if allN (fun j => okS (S j)) i then 0 else 2) := by
        show _ = _
        unfold rowsC
        rw [hA.out]
        rfl
      have hsz : Hid (∀ j, j < i → (S j).size ≤ 64) := fun j hj => by simpa using allN_true.1 hA.out j hj
      clear hA
      go_wp2_with fail
      go_loopg [4] i (fun g s4 wr => ∃ j : Nat, j ≤ i ∧ g = i - j ∧ s4 = .int .i64 j ∧ Quiet w wr ∧ Hid (allN (fun j => okS (S j)) j = true))
      case atStart => exact ⟨0, Nat.zero_le _, rfl, rfl, hQ, rfl⟩
      case round =>
        obtain ⟨j, hj, rfl, rfl, hK, hA⟩ := hrel
        by_cases hlt : j < i
        · obtain rfl := ha (by omega)
          have t0 := hK.kept.cellSome (HC.out j hlt)
          have s2 : (j : Int) < (i : Int) := by omega
          have s3 : (0 : Int) ≤ (j : Int) := by omega
          have hz := hsz.out j hlt
          obtain ⟨s, Hs⟩ : ∃ s, Hid (s = S j) := ⟨_, rfl⟩
          rw [← Hs.out] at t0 hz
          by_cases h0 : s.size = 0
          · have e0 : ((s.size : Int) == 0) = true := by simp [h0]
            have hbad : Hid (rowsC i S = 2) := by
              show _ = _
              rw [hr.out, allN_false hlt (by rw [← Hs.out]; unfold okS; simp [h0])]
              rfl
            clear hA h0 hz
            go_wp2_with fail
            go_ret
            exact ⟨ret_int hbad.out.symm, hK⟩
          · have e0 : ((s.size : Int) == 0) = false := beq_eq_false_iff_ne.2 (by omega)
            have h0p : 0 < s.size := by omega
            clear h0
            obtain ⟨Wo, rfl⟩ : ∃ Wo : World, Wo = wr := ⟨_, rfl⟩
            go_wp2_with fail
            go_loopg [5] s.size (fun g s5 wi => ∃ k : Nat, k ≤ s.size ∧ g = s.size - k ∧ s5 = .int .i64 k ∧ Wo = wi ∧ Hid (allN (fun i => isSg (chr s i)) k = true))
            case atStart => exact ⟨0, Nat.zero_le _, rfl, rfl, rfl, rfl⟩
            case round =>
              obtain ⟨k, hk, rfl, rfl, rfl, hB⟩ := hrel
              by_cases hlk : k < s.size
              · have s4 : (k : Int) < (s.size : Int) := by omega
                have s5 : (0 : Int) ≤ (k : Int) := by omega
                have hat := chr_at hlk
                obtain ⟨c, HCC⟩ : ∃ c, Hid (c = chr s k) := ⟨_, rfl⟩
                rw [← HCC.out] at hat
                cases e1 : (c != 43) with
                | false =>
                  have hB2 : Hid (allN (fun i => isSg (chr s i)) (k + 1) = true) := allN_step hB.out (by rw [← HCC.out]; unfold isSg; simp at e1; simp [e1])
                  clear hB HCC
                  go_wp2_with fail
                  go_roundg (s.size - (k + 1))
                  case measure => omega
                  case rel => exact ⟨k + 1, by omega, rfl, by first | rfl | go_num, rfl, hB2.out⟩
                | true =>
                  cases e2 : (c != 45) with
                  | false =>
                    have hB2 : Hid (allN (fun i => isSg (chr s i)) (k + 1) = true) := allN_step hB.out (by rw [← HCC.out]; exact two_false e1 e2)
                    clear hB HCC
                    go_wp2_with fail
                    go_roundg (s.size - (k + 1))
                    case measure => omega
                    case rel => exact ⟨k + 1, by omega, rfl, by first | rfl | go_num, rfl, hB2.out⟩
                  | true =>
                    have hbad : Hid (rowsC i S = 2) := by
                      show _ = _
                      rw [hr.out, allN_false hlt (by rw [← Hs.out]; unfold okS allSg; rw [allN_false hlk (by rw [← HCC.out]; exact two_false e1 e2)]; simp)]
                      rfl
                    clear hB HCC hA
                    go_wp2_with fail
                    go_ret
                    exact ⟨ret_int hbad.out.symm, hK⟩
              · obtain rfl : k = s.size := by omega
                have hA2 : Hid (allN (fun j => okS (S j)) (j + 1) = true) := allN_step hA.out (by rw [← Hs.out]; unfold okS allSg; rw [hB.out]; simp; omega)
                have s4 : ¬ (s.size : Int) < (s.size : Int) := by omega
                clear hA hB
                go_wp2_with fail
                go_roundg (i - (j + 1))
                case measure => omega
                case rel => exact ⟨j + 1, by omega, rfl, by first | rfl | go_num, hK, hA2.out⟩
        · obtain rfl : j = i := by omega
          have hgood : Hid (rowsC j S = 0) := by show _ = _; rw [hr.out, hA.out]; rfl
          go_wp2_with fail
          go_ret
          exact ⟨ret_int hgood.out.symm, hK⟩
end Go.Proofs.YthigeafojekclaaDoor
