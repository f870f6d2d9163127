/-
  The herds that the laws derive are herds; degree.
-/
import Derived.Test.YtfbiinjpljmapaaDoorJf
import Derived.BigQuiet
namespace Go.Proofs.YtfbiinjpljmapaaDoor
open Go.RowKit Go.Deep

abbrev prA (l : List (Nat × Nat)) : Nat → Int := fun i => (((l.getD i (0, 0)).1 : Nat) : Int)
abbrev prB (l : List (Nat × Nat)) : Nat → Int := fun i => (((l.getD i (0, 0)).2 : Nat) : Int)
theorem madL_mem {s k : Nat} {p : Nat × Nat} (h : p ∈ madL s k) : p.2 < p.1 ∧ p.1 < k := by
  unfold madL madR at h
  rw [List.mem_flatMap] at h
  obtain ⟨i, hi, h⟩ := h
  rw [List.mem_map] at h
  obtain ⟨j, hj, rfl⟩ := h
  rw [List.mem_filter] at hj
  simp at hi hj
  exact ⟨hj.1, hi⟩
theorem mad_pairs (s k : Nat) : allN (pairB (k : Int) (prA (madL s k)) (prB (madL s k))) (madL s k).length = true := allN_true.2 fun i hi => by
  have h := madL_mem (s := s) (k := k) (p := (madL s k).getD i (0, 0)) (by
    rw [List.getD_eq_getElem?_getD, List.getElem?_eq_getElem hi]
    exact List.getElem_mem hi)
  unfold pairB prA prB
  simp only [Bool.and_eq_true, decide_eq_true_eq, bne_iff_ne, ne_eq]
  omega
theorem mad_len {s k : Nat} (hk : k ≤ 9) : (madL s k).length ≤ 36 := Nat.le_trans (madL_len s k) (triM_le hk)
theorem mad_good {s k : Nat} (h1 : 1 ≤ k) (hk : k ≤ 9) : goodH (k : Int) (prA (madL s k)) (prB (madL s k)) (madL s k).length = true := by
  have h := mad_len (s := s) hk
  unfold goodH
  rw [mad_pairs]
  simp
  omega
set_option maxRecDepth 100000 in
set_option maxHeartbeats 4000000 in
theorem degree_any (w : World) (v : Value) (n i : Nat) (F : Nat → Nat → Bool) (hG : GridAt w v n F) (hi : i < n) (hn : n ≤ 1000) :
    Calls Tryd.prog 27 #[v, .int .i64 i] w fun e w' => e = .returned (.int .i64 ((cnt (F i) n : Nat) : Int)) ∧ w = w' := by
  obtain ⟨g, cap, R, rfl, hG⟩ := hG
  have t0 := hG.sl i hi
  have hR := Lib.hid (hG.rw i hi)
  simp only [slV] at t0
  generalize R i = r at *
  have a0 : (0 : Int) ≤ (i : Int) := by omega
  have a1 : (i : Int) < (n : Int) := by omega
  clear hG
  go_enter Tryd.func27, Tryd.ntmps27
  go_wp2_with fail
  go_loopg [5, 6] n (fun q s5 s6 wr => ∃ k : Nat, k ≤ n ∧ q = n - k ∧ s6 = .int .i64 k ∧ s5 = .int .i64 ((cnt (F i) k : Nat) : Int) ∧ w = wr)
  case atStart => exact ⟨0, Nat.zero_le _, rfl, by first | rfl | go_num, by first | rfl | go_num, rfl⟩
  case round =>
    obtain ⟨k, hk, rfl, rfl, rfl, rfl⟩ := hrel
    by_cases hlt : k < n
    · have s1 : (k : Int) < (n : Int) := by omega
      have s2 : (0 : Int) ≤ (k : Int) := by omega
      have t1 := hR.out.cell hlt
      have hc := cnt_le (F i) k
      have hs : Hid (cnt (F i) (k + 1) = cnt (F i) k + (if F i k then 1 else 0)) := rfl
      obtain ⟨c, HC⟩ : ∃ c, Hid (c = cnt (F i) k) := ⟨_, rfl⟩
      rw [← HC.out] at hc hs ⊢
      obtain ⟨b, HB⟩ : ∃ b, Hid (b = F i k) := ⟨_, rfl⟩
      rw [← HB.out] at t1 hs
      clear HC HB
      cases b with
      | true =>
        go_wp2_with fail
        go_roundg (n - (k + 1))
        case measure => omega
        case rel => exact ⟨k + 1, by omega, rfl, by first | rfl | go_num, by rw [hs.out]; first | rfl | go_num, rfl⟩
      | false =>
        go_wp2_with fail
        go_roundg (n - (k + 1))
        case measure => omega
        case rel => exact ⟨k + 1, by omega, rfl, by first | rfl | go_num, by rw [hs.out]; simp, rfl⟩
    · obtain rfl : k = n := by omega
      go_wp2_with fail
      go_ret
      exact ⟨rfl, rfl⟩
end Go.Proofs.YtfbiinjpljmapaaDoor
