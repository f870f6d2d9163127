/-
  The reference of mark: Part.
-/
import Derived.Test.YtgphaggkgcnidaaMa
namespace Go.Proofs.Ytgphaggkgcnidaa
open Go.RowKit Go.Deep

theorem sub_step {s t : Wd} {k i : Nat} (hk : k < s.length) (hi : i < t.length) : (s.drop k).isSublist (t.drop i) = if t[i] = s[k] then (s.drop (k + 1)).isSublist (t.drop (i + 1)) else (s.drop k).isSublist (t.drop (i + 1)) := by
  conv => lhs; rw [List.drop_eq_getElem_cons hk, List.drop_eq_getElem_cons hi]
  simp only [List.isSublist]
  by_cases h : t[i] = s[k]
  · rw [if_pos h, h]; simp
  · rw [if_neg h]
    have : (s[k] == t[i]) = false := by simp only [beq_eq_false_iff_ne]; exact fun e => h e.symm
    rw [this, ← List.drop_eq_getElem_cons hk]; rfl
set_option maxRecDepth 100000 in
set_option maxHeartbeats 1000000 in
theorem rPart_any (w : World) (s t : Wd) (hs : s.length ≤ 1000) (ht : t.length ≤ 1000) : Calls Try.prog 55 #[.string (bs s), .string (bs t)] w fun e w' => e = .returned (.bool (s.isSublist t)) ∧ Quiet w w' := by
  obtain ⟨n, HN⟩ : ∃ n, Hid (n = s.length) := ⟨_, rfl⟩
  obtain ⟨m, HM⟩ : ∃ n, Hid (n = t.length) := ⟨_, rfl⟩
  obtain ⟨X, HX⟩ : ∃ x : ByteArray, Hid (x = bs s) := ⟨_, Lib.hid rfl⟩
  obtain ⟨Y, HY⟩ : ∃ x : ByteArray, Hid (x = bs t) := ⟨_, Lib.hid rfl⟩
  obtain ⟨R, HR⟩ : ∃ x, Hid (x = s.isSublist t) := ⟨_, rfl⟩
  have hxs : X.size = n := by rw [HX.out, HN.out]; rfl
  have hys : Y.size = m := by rw [HY.out, HM.out]; rfl
  rw [← HN.out] at hs
  rw [← HM.out] at ht
  rw [← HX.out, ← HY.out, ← HR.out]
  go_enter Try.func55, Try.ntmps55
  go_wp2_with fail
  go_loopg [5, 6] m (fun g s5 s6 wr => ∃ k i : Nat, k ≤ n ∧ i ≤ m ∧ g = m - i ∧ s5 = .int .i64 k ∧ s6 = .int .i64 i ∧ Quiet w wr ∧ Hid (R = (s.drop k).isSublist (t.drop i)))
  case atStart => exact ⟨0, 0, Nat.zero_le _, Nat.zero_le _, rfl, rfl, rfl, Quiet.refl _, HR⟩
  case round =>
    obtain ⟨k, i, hk, hi, rfl, rfl, rfl, hQ, HI⟩ := hrel
    by_cases hlt : i < m
    · have s2 : (i : Int) < (m : Int) := by omega
      have s3 : (0 : Int) ≤ (i : Int) := by omega
      by_cases hkn : k < n
      · have s4 : (k : Int) < (n : Int) := by omega
        have s5 : (0 : Int) ≤ (k : Int) := by omega
        have hkL : k < s.length := by rw [← HN.out]; exact hkn
        have hiL : i < t.length := by rw [← HM.out]; exact hlt
        have hkX : k < X.size := by rw [hxs]; exact hkn
        have hiY : i < Y.size := by rw [hys]; exact hlt
        have hatX := chr_at hkX
        have hatY := chr_at hiY
        have hcX : Hid (chr X k = (s[k].toNat : Int)) := by show _ = _; rw [HX.out]; exact chr_bs hkL
        have hcY : Hid (chr Y i = (t[i].toNat : Int)) := by show _ = _; rw [HY.out]; exact chr_bs hiL
        have hst := Lib.hid (sub_step hkL hiL)
        obtain ⟨cx, HCX⟩ : ∃ x, Hid (x = chr X k) := ⟨_, rfl⟩
        obtain ⟨cy, HCY⟩ : ∃ x, Hid (x = chr Y i) := ⟨_, rfl⟩
        rw [← HCX.out] at hatX hcX
        rw [← HCY.out] at hatY hcY
        by_cases h : t[i] = s[k]
        · have e1 : (cy == cx) = true := by rw [hcX.out, hcY.out, h]; simp
          have hnx : Hid (R = (s.drop (k + 1)).isSublist (t.drop (i + 1))) := by show _ = _; rw [HI.out, hst.out, if_pos h]
          clear h hcX hcY HCX HCY HI hst
          go_wp2_with fail
          go_quiet (fail)
          go_wp2_with fail
          go_roundg (m - (i + 1))
          case measure => omega
          case rel => exact ⟨k + 1, i + 1, by omega, by omega, rfl, by first | rfl | go_num, by first | rfl | go_num, hQ.drewN _, hnx⟩
        · have e1 : (cy == cx) = false := by
            rw [hcX.out, hcY.out]; simp only [beq_eq_false_iff_ne]; intro hh; exact h (UInt8.toNat_inj.1 (by omega))
          have hnx : Hid (R = (s.drop k).isSublist (t.drop (i + 1))) := by show _ = _; rw [HI.out, hst.out, if_neg h]
          clear h hcX hcY HCX HCY HI hst
          go_wp2_with fail
          go_quiet (fail)
          go_wp2_with fail
          go_roundg (m - (i + 1))
          case measure => omega
          case rel => exact ⟨k, i + 1, by omega, by omega, rfl, by first | rfl | go_num, by first | rfl | go_num, hQ.drewN _, hnx⟩
      · obtain rfl : k = n := by omega
        have s4 : ¬ (k : Int) < (k : Int) := by omega
        have hres : Hid (R = true) := by show _ = _; rw [HI.out, HN.out, List.drop_length]; simp [List.isSublist]
        clear HI
        go_wp2_with fail
        go_ret
        exact ⟨ret_bool (by rw [hres.out]; try simp), hQ⟩
    · obtain rfl : i = m := by omega
      have s2 : ¬ (i : Int) < (i : Int) := by omega
      by_cases hkn : k < n
      · have hres : Hid (R = false) := by
          show _ = _
          have hkL : k < s.length := by rw [← HN.out]; exact hkn
          rw [HI.out, HM.out, List.drop_length, List.drop_eq_getElem_cons hkL]; rfl
        have e1 : ((k : Int) == (n : Int)) = false := by simp only [beq_eq_false_iff_ne]; omega
        clear HI
        go_wp2_with fail
        go_ret
        exact ⟨ret_bool (by rw [hres.out]; try rfl), hQ⟩
      · obtain rfl : k = n := by omega
        have hres : Hid (R = true) := by show _ = _; rw [HI.out, HN.out, List.drop_length]; simp [List.isSublist]
        clear HI
        go_wp2_with fail
        go_ret
        exact ⟨ret_bool (by rw [hres.out]; try simp), hQ⟩
end Go.Proofs.Ytgphaggkgcnidaa
