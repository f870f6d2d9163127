/-
  The reference's Same: are two lists of words the same?
-/
import Derived.Test.YtjcgplocifmolaaMa
namespace Go.Proofs.Ytjcgplocifmolaa
open Go.RowKit Go.Deep

theorem toList_inj {a b : ByteArray} (h : a.toList = b.toList) : a = b := by
  rw [ByteArray.toList_eq, ByteArray.toList_eq] at h
  obtain ⟨⟨x⟩⟩ := a
  obtain ⟨⟨y⟩⟩ := b
  simp at h
  rw [h]
theorem beq_yes {a b : ByteArray} (h : a = b) : (a.toList == b.toList) = true := by rw [h]; simp
theorem beq_no {a b : ByteArray} (h : ¬ a = b) : (a.toList == b.toList) = false := by
  cases e : (a.toList == b.toList)
  · rfl
  · exact absurd (toList_inj (by simpa using e)) h
theorem same_iff {L M : List Wd} (h : L.length = M.length) : allN (fun i => decide (L.getD i [] = M.getD i [])) L.length = decide (L = M) := by
  rw [Bool.eq_iff_iff, allN_true, decide_eq_true_iff]
  constructor
  · intro h2
    apply List.ext_getElem h
    intro i h3 h4
    have := of_decide_eq_true (h2 i h3)
    rwa [getD_at h3, getD_at h4] at this
  · rintro rfl i _; simp
set_option maxRecDepth 100000 in
set_option maxHeartbeats 1000000 in
theorem rSame_any (w : World) (va vb : Value) (L M : List Wd) (ha : WdsAt w va L) (hb : WdsAt w vb M) (hn : L.length ≤ 1000000) (hm : M.length ≤ 1000000) :
    Calls Try.prog 16 #[va, vb] w fun e w' => e = .returned (.bool (decide (L = M))) ∧ Quiet w w' := by
  obtain ⟨a, b, o, cap, rfl, ha, hc⟩ := ha
  obtain ⟨a2, b2, o2, cap2, rfl, ha2, hc2⟩ := hb
  have HC := Lib.hid hc
  have HC2 := Lib.hid hc2
  clear hc hc2
  obtain ⟨n, HN⟩ : ∃ n, Hid (n = L.length) := ⟨_, rfl⟩
  obtain ⟨m, HM⟩ : ∃ n, Hid (n = M.length) := ⟨_, rfl⟩
  rw [← HN.out] at ha hn HC ⊢
  rw [← HM.out] at ha2 hm HC2 ⊢
  by_cases h1 : n = m
  · subst h1
    have e1 : ((n : Int) != (n : Int)) = false := by simp
    have hs : Hid (decide (L = M) = allN (fun i => decide (L.getD i [] = M.getD i [])) n) := by show _ = _; rw [HN.out, same_iff (by rw [← HN.out, ← HM.out])]
    obtain ⟨R, HR⟩ : ∃ R, Hid (R = decide (L = M)) := ⟨_, rfl⟩
    rw [← HR.out] at hs ⊢
    go_enter Try.func16, Try.ntmps16
    go_wp2_with fail
    go_loopg [5] n (fun g s5 wr => ∃ i : Nat, i ≤ n ∧ g = n - i ∧ s5 = .int .i64 i ∧ Quiet w wr ∧ Hid (allN (fun i => decide (L.getD i [] = M.getD i [])) i = true))
    case atStart => exact ⟨0, Nat.zero_le _, rfl, rfl, Quiet.refl _, rfl⟩
    case round =>
      obtain ⟨i, hi, rfl, rfl, hQ, hA⟩ := hrel
      by_cases hlt : i < n
      · obtain rfl := ha (by omega)
        obtain rfl := ha2 (by omega)
        have t0 := hQ.kept.cellSome (HC.out i hlt)
        have t1 := hQ.kept.cellSome (HC2.out i hlt)
        (try dsimp only at t0 t1)
        have s2 : (i : Int) < (n : Int) := by omega
        have s3 : (0 : Int) ≤ (i : Int) := by omega
        by_cases h2 : L.getD i [] = M.getD i []
        · have hA2 : Hid (allN (fun i => decide (L.getD i [] = M.getD i [])) (i + 1) = true) := allN_step hA.out (decide_eq_true h2)
          rw [← h2] at t1
          obtain ⟨x, HX⟩ : ∃ x : ByteArray, Hid (x = bs (L.getD i [])) := ⟨_, Lib.hid rfl⟩
          rw [← HX.out] at t0 t1
          clear hA h2 HX
          go_wp2_with fail
          go_quiet (fail)
          go_wp2_with fail
          go_roundg (n - (i + 1))
          case measure => omega
          case rel => exact ⟨i + 1, by omega, rfl, by first | rfl | go_num, hQ.drewN _, hA2.out⟩
        · have hno : Hid (R = false) := by
            show _ = _
            rw [hs.out]
            exact allN_false hlt (decide_eq_false h2)
          have e2 := beq_no (a := bs (L.getD i [])) (b := bs (M.getD i [])) (fun h => h2 (bs_inj h))
          generalize bs (L.getD i []) = x at *
          generalize bs (M.getD i []) = y at *
          clear hA h2
          go_wp2_with fail
          go_quiet (fail)
          go_wp2_with fail
          go_ret
          exact ⟨ret_bool hno.out.symm, hQ.drewN _⟩
      · obtain rfl : i = n := by omega
        have s2 : ¬ (i : Int) < (i : Int) := by omega
        have hyes : Hid (R = true) := by show _ = _; rw [hs.out]; exact hA.out
        go_wp2_with fail
        go_ret
        exact ⟨ret_bool hyes.out.symm, hQ⟩
  · have e1 : ((n : Int) != (m : Int)) = true := by simp; omega
    have hno : Hid (decide (L = M) = false) := by
      show _ = _
      apply decide_eq_false
      intro e
      exact h1 (by rw [HN.out, HM.out, e])
    generalize decide (L = M) = R at *
    clear h1
    go_enter Try.func16, Try.ntmps16
    go_wp2_with fail
    go_ret
    exact ⟨ret_bool hno.out.symm, Quiet.refl _⟩
end Go.Proofs.Ytjcgplocifmolaa
