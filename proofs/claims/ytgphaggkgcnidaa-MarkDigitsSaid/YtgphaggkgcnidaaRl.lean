/-
  The reference of mark: Digits.
-/
import Derived.Test.YtgphaggkgcnidaaRk
import Derived.Test.YtgphaggkgcnidaaRi
namespace Go.Proofs.Ytgphaggkgcnidaa
open Go.RowKit Go.Deep Go.Sort

set_option maxRecDepth 100000 in
set_option maxHeartbeats 1000000 in
theorem rDigits_any (w : World) (n q a b : Nat) (hn1 : 1 ≤ n) (hn : n ≤ 6) (hq1 : 1 ≤ q) (hq : q ≤ 4) :
    Calls Try.prog 44 #[.int .i64 n, .int .i64 q, .int .i64 a, .int .i64 b] w (RowPost w (codeD n q a b)) := by
  obtain ⟨i0, hi0, hz0, hz1, hz2⟩ := info_parts Try.info9
  have AW := Lib.hid (fun W => rAll_any W n q hq (by omega) (fun k hk => allW4 hq k (by omega)))
  have HSZ := Lib.hid (allW4 hq n hn)
  have HP := Lib.hid (fun (W : World) (l : Wd) (hl : l ∈ allW q n) => rInCode_any W n q a b l hn1 (by omega) hq1 hq (by rw [allW_len q n l hl]; omega) (dig_mono hq (allW_dig hq n l hl)))
  obtain ⟨p, HPP⟩ : ∃ p, Hid (p = hasD n q a b) := ⟨_, Lib.hid rfl⟩
  unfold codeD wordsF RowPost at *
  obtain ⟨z, HZ⟩ : ∃ z, Hid (z = w.heap.size) := ⟨_, rfl⟩
  obtain ⟨L, HL⟩ : ∃ L, Hid (L = allW q n) := ⟨_, rfl⟩
  rw [← HL.out] at AW HSZ HP ⊢
  rw [← HPP.out] at HP ⊢
  go_enter Try.func44, Try.ntmps44
  go_wp2_with (go_at_call 68; refine (AW.out _).mono ?_; rintro e w1 ⟨v1, rfl, hO1, hk1⟩; obtain ⟨va, vcap, rfl⟩ := own_shape hO1)
  obtain ⟨hm, hA⟩ := wds_own hO1
  obtain ⟨m, HM⟩ : ∃ m, Hid (m = L.length) := ⟨_, rfl⟩
  obtain ⟨ad, bb, o, cap, hsl, ha, hc⟩ := hA
  obtain ⟨rfl, rfl⟩ : va = ad ∧ vcap = cap := by simpa using hsl
  have HC := Lib.hid hc
  have hL := HSZ.out
  rw [← HM.out] at ha hL HC ⊢
  have hK0 := Lib.hid hk1
  clear hsl hc hO1 hm hk1
  have hO2 : (w1.alloc (.cells #[] 9)).ownsRow w1.heap.size 9 1 (.slice (some ⟨w1.heap.size, 0, none⟩) 0 0) 0 (wds ((L.take 0).filter p)) := own_zero w1 _ _ (Nat.le_refl _)
  have hK1 : Kept w1 (w1.alloc (.cells #[] 9)) := (Kept.refl w1).alloc _
  go_loopg [10, 11] m (fun g s3 s12 wx => ∃ i t : Nat, i ≤ m ∧ t ≤ i ∧ g = m - i ∧ s12 = .int .i64 i ∧ Kept w1 wx ∧ wx.ownsRow w1.heap.size 9 1 s3 t (wds ((L.take i).filter p)))
  case atStart => exact ⟨0, 0, Nat.zero_le _, Nat.zero_le _, rfl, rfl, hK1, hO2⟩
  case round =>
    clear hO2 hK1
    obtain ⟨i, t, hi, hti, rfl, rfl, hK, hO⟩ := hrel
    obtain ⟨vb, vbcap, rfl⟩ := own_shape hO
    by_cases hlt : i < m
    · obtain rfl := ha (by omega)
      have t0 := hK.cellSome (HC.out i hlt)
      have s2 : (i : Int) < (m : Int) := by omega
      have s3 : (0 : Int) ≤ (i : Int) := by omega
      have hiL : i < L.length := by rw [← HM.out]; exact hlt
      (try dsimp only at t0)
      rw [getD_at hiL] at t0
      have hasE := Lib.hid (fun W => HP.out W L[i] (List.getElem_mem hiL))
      have hsw := hK.size
      obtain ⟨X, HXX⟩ : ∃ X : ByteArray, Hid (X = bs L[i]) := ⟨bs L[i], Lib.hid rfl⟩
      rw [← HXX.out] at t0 hasE
      cases hpi : p L[i]
      · have hnx := Lib.hid (filter_no hiL hpi)
        rw [hpi] at hasE
        clear hpi
        go_wp2_with (go_at_call 74; refine (hasE.out _).mono ?_; rintro e w5 ⟨rfl, hq5⟩)
        go_roundg (m - (i + 1))
        case measure => omega
        case rel => exact ⟨i + 1, t, by omega, by omega, rfl, by first | rfl | go_num, hK.trans hq5.kept, by rw [hnx.out]; exact own_kept hO hq5.kept⟩
      · have hnx : Hid (wds ((L.take (i + 1)).filter p) = wds ((L.take i).filter p) ++ [.string X]) := by
          show _ = _
          rw [filter_yes hiL hpi, wds_snoc, HXX.out]
        rw [hpi] at hasE
        clear hpi
        obtain ⟨Lv, HLv⟩ : ∃ Lv, Hid (Lv = wds ((L.take i).filter p)) := ⟨_, rfl⟩
        rw [← HLv.out] at hnx hO
        go_wp2_with (first
          | (go_at_call 74; refine (hasE.out _).mono ?_; rintro e w5 ⟨rfl, hq5⟩; have hO5 := own_kept hO hq5.kept; have hK5 := hK.trans hq5.kept; have hs5 := hK5.size; have t5 := hq5.kept.cellSome t0; generalize w5 = W5 at *)
          | (at_builtin; refine wpList_append_own _ rfl _ _ 26 rfl w1.heap.size 9 i0 (.string ⟨#[]⟩) 1 16 Try.underlying26 hi0 hz0 hz1 hz2 rfl (by decide) _ _ _ rfl (hO5.alloc _) ⟨_, 0, none⟩ 1 1 [.string X] rfl rfl (cell_one_new _ _ _) ?c2 ?c3 ?c4 ?c5 ?_))
        case c2 => simp [Value.oneCell']
        case c3 => unfold maxLen; omega
        case c4 => omega
        case c5 => (try simp); omega
        intro ov' w2 hO3 hgr _
        have hK2 : Kept w1 w2 := (hK5.alloc _).grew hgr (hO5.alloc _) (Nat.le_refl _)
        have hO4 : w2.ownsRow w1.heap.size 9 1 ov' (t + 1) (wds ((L.take (i + 1)).filter p)) := by rw [hnx.out]; exact hO3
        clear hO3 hgr hO hK hO5 hK5
        go_wp2_with fail
        go_roundg (m - (i + 1))
        case measure => omega
        case rel => exact ⟨i + 1, t + 1, by omega, by omega, rfl, by first | rfl | go_num, hK2, hO4⟩
    · obtain rfl : i = m := by omega
      have s2 : ¬ (i : Int) < (i : Int) := by omega
      have hO5 : wr.ownsRow z 9 1 (.slice vb t vbcap) t (wds (L.filter p)) := by
        have h := own_base hO (show z ≤ w1.heap.size by rw [HZ.out]; exact hK0.out.size)
        rwa [HM.out, List.take_length] at h
      obtain ⟨htl, _⟩ := wds_own hO5
      subst htl
      have hK5 := hK0.out.trans hK
      clear hO hK
      go_wp2_with fail
      go_ret
      exact ⟨_, rfl, by rw [← HZ.out]; exact hO5, hK5⟩
end Go.Proofs.Ytgphaggkgcnidaa
