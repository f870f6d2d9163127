/-
  Package mark: digitSum, steps.
-/
import Derived.Test.YtgphaggkgcnidaaMj
namespace Go.Proofs.Ytgphaggkgcnidaa
open Go.RowKit Go.Deep Go.Sort

theorem dsum_take {l : Wd} {i : Nat} (h : i < l.length) : dsum (l.take (i + 1)) = dsum (l.take i) + (l[i].toNat - 48) := by
  rw [List.take_succ_eq_append_getElem h, dsum_append]; simp [dsum]
theorem dsum_bound (l : Wd) : dsum l ≤ 256 * l.length := by
  induction l with
  | nil => simp [dsum]
  | cons c t ih => simp only [dsum, List.length_cons]; have := c.toNat_lt; omega
set_option maxRecDepth 100000 in
set_option maxHeartbeats 1000000 in
theorem digitSum_any (w : World) (l : Wd) (hl : l.length ≤ 1000) (hd : Dig 4 l) : Calls Try.prog 104 #[.string (bs l)] w fun e w' => e = .returned (.int .i64 (dsum l : Nat)) ∧ w = w' := by
  obtain ⟨n, HN⟩ : ∃ n, Hid (n = l.length) := ⟨_, rfl⟩
  obtain ⟨s, HSS⟩ : ∃ s : ByteArray, Hid (s = bs l) := ⟨_, Lib.hid rfl⟩
  have hsz : s.size = n := by rw [HSS.out, HN.out]; exact bs_size l
  have HD := Lib.hid hd
  rw [← HN.out] at hl
  rw [← HSS.out]
  clear hd
  go_enter Try.func104, Try.ntmps104
  go_wp2_with fail
  go_loopg [3, 7] n (fun g s3 s7 wr => ∃ i x : Nat, i ≤ n ∧ g = n - i ∧ s7 = .int .i64 i ∧ s3 = .int .i64 x ∧ w = wr ∧ x ≤ 4 * i ∧ Hid (x = dsum (l.take i)))
  case atStart => exact ⟨0, 0, Nat.zero_le _, rfl, rfl, rfl, rfl, by omega, rfl⟩
  case round =>
    obtain ⟨i, x, hi, rfl, rfl, rfl, rfl, hx, HX⟩ := hrel
    by_cases hlt : i < n
    · have s2 : (i : Int) < (n : Int) := by omega
      have s3 : (0 : Int) ≤ (i : Int) := by omega
      have hiL : i < l.length := by rw [← HN.out]; exact hlt
      have his : i < s.size := by rw [hsz]; exact hlt
      have hat := chr_at his
      have hdi := HD.out l[i] (List.getElem_mem hiL)
      have hc : chr s i - 48 = ((l[i].toNat - 48 : Nat) : Int) := by rw [HSS.out, chr_bs hiL]; omega
      have hst := dsum_take hiL
      rw [← HX.out] at hst
      obtain ⟨d, HDD⟩ : ∃ d : Nat, Hid (d = l[i].toNat - 48) := ⟨l[i].toNat - 48, Lib.hid rfl⟩
      have hd4 : d < 4 := by rw [HDD.out]; omega
      rw [← HDD.out] at hc hst
      have HS := Lib.hid hst
      have w1 : IntKind.u8.wrap (d : Int) = (d : Int) := IntWalk.u8_in _ (by omega)
      generalize chr s i = c at *
      have hc2 : c = (d : Int) + 48 := by omega
      have w3 : (d : Int) + 48 - 48 = (d : Int) := by omega
      subst hc2
      clear hdi hst
      go_wp2_with fail
      go_roundg (n - (i + 1))
      case measure => omega
      case rel => exact ⟨i + 1, x + d, by omega, rfl, by first | rfl | go_num, by first | rfl | go_num, rfl, by omega, HS.out.symm⟩
    · obtain rfl : i = n := by omega
      have s2 : ¬ (i : Int) < (i : Int) := by omega
      go_wp2_with fail
      go_ret
      exact ⟨by rw [HX.out, HN.out, List.take_length]; rfl, rfl⟩
/-- the steps up to the letter i -/
theorem stpsFrom_snoc (a : UInt8) (t : Wd) (c : UInt8) : stpsFrom a (t ++ [c]) = stpsFrom a t ++ [stp ((a :: t).getLast (by simp)) c] := by
  induction t generalizing a with
  | nil => rfl
  | cons b t ih => simp only [List.cons_append, stpsFrom]; rw [ih]; rfl
theorem stps_take {l : Wd} {i : Nat} (h : i + 1 < l.length) : stps (l.take (i + 2)) = stps (l.take (i + 1)) ++ [stp l[i] l[i + 1]] := by
  rw [List.take_succ_eq_append_getElem h]
  cases hl : l.take (i + 1) with
  | nil =>
    have h2 : (l.take (i + 1)).length = i + 1 := by rw [List.length_take]; omega
    rw [hl] at h2
    exact absurd h2 (by simp)
  | cons a t =>
    have hlast : (a :: t).getLast (by simp) = l[i] := by
      have h2 : (l.take (i + 1)).getLast (by rw [hl]; simp) = l[i] := by
        have e : (l.take (i + 1)).length - 1 = i := by rw [List.length_take]; omega
        simp only [List.getLast_eq_getElem, e, List.getElem_take]
      rw [← h2]; congr 1; exact hl.symm
    show stpsFrom a (t ++ [l[i + 1]]) = stpsFrom a t ++ [_]
    rw [stpsFrom_snoc, hlast]
set_option maxRecDepth 100000 in
set_option maxHeartbeats 2000000 in
theorem steps_any (w : World) (l : Wd) (hl : l.length ≤ 1000) : Calls Try.prog 72 #[.string (bs l)] w fun e w' => e = .returned (.string (bs (stps l))) ∧ Kept w w' := by
  obtain ⟨n, HN⟩ : ∃ n, Hid (n = l.length) := ⟨_, rfl⟩
  obtain ⟨s, HSS⟩ : ∃ s : ByteArray, Hid (s = bs l) := ⟨_, Lib.hid rfl⟩
  have hsz : s.size = n := by rw [HSS.out, HN.out]; exact bs_size l
  rw [← HN.out] at hl
  rw [← HSS.out]
  have hr0 : Hid ((⟨#[]⟩ : ByteArray) = bs (stps (l.take (0 + 1)))) := by
    show _ = _
    cases l with
    | nil => rfl
    | cons a t => rfl
  go_enter Try.func72, Try.ntmps72
  go_wp2_with fail
  rw [hr0.out]
  go_loopg [3, 4] n (fun g s3 s4 wr => ∃ i : Nat, (i + 1 ≤ n ∨ i = 0) ∧ g = n - i ∧ s4 = .int .i64 ((i : Int) + 1) ∧ s3 = .string (bs (stps (l.take (i + 1)))) ∧ Kept w wr)
  case atStart => exact ⟨0, .inr rfl, rfl, by first | rfl | go_num, rfl, Kept.refl _⟩
  case round =>
    obtain ⟨i, hi, rfl, rfl, rfl, hK⟩ := hrel
    have hss : (bs (stps (l.take (i + 1)))).size ≤ i := by
      rw [bs_size, stps_len]
      have : (l.take (i + 1)).length ≤ i + 1 := List.length_take_le _ _
      omega
    by_cases hlt : i + 1 < n
    · have s2 : (i : Int) + 1 < (n : Int) := by omega
      have s3 : (0 : Int) ≤ (i : Int) + 1 := by omega
      have s4 : (0 : Int) ≤ (i : Int) := by omega
      have s5 : (i : Int) < (n : Int) := by omega
      have hiL : i + 1 < l.length := by rw [← HN.out]; exact hlt
      have hiL0 : i < l.length := by omega
      have his : i + 1 < s.size := by rw [hsz]; exact hlt
      have his0 : i < s.size := by omega
      have hat1 := chr_at his
      have hat0 := chr_at his0
      have hc1 : Hid (chr s (i + 1) = (l[i + 1].toNat : Int)) := by show _ = _; rw [HSS.out]; exact chr_bs hiL
      have hc0 : Hid (chr s i = (l[i].toNat : Int)) := by show _ = _; rw [HSS.out]; exact chr_bs hiL0
      have hst := stps_take hiL
      have et : ((i : Int) + 1).toNat = i + 1 := by omega
      have ei : (i : Int) + 1 - 1 = (i : Int) := by omega
      have w1 : IntKind.i64.wrap (i : Int) = (i : Int) := IntWalk.i64_in _ (by rw [← HN.out] at hiL; omega)
      obtain ⟨c1, HC1⟩ : ∃ x, Hid (x = chr s (i + 1)) := ⟨_, rfl⟩
      obtain ⟨c0, HC0⟩ : ∃ x, Hid (x = chr s i) := ⟨_, rfl⟩
      rw [← HC1.out] at hat1 hc1
      rw [← HC0.out] at hat0 hc0
      by_cases h : l[i] ≤ l[i + 1]
      · have e1 : c1 ≥ c0 := by rw [hc1.out, hc0.out]; have := UInt8.le_iff_toNat_le.1 h; omega
        have hnx : Hid (bs (stps (l.take (i + 1 + 1))) = bs (stps (l.take (i + 1))) ++ ⟨#[49]⟩) := by
          show _ = _
          rw [hst, stp_yes.2 h]; exact (bs_append _ _).symm
        obtain ⟨R', HR'⟩ : ∃ R', R' = bs (stps (l.take (i + 1 + 1))) := ⟨_, rfl⟩
        rw [← HR'] at hnx
        generalize bs (stps (l.take (i + 1))) = R at *
        clear h hst HC1 HC0 hc1 hc0
        go_wp2_with fail
        go_quiet (fail)
        go_wp2_with (go_at_call 79; refine (joinB2 _ _ R ⟨#[49]⟩ (sbox2 _ (.string R) (.string ⟨#[49]⟩) 9).1 (sbox2 _ (.string R) (.string ⟨#[49]⟩) 9).2 (by show R.size + 1 ≤ 1000000; omega)).mono ?_; rintro e w5 ⟨rfl, rfl⟩)
        go_roundg (n - (i + 1))
        case measure => omega
        case rel => exact ⟨i + 1, by omega, rfl, by first | rfl | go_num, by rw [← HR', hnx.out], (hK.drewN _).alloc _⟩
      · have h : l[i + 1] < l[i] := UInt8.not_le.1 h
        have e1 : ¬ c1 ≥ c0 := by rw [hc1.out, hc0.out]; have := UInt8.lt_iff_toNat_lt.1 h; omega
        have hnx : Hid (bs (stps (l.take (i + 1 + 1))) = bs (stps (l.take (i + 1))) ++ ⟨#[48]⟩) := by
          show _ = _
          rw [hst, stp_no.2 h]; exact (bs_append _ _).symm
        obtain ⟨R', HR'⟩ : ∃ R', R' = bs (stps (l.take (i + 1 + 1))) := ⟨_, rfl⟩
        rw [← HR'] at hnx
        generalize bs (stps (l.take (i + 1))) = R at *
        clear h hst HC1 HC0 hc1 hc0
        go_wp2_with fail
        go_quiet (fail)
        go_wp2_with (go_at_call 79; refine (joinB2 _ _ R ⟨#[48]⟩ (sbox2 _ (.string R) (.string ⟨#[48]⟩) 9).1 (sbox2 _ (.string R) (.string ⟨#[48]⟩) 9).2 (by show R.size + 1 ≤ 1000000; omega)).mono ?_; rintro e w5 ⟨rfl, rfl⟩)
        go_roundg (n - (i + 1))
        case measure => omega
        case rel => exact ⟨i + 1, by omega, rfl, by first | rfl | go_num, by rw [← HR', hnx.out], (hK.drewN _).alloc _⟩
    · have s2 : ¬ (i : Int) + 1 < (n : Int) := by omega
      have hfin : Hid (bs (stps (l.take (i + 1))) = bs (stps l)) := by
        show _ = _
        rw [List.take_of_length_le (by rw [← HN.out]; omega)]
      generalize bs (stps (l.take (i + 1))) = R at *
      go_wp2_with fail
      go_ret
      exact ⟨by rw [hfin.out]; rfl, hK⟩
end Go.Proofs.Ytgphaggkgcnidaa
