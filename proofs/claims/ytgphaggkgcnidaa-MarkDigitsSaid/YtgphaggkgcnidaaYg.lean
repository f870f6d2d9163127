/-
  The law MarkCommon, walked.
-/
import Derived.Test.YtgphaggkgcnidaaYa
import Derived.Test.YtgphaggkgcnidaaRc
namespace Go.Proofs.Ytgphaggkgcnidaa
open Go.RowKit Go.Deep Go.Sort

theorem bin_words {s t : Wd} (hs : Bin s) (ht : Bin t) (h1 : s.length ≤ 20) (h2 : t.length ≤ 20) : wordsC 20 2 s t = 0 := by
  unfold wordsC checkC
  have a1 := belB_dig.2 (bin_dig.2 hs)
  have a2 := belB_dig.2 (bin_dig.2 ht)
  simp [h1, h2, a1, a2]
theorem common_bin (W : World) {s t : Wd} (hs : Bin s) (ht : Bin t) (h1 : s.length ≤ 20) (h2 : t.length ≤ 20) :
    Calls Try.prog 37 #[.string (bs s), .string (bs t)] W fun e w' => e = .returned (.tuple #[.string (bs (com s t)), .int .i64 0]) ∧ Kept W w' := by
  refine (Common_any W s t (by omega) (by omega)).mono ?_
  rintro e w' ⟨hk, _, h⟩
  exact ⟨h (bin_words hs ht h1 h2), hk⟩
theorem bytes_lt (a b : Wd) : Op.bytesLess (bs a).toList (bs b).toList = decide (a < b) := by
  rw [Proofs.bytesLess_eq, ByteArray.toList_eq, ByteArray.toList_eq]; rfl
set_option maxRecDepth 100000 in
set_option maxHeartbeats 2000000 in
theorem lawCommon_any (w : World) (v0 v1 v2 : Value) (m0 m1 m2 : Nat) (Z0 Z1 Z2 : Nat → Nat) (h0 : BytesAt w v0 m0 Z0) (h1 : BytesAt w v1 m1 Z1) (h2 : BytesAt w v2 m2 Z2) (z0 : ∀ i, Z0 i < 256) (z1 : ∀ i, Z1 i < 256) (z2 : ∀ i, Z2 i < 256) (hm0 : m0 ≤ maxLen) (hm1 : m1 ≤ maxLen) (hm2 : m2 ≤ maxLen) :
    Calls Try.prog 16 #[v0, v1, v2] w (LivesPost w) := by
  have WA := Lib.hid (fun (W : World) (k : Kept w W) => word_any W v0 m0 2 20 Z0 (CellsAt.kept h0 k) z0 hm0 (by omega) (by omega))
  have WB := Lib.hid (fun (W : World) (k : Kept w W) => word_any W v1 m1 2 20 Z1 (CellsAt.kept h1 k) z1 hm1 (by omega) (by omega))
  obtain ⟨s, HS⟩ : ∃ l, Hid (l = wrd 2 Z0 (min m0 20)) := ⟨_, rfl⟩
  obtain ⟨t, HT⟩ : ∃ l, Hid (l = wrd 2 Z1 (min m1 20)) := ⟨_, rfl⟩
  have hs20 : s.length ≤ 20 := by rw [HS.out, wrd_len]; omega
  have ht20 : t.length ≤ 20 := by rw [HT.out, wrd_len]; omega
  have hsB : Bin s := by rw [HS.out]; exact wrd_bin Z0 _
  have htB : Bin t := by rw [HT.out]; exact wrd_bin Z1 _
  rw [← HS.out] at WA
  rw [← HT.out] at WB
  have CO := Lib.hid (fun W => common_bin W hsB htB hs20 ht20)
  have hcl := com_len s t
  obtain ⟨c, HC⟩ : ∃ l : Wd, Hid (l = com s t) := ⟨_, rfl⟩
  have hbest := Lib.hid (fun (o : Wd) (a1 : o.Sublist s) (a2 : o.Sublist t) => com_best a1 a2)
  have p1 : c.isSublist s = true := by rw [HC.out]; exact List.isSublist_iff_sublist.2 (com_sub s t).1
  have p2 : c.isSublist t = true := by rw [HC.out]; exact List.isSublist_iff_sublist.2 (com_sub s t).2
  rw [← HC.out] at CO hcl hbest
  have PA := Lib.hid (fun W => rPart_any W c s (by omega) (by omega))
  have PB := Lib.hid (fun W => rPart_any W c t (by omega) (by omega))
  have PO := Lib.hid (fun (W : World) (o : Wd) (ho : o.length ≤ 1000) => rPart_any W o t ho (by omega))
  rw [p1] at PA
  rw [p2] at PB
  have LV := Lib.hid lives_any
  unfold LivesPost at LV ⊢
  obtain ⟨S, HSS⟩ : ∃ x : ByteArray, Hid (x = bs s) := ⟨_, Lib.hid rfl⟩
  obtain ⟨T, HTT⟩ : ∃ x : ByteArray, Hid (x = bs t) := ⟨_, Lib.hid rfl⟩
  obtain ⟨C, HCC⟩ : ∃ x : ByteArray, Hid (x = bs c) := ⟨_, Lib.hid rfl⟩
  have hSs : S.size = s.length := by rw [HSS.out]; rfl
  have hCs : C.size = c.length := by rw [HCC.out]; rfl
  rw [← HSS.out] at WA CO PA
  rw [← HTT.out] at WB CO PB PO
  rw [← HCC.out] at CO PA PB
  obtain ⟨a2, b2, o2, cap2, rfl, ha2, hc2⟩ := h2
  have HZ := Lib.hid hc2
  have HZB := Lib.hid z2
  obtain ⟨n, HN⟩ : ∃ n, Hid (n = s.length) := ⟨_, rfl⟩
  rw [← HN.out] at hSs hs20 hcl
  clear h0 h1 hc2 z0 z1 z2 p1 p2 hsB htB
  unfold maxLen at hm2
  have tok1 := Lib.hid True.intro
  have tok2 := Lib.hid True.intro
  have hr0 : Hid ((⟨#[]⟩ : ByteArray) = bs []) := rfl
  go_enter Try.func16, Try.ntmps16
  go_wp2_with (first
    | (go_at_call 47; clear tok1; refine (WA.out _ (Kept.refl _)).mono ?_; rintro e w1 ⟨rfl, hq1⟩; have hk1 := hq1.kept)
    | (go_at_call 47; refine (WB.out _ hk1).mono ?_; rintro e w2 ⟨rfl, hq2⟩; have hk2 := hk1.trans hq2.kept)
    | (go_at_call 37; refine (CO.out _).mono ?_; rintro e w3 ⟨rfl, hk3⟩; have hk3 := hk2.trans hk3)
    | (go_at_call 55; clear tok2; refine (PA.out _).mono ?_; rintro e w4 ⟨rfl, hq4⟩; have hk4 := hk3.trans hq4.kept)
    | (go_at_call 55; refine (PB.out _).mono ?_; rintro e w5 ⟨rfl, hq5⟩; have hk5 := hk4.trans hq5.kept)
    | (go_at_call 22; refine (LV.out _).mono ?_; rintro e w6 ⟨rfl, hk6⟩; have hk6 := hk5.trans hk6))
  rw [hr0.out]
  go_loopg [11, 12] n (fun g s11 s12 wr => ∃ (i : Nat) (o : Wd), i ≤ n ∧ g = n - i ∧ s12 = .int .i64 i ∧ s11 = .string (bs o) ∧ o.length ≤ i ∧ Hid (o.Sublist (s.take i)) ∧ Kept w wr)
  case atStart => exact ⟨0, [], Nat.zero_le _, rfl, rfl, rfl, Nat.le_refl _, Lib.hid (List.nil_sublist _), hk6⟩
  case round =>
    clear hk1 hk2 hk3 hk4 hk5 hk6 hq1 hq2 hq4 hq5
    obtain ⟨i, o, hi, rfl, rfl, rfl, ho, HO, hK⟩ := hrel
    by_cases hlt : i < n
    · have s2 : (i : Int) < (n : Int) := by omega
      have s3 : (0 : Int) ≤ (i : Int) := by omega
      have hiL : i < s.length := by rw [← HN.out]; exact hlt
      have hext : Hid (bs (o ++ [s[i]]) = bs o ++ S.extract i (i + 1)) := by
        show _ = _
        rw [HSS.out, bs_extract, show i + 1 - i = 1 by omega, List.drop_eq_getElem_cons hiL, bs_append]; rfl
      have hin : Hid ((o ++ [s[i]]).Sublist (s.take (i + 1))) := Lib.hid (by
        rw [List.take_succ_eq_append_getElem hiL]
        exact HO.out.append (List.Sublist.refl _))
      have hstay : Hid (o.Sublist (s.take (i + 1))) := Lib.hid (by
        rw [List.take_succ_eq_append_getElem hiL]
        exact HO.out.trans (List.sublist_append_left _ _))
      have hos : (bs o).size = o.length := rfl
      have hes : (S.extract i (i + 1)).size = 1 := by rw [ByteArray.size_extract]; omega
      have hlen : (o ++ [s[i]]).length ≤ i + 1 := by simp; omega
      obtain ⟨R', HR'⟩ : ∃ R', R' = bs (o ++ [s[i]]) := ⟨_, rfl⟩
      rw [← HR'] at hext
      have w1 : IntKind.i64.wrap ((i : Int) + 1) = (i : Int) + 1 := IntWalk.i64_in _ (by omega)
      have z5 : ¬ 9223372036854775807 < o.length + 1 := by omega
      by_cases hz : i < m2
      · obtain rfl := ha2 (by omega)
        have t0 := hK.cellSome (HZ.out i hz)
        (try dsimp only at t0)
        have s4 : (i : Int) < (m2 : Int) := by omega
        have hzb := HZB.out i
        obtain ⟨z, HZI⟩ : ∃ z, Hid (z = Z2 i) := ⟨_, rfl⟩
        rw [← HZI.out] at t0 hzb
        obtain ⟨r, HRR⟩ : ∃ r, Hid (r = z % 3) := ⟨_, rfl⟩
        have em : Int.tmod (z : Int) 3 = (r : Int) := by rw [HRR.out]; exact (Int.ofNat_tmod z 3).symm
        have hr3 : r < 3 := by rw [HRR.out]; omega
        have w2 : IntKind.u8.wrap (r : Int) = (r : Int) := IntWalk.u8_in _ (by omega)
        by_cases hr : 0 < r
        · have e1 : (r : Int) > 0 := by omega
          clear HZI HRR HO hstay
          generalize bs o = OB at *
          go_wp2_with fail
          go_roundg (n - (i + 1))
          case measure => omega
          case rel => exact ⟨i + 1, o ++ [s[i]], by omega, rfl, by first | rfl | go_num, by rw [← HR', hext.out], hlen, hin, hK⟩
        · have e1 : ¬ (r : Int) > 0 := by omega
          clear HZI HRR HO hin
          go_wp2_with fail
          go_roundg (n - (i + 1))
          case measure => omega
          case rel => exact ⟨i + 1, o, by omega, rfl, by first | rfl | go_num, rfl, by omega, hstay, hK⟩
      · have s4 : ¬ (i : Int) < (m2 : Int) := by omega
        clear HO hstay
        generalize bs o = OB at *
        go_wp2_with fail
        go_roundg (n - (i + 1))
        case measure => omega
        case rel => exact ⟨i + 1, o ++ [s[i]], by omega, rfl, by first | rfl | go_num, by rw [← HR', hext.out], hlen, hin, hK⟩
    · obtain rfl : i = n := by omega
      have s2 : ¬ (i : Int) < (i : Int) := by omega
      have hos1 : Hid (o.Sublist s) := Lib.hid (by have := HO.out; rwa [HN.out, List.take_length] at this)
      have PO2 := Lib.hid (fun W => PO.out W o (by omega))
      have hos : (bs o).size = o.length := rfl
      clear HO PO
      cases hb : o.isSublist t
      · rw [hb] at PO2
        generalize bs o = OB at *
        clear hb
        go_wp2_with (first | (go_at_call 55; refine (PO2.out _).mono ?_; rintro e w7 ⟨rfl, hq7⟩))
        go_ret
        exact ⟨rfl, hK.trans hq7.kept⟩
      · rw [hb] at PO2
        have hbt := bt_no.1 (hbest.out o hos1.out (List.isSublist_iff_sublist.1 hb))
        by_cases hl : o.length < c.length
        · have e2 : (o.length : Int) < (c.length : Int) := by omega
          generalize bs o = OB at *
          clear hb hbt
          go_wp2_with (first | (go_at_call 55; refine (PO2.out _).mono ?_; rintro e w7 ⟨rfl, hq7⟩))
          go_ret
          exact ⟨rfl, hK.trans hq7.kept⟩
        · have heq : o.length = c.length := by omega
          have e2 : ¬ (o.length : Int) < (c.length : Int) := by omega
          have e3 : ((o.length : Int) == (c.length : Int)) = true := by rw [heq]; simp
          have e4 : Op.bytesLess (bs o).toList C.toList = false := by
            rw [HCC.out, bytes_lt, decide_eq_false]
            intro h
            rcases hbt with h5 | ⟨_, h5 | h5⟩
            · omega
            · exact wd_irrefl _ (wd_trans h h5)
            · subst h5; exact wd_irrefl _ h
          generalize bs o = OB at *
          clear hb hbt heq
          go_wp2_with (first | (go_at_call 55; refine (PO2.out _).mono ?_; rintro e w7 ⟨rfl, hq7⟩))
          go_ret
          exact ⟨rfl, hK.trans hq7.kept⟩
end Go.Proofs.Ytgphaggkgcnidaa
