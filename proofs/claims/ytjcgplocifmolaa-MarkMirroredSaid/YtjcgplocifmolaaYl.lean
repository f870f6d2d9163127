/-
  The law MarkMirrored, walked.
-/
import Derived.Test.YtjcgplocifmolaaWm
import Derived.Test.YtjcgplocifmolaaLw
import Derived.Test.YtjcgplocifmolaaRa
import Derived.Test.YtjcgplocifmolaaVa
namespace Go.Proofs.Ytjcgplocifmolaa
open Go.RowKit Go.Deep Go.Sort

theorem sum_ok (W : World) {s : Wd} (hs : Bin s) (h2 : s.length ≤ 20) : Calls Try.prog 36 #[.string (bs s)] W fun e w' => e = .returned (.tuple #[.int .i64 (wsum 0 s : Nat), .int .i64 0]) ∧ Kept W w' := by
  refine (Sum_any W s (by omega)).mono ?_
  rintro e w' ⟨hk, h⟩
  rw [if_pos (bin_wordC hs h2)] at h
  exact ⟨h, hk⟩
/-- is the word among the first j? -/
def among (M : List Wd) (R : Wd) (j : Nat) : Bool := (M.take j).any fun y => decide (y = R)
theorem among_succ {M : List Wd} (R : Wd) {j : Nat} (h : j < M.length) : among M R (j + 1) = (among M R j || decide (M[j] = R)) := by
  unfold among
  rw [List.take_succ_eq_append_getElem h, List.any_append]; simp
theorem among_all {M : List Wd} {R : Wd} (h : R ∈ M) : among M R M.length = true := by
  unfold among
  rw [List.take_length, List.any_eq_true]
  exact ⟨R, h, by simp⟩
set_option maxRecDepth 100000 in
set_option maxHeartbeats 4000000 in
theorem mirrored_any (w : World) (x y : Nat) (v : Value) (mv : Nat) (Z : Nat → Nat) (hx : x < 256) (hy : y < 256) (hV : BytesAt w v mv Z) (hZ : ∀ i, Z i < 256) (hmv : mv ≤ maxLen) :
    Calls Try.prog 9 #[.int .u8 x, .int .u8 y, v] w (LivesPost w) := by
  have WA := Lib.hid (fun (W : World) (k : Kept w W) => word_any W v mv 2 20 Z (CellsAt.kept hV k) hZ hmv (by omega) (by omega))
  obtain ⟨s, HS⟩ : ∃ l, Hid (l = wrd 2 Z (min mv 20)) := ⟨_, rfl⟩
  have hs20 : s.length ≤ 20 := by rw [HS.out, wrd_len]; omega
  have hsB : Bin s := by rw [HS.out]; exact wrd_bin Z _
  rw [← HS.out] at WA
  have SA := Lib.hid (fun W => sum_ok W hsB hs20)
  have SB := Lib.hid (fun W => sum_ok W (flp_bin s) (by rw [flp_len]; exact hs20))
  have hsum := flp_sum hsB
  have HB := Lib.hid hsB
  clear hsB hV hZ
  obtain ⟨k, HK⟩ : ∃ k, Hid (k = x % 12 + 1) := ⟨_, rfl⟩
  have hk1 : 1 ≤ k := by rw [HK.out]; omega
  have hk12 : k ≤ 12 := by rw [HK.out]; omega
  have hak := Nat.mod_lt y (show 0 < k + 1 by omega)
  obtain ⟨c, HC⟩ : ∃ a, Hid (a = y % (k + 1)) := ⟨_, rfl⟩
  rw [← HC.out] at hak
  have WO := Lib.hid (fun W => words_ok W k c hk1 hk12 (by omega))
  have WP := Lib.hid (fun W => words_ok W k (mirA k c) hk1 hk12 (mirA_le k c))
  have HP : Hid (∀ l ∈ codeL k c, l.length = k ∧ l.reverse ∈ codeL k (mirA k c)) := Lib.hid (fun l hl => ⟨(mem_codeL.1 hl).2.1, rev_code (by omega) hl⟩)
  have hlen := mir_len (show c ≤ k by omega)
  have hcnt : (codeL k c).length ≤ 5000 := by
    unfold codeL wordsF
    exact Nat.le_trans (List.length_filter_le _ _) (allW2 k hk12)
  have hpos : 0 < (codeL k c).length := List.length_pos_iff.2 (codeL_some (by omega))
  obtain ⟨L, HL⟩ : ∃ L, Hid (L = codeL k c) := ⟨_, rfl⟩
  obtain ⟨M, HM⟩ : ∃ L, Hid (L = codeL k (mirA k c)) := ⟨_, rfl⟩
  rw [← HL.out] at WO HP hlen hcnt hpos
  rw [← HM.out] at WP HP hlen
  obtain ⟨m, Hm⟩ : ∃ m, Hid (m = L.length) := ⟨_, rfl⟩
  have HmM : Hid (m = M.length) := by show _ = _; rw [← hlen, Hm.out]
  rw [← Hm.out] at WO hcnt hpos
  rw [← HmM.out] at WP
  obtain ⟨d, HD⟩ : ∃ d, Hid (d = mirA k c) := ⟨_, rfl⟩
  have em3 : Int.tmod ((k : Int) + 1 - (c : Int)) ((k : Int) + 1) = (d : Int) := by
    rw [HD.out, show (k : Int) + 1 - (c : Int) = ((k + 1 - c : Nat) : Int) by omega]; exact (Int.ofNat_tmod (k + 1 - c) (k + 1)).symm
  have hd : d ≤ k := by rw [HD.out]; exact mirA_le k c
  rw [← HD.out] at WP
  have em1 : Int.tmod (x : Int) 12 = ((x % 12 : Nat) : Int) := (Int.ofNat_tmod x 12).symm
  have ek : ((x % 12 : Nat) : Int) + 1 = (k : Int) := by rw [HK.out]; omega
  have em2 : Int.tmod (y : Int) ((k : Int) + 1) = (c : Int) := by rw [HC.out]; exact (Int.ofNat_tmod y (k + 1)).symm
  have n2 : ¬ ((k : Int) + 1 = 0) := by omega
  have f1 : IntKind.i64.wrap ((k : Int) + 1) = (k : Int) + 1 := IntWalk.i64_in _ (by omega)
  have f2 : IntKind.i64.wrap (c : Int) = (c : Int) := IntWalk.i64_in _ (by omega)
  have f3 : IntKind.i64.wrap (d : Int) = (d : Int) := IntWalk.i64_in _ (by omega)
  have f4 : IntKind.i64.wrap ((k : Int) + 1 - (c : Int)) = (k : Int) + 1 - (c : Int) := IntWalk.i64_in _ (by omega)
  have f5 : IntKind.i64.wrap ((x % 12 : Nat) : Int) = ((x % 12 : Nat) : Int) := IntWalk.i64_in _ (by omega)
  have f6 : IntKind.i64.wrap (k : Int) = (k : Int) := IntWalk.i64_in _ (by omega)
  have e1 : ((m : Int) != (m : Int)) = false := by simp
  have LV := Lib.hid lives_any
  unfold LivesPost at LV ⊢
  generalize x % 12 = x12 at *
  clear HK HC HD hlen
  have tok1 := Lib.hid True.intro
  obtain ⟨i0, hi0, hz0, hz1, hz2⟩ := info_parts Try.info9
  go_enter Try.func9, Try.ntmps9
  go_wp2_with (first
    | (go_at_call 11; clear tok1; refine (WO.out _).mono ?_; rintro e w1 ⟨b, o, cap, rfl, hc, hk1⟩; have HCL := Lib.hid hc; clear hc)
    | (go_at_call 11; refine (WP.out _).mono ?_; rintro e w2 ⟨b2, o2, cap2, rfl, hc2, hk2⟩; have HCM := Lib.hid hc2; clear hc2)
    | (go_at_call 12; refine (LV.out _).mono ?_; rintro e w3 ⟨rfl, hk3⟩))
  have hKw := hk1.trans (hk2.trans hk3)
  have HL3 : Hid (∀ W', Kept w3 W' → ∀ i, i < m → W'.cell? ⟨b, o + i, none⟩ = some (.string (bs (L.getD i [])))) := fun W' hk i hi => hk.cellSome ((hk2.trans hk3).cellSome (HCL.out i hi))
  have HM3 : Hid (∀ W', Kept w3 W' → ∀ i, i < m → W'.cell? ⟨b2, o2 + i, none⟩ = some (.string (bs (M.getD i [])))) := fun W' hk i hi => hk.cellSome (hk3.cellSome (HCM.out i hi))
  have HKW := Lib.hid hKw
  clear HCL HCM hk1 hk2 hk3 hKw WO WP f1 f2 f3 f4 f5 f6 em1 em2 em3 ek n2
  have HSUM := Lib.hid hsum
  clear hsum
  have hO0 : (w3.alloc (.cells #[] 9)).ownsRow w3.heap.size 9 1 (.slice (some ⟨w3.heap.size, 0, none⟩) 0 0) 0 (wds ((L.take 0).map List.reverse)) := own_zero w3 _ _ (Nat.le_refl _)
  have hK0 : Kept w3 (w3.alloc (.cells #[] 9)) := (Kept.refl w3).alloc _
  generalize w3.alloc (.cells #[] 9) = w4 at *
  go_loopg [13, 14] m (fun g s13 s14 wr => ∃ i : Nat, i ≤ m ∧ g = m - i ∧ s14 = .int .i64 i ∧ Kept w3 wr ∧ wr.ownsRow w3.heap.size 9 1 s13 i (wds ((L.take i).map List.reverse)))
  case atStart => exact ⟨0, Nat.zero_le _, rfl, rfl, hK0, hO0⟩
  case round =>
    clear hO0 hK0
    obtain ⟨i, hi, rfl, rfl, hK, hO⟩ := hrel
    obtain ⟨vb, vbcap, rfl⟩ := own_shape hO
    by_cases hlt : i < m
    · have s2 : (i : Int) < (m : Int) := by omega
      have s3 : (0 : Int) ≤ (i : Int) := by omega
      have hiL : i < L.length := by rw [← Hm.out]; exact hlt
      have t0 := HL3.out _ hK i hlt
      rw [getD_at hiL] at t0
      obtain ⟨X, HX⟩ : ∃ X, Hid (X = L[i]) := ⟨L[i], Lib.hid rfl⟩
      have hXl : X.length = k := by rw [HX.out]; exact (HP.out _ (List.getElem_mem hiL)).1
      rw [← HX.out] at t0
      obtain ⟨S, HSS⟩ : ∃ S : ByteArray, Hid (S = bs X) := ⟨_, Lib.hid rfl⟩
      have hSs : S.size = k := by rw [HSS.out, bs_size, hXl]
      rw [← HSS.out] at t0
      have HT0 : Hid (wr.cell? ⟨b, o + i, none⟩ = some (.string S)) := Lib.hid t0
      have hr0 : Hid ((⟨#[]⟩ : ByteArray) = bs (X.drop k).reverse) := by
        show _ = _
        rw [List.drop_eq_nil_of_le (by omega)]; rfl
      have HO := Lib.hid hO
      have HKK := Lib.hid hK
      clear hO hK
      go_wp2_with fail
      rw [hr0.out]
      go_loopg [15, 16] (k + 1) (fun g s15 s16 wx => ∃ j : Nat, j ≤ k ∧ g = j + 1 ∧ s16 = .int .i64 ((j : Int) - 1) ∧ s15 = .string (bs (X.drop j).reverse) ∧ wr = wx)
      case atStart => exact ⟨k, Nat.le_refl _, rfl, rfl, rfl, rfl⟩
      case round =>
        obtain ⟨j, hj, rfl, rfl, rfl, rfl⟩ := hrel
        by_cases h0 : 0 < j
        · obtain ⟨a, rfl⟩ : ∃ a, j = a + 1 := ⟨j - 1, by omega⟩
          have ea : (((a + 1 : Nat) : Int) - 1) = (a : Int) := by omega
          rw [ea]
          clear ea
          have a2 : (a : Int) ≥ 0 := by omega
          have a3 : (0 : Int) ≤ (a : Int) := by omega
          have a4 : (a : Int) ≤ (a : Int) + 1 := by omega
          have a5 : (a : Int) + 1 ≤ (k : Int) := by omega
          have wa : IntKind.i64.wrap ((a : Int) + 1) = (a : Int) + 1 := IntWalk.i64_in _ (by omega)
          have ta : ((a : Int) + 1).toNat = a + 1 := by omega
          have haX : a < X.length := by omega
          have hsn : Hid (bs (X.drop a).reverse = bs (X.drop (a + 1)).reverse ++ S.extract a (a + 1)) := by
            show _ = _
            rw [HSS.out, bs_extract, show a + 1 - a = 1 by omega, List.drop_eq_getElem_cons haX, List.reverse_cons, bs_append]; rfl
          have hz1 : (bs (X.drop (a + 1)).reverse).size = k - (a + 1) := by rw [bs_size, List.length_reverse, List.length_drop, hXl]
          have hz2 : (S.extract a (a + 1)).size = 1 := by rw [ByteArray.size_extract]; omega
          have hov : ¬ 9223372036854775807 < k - (a + 1) + 1 := by omega
          obtain ⟨R', HR'⟩ : ∃ R', R' = bs (X.drop a).reverse := ⟨_, rfl⟩
          rw [← HR'] at hsn
          generalize bs (X.drop (a + 1)).reverse = R at *
          go_wp2_with fail
          go_roundg (a + 1)
          case measure => omega
          case rel => exact ⟨a, by omega, rfl, by first | rfl | go_num, by rw [← HR', hsn.out], rfl⟩
        · obtain rfl : j = 0 := by omega
          have a2 : ¬ ((((0 : Nat) : Int) - 1) ≥ 0) := by omega
          have hO := HO.out
          have hK := HKK.out
          have hsw := hK.size
          obtain ⟨R, HR⟩ : ∃ R : ByteArray, Hid (R = bs (X.drop 0).reverse) := ⟨_, Lib.hid rfl⟩
          have hsn : Hid (wds ((L.take (i + 1)).map List.reverse) = wds ((L.take i).map List.reverse) ++ [.string R]) := by
            show _ = _
            rw [List.take_succ_eq_append_getElem hiL, List.map_append, HR.out, HX.out]
            exact wds_snoc _ _
          rw [← HR.out]
          obtain ⟨Lv, HLv⟩ : ∃ Lv, Hid (Lv = wds ((L.take i).map List.reverse)) := ⟨_, rfl⟩
          rw [← HLv.out] at hsn hO
          go_wp2_with (first
            | (at_builtin; refine wpList_append_own _ rfl _ _ 26 rfl w3.heap.size 9 i0 (.string ⟨#[]⟩) 1 16 Try.underlying26 hi0 hz0 hz1 hz2 rfl (by decide) _ _ _ rfl (hO.alloc _) ⟨_, 0, none⟩ 1 1 [.string R] rfl rfl (cell_one_new _ _ _) ?c2 ?c3 ?c4 ?c5 ?_))
          case c2 => simp [Value.oneCell']
          case c3 => unfold maxLen; omega
          case c4 => omega
          case c5 => (try simp); omega
          intro ov' w6 hO3 hgr _
          have hK2 : Kept w3 w6 := (hK.alloc _).grew hgr (hO.alloc _) (Nat.le_refl _)
          have hO4 : w6.ownsRow w3.heap.size 9 1 ov' (i + 1) (wds ((L.take (i + 1)).map List.reverse)) := by rw [hsn.out]; exact hO3
          clear hO3 hgr hO hK
          go_wp2_with fail
          go_roundg (m - (i + 1))
          case measure => omega
          case rel => exact ⟨i + 1, by omega, rfl, by first | rfl | go_num, hK2, hO4⟩
    · obtain rfl : i = m := by omega
      have s2 : ¬ (i : Int) < (i : Int) := by omega
      obtain ⟨-, hAT⟩ := wds_own hO
      obtain ⟨ad, bb, oo, cc, hsl, ha, hcT⟩ := hAT
      obtain ⟨rfl, hll, rfl⟩ : vb = ad ∧ i = ((L.take i).map List.reverse).length ∧ vbcap = cc := by simpa using hsl
      rw [← hll] at ha hcT
      obtain rfl := ha hpos
      have HT3 : Hid (∀ W', Kept wr W' → ∀ j, j < i → W'.cell? ⟨bb, oo + j, none⟩ = some (.string (bs (L.getD j []).reverse))) := fun W' hk j hj => by
        have h := hk.cellSome (hcT j hj)
        have hjL : j < L.length := by rw [← Hm.out]; exact hj
        have h2 : ((L.take i).map List.reverse).getD j [] = (L.getD j []).reverse := by
          rw [getD_at hjL, getD_at (by rw [← hll]; exact hj)]; simp
        dsimp only at h
        rw [h, h2]
      have HM4 : Hid (∀ W', Kept wr W' → ∀ j, j < i → W'.cell? ⟨b2, o2 + j, none⟩ = some (.string (bs (M.getD j [])))) := fun W' hk j hj => HM3.out W' (hK.trans hk) j hj
      have HKW2 : Hid (∀ W', Kept wr W' → Kept w W') := fun W' hk => HKW.out.trans (hK.trans hk)
      clear hO hsl hll hcT hK HM3 HL3 HKW ha
      generalize wr = W5 at *
      go_wp2_with fail
      go_loopg [17] i (fun g s17 wx => ∃ p : Nat, p ≤ i ∧ g = i - p ∧ s17 = .int .i64 p ∧ Quiet W5 wx)
      case atStart => exact ⟨0, Nat.zero_le _, rfl, rfl, Quiet.refl _⟩
      case round =>
        obtain ⟨p, hp, rfl, rfl, hQ⟩ := hrel
        by_cases hlp : p < i
        · have p2 : (p : Int) < (i : Int) := by omega
          have p3 : (0 : Int) ≤ (p : Int) := by omega
          have hpL : p < L.length := by rw [← Hm.out]; exact hlp
          obtain ⟨R, HR⟩ : ∃ R, Hid (R = (L.getD p []).reverse) := ⟨_, rfl⟩
          have hRM : Hid (R ∈ M) := by
            show _ ∈ _
            rw [HR.out, getD_at hpL]; exact (HP.out _ (List.getElem_mem hpL)).2
          go_wp2_with fail
          go_loopg [18, 19] i (fun g s18 s19 wy => ∃ (j : Nat) (f : Bool), j ≤ i ∧ g = i - j ∧ s19 = .int .i64 j ∧ s18 = .bool f ∧ Hid (f = among M R j) ∧ Quiet W5 wy)
          case atStart => exact ⟨0, false, Nat.zero_le _, rfl, rfl, rfl, rfl, hQ⟩
          case round =>
            clear hQ
            obtain ⟨j, f, hj, rfl, rfl, rfl, HF, hQ⟩ := hrel
            by_cases hlj : j < i
            · have j2 : (j : Int) < (i : Int) := by omega
              have j3 : (0 : Int) ≤ (j : Int) := by omega
              have hjM : j < M.length := by rw [← HmM.out]; exact hlj
              have t0 := HM4.out _ hQ.kept j hlj
              have t1 := HT3.out _ hQ.kept p hlp
              rw [← HR.out] at t1
              rw [getD_at hjM] at t0
              have hst := among_succ R hjM
              cases f
              · rw [← HF.out, Bool.false_or] at hst
                by_cases he : M[j] = R
                · rw [he] at t0
                  have hst2 : Hid (true = among M R (j + 1)) := by show _ = _; rw [hst, decide_eq_true he]
                  obtain ⟨Y, HY⟩ : ∃ Y : ByteArray, Hid (Y = bs R) := ⟨_, Lib.hid rfl⟩
                  rw [← HY.out] at t0 t1
                  clear hst he HF
                  go_wp2_with fail
                  go_quiet (fail)
                  go_wp2_with fail
                  go_roundg (i - (j + 1))
                  case measure => omega
                  case rel => exact ⟨j + 1, true, by omega, rfl, by first | rfl | go_num, by first | rfl | simp, hst2, hQ.drewN _⟩
                · have hst2 : Hid (false = among M R (j + 1)) := by show _ = _; rw [hst, decide_eq_false he]
                  obtain ⟨Y, HY⟩ : ∃ Y : ByteArray, Hid (Y = bs R) := ⟨_, Lib.hid rfl⟩
                  obtain ⟨U, HU⟩ : ∃ Y : ByteArray, Hid (Y = bs M[j]) := ⟨_, Lib.hid rfl⟩
                  have hne := beq_no (a := U) (b := Y) (fun h => he (bs_inj (by rw [← HU.out, ← HY.out]; exact h)))
                  rw [← HY.out] at t1
                  rw [← HU.out] at t0
                  clear hst he HF
                  go_wp2_with fail
                  go_quiet (fail)
                  go_wp2_with fail
                  go_roundg (i - (j + 1))
                  case measure => omega
                  case rel => exact ⟨j + 1, false, by omega, rfl, by first | rfl | go_num, by first | rfl | simp, hst2, hQ.drewN _⟩
              · have hst2 : Hid (true = among M R (j + 1)) := by show _ = _; rw [hst, ← HF.out]; rfl
                clear hst t0 t1 HF
                go_wp2_with fail
                go_quiet (fail)
                go_wp2_with fail
                go_roundg (i - (j + 1))
                case measure => omega
                case rel => exact ⟨j + 1, true, by omega, rfl, by first | rfl | go_num, by first | rfl | simp, hst2, hQ.drewN _⟩
            · obtain rfl : j = i := by omega
              have j2 : ¬ (j : Int) < (j : Int) := by omega
              obtain rfl : f = true := by rw [HF.out, HmM.out]; exact among_all hRM.out
              go_wp2_with fail
              go_roundg (j - (p + 1))
              case measure => omega
              case rel => exact ⟨p + 1, by omega, rfl, by first | rfl | go_num, hQ⟩
        · obtain rfl : p = i := by omega
          have p2 : ¬ (p : Int) < (p : Int) := by omega
          have WA2 := Lib.hid (fun W (k : Kept W5 W) => WA.out W (HKW2.out _ k))
          obtain ⟨n, HN⟩ : ∃ n, Hid (n = s.length) := ⟨_, rfl⟩
          have hsum := HSUM.out
          rw [← HN.out] at hs20 hsum
          obtain ⟨S, HSS⟩ : ∃ S : ByteArray, Hid (S = bs s) := ⟨_, Lib.hid rfl⟩
          have hSs : S.size = n := by rw [HSS.out, HN.out]; rfl
          have hr0 : Hid ((⟨#[]⟩ : ByteArray) = bs (flp (s.take 0))) := rfl
          rw [← HSS.out] at WA2 SA
          clear WA HM4 HT3
          go_wp2_with (first
            | (go_at_call 35; refine (WA2.out _ hQ.kept).mono ?_; rintro e w7 ⟨rfl, hq7⟩; have hK7 := hQ.kept.trans hq7.kept))
          rw [hr0.out]
          go_loopg [21, 22] n (fun g s21 s22 wx => ∃ j : Nat, j ≤ n ∧ g = n - j ∧ s22 = .int .i64 j ∧ s21 = .string (bs (flp (s.take j))) ∧ Quiet w7 wx)
          case atStart => exact ⟨0, Nat.zero_le _, rfl, rfl, rfl, Quiet.refl _⟩
          case round =>
            obtain ⟨j, hj, rfl, rfl, rfl, hQ8⟩ := hrel
            by_cases hlj : j < n
            · have j2 : (j : Int) < (n : Int) := by omega
              have j3 : (0 : Int) ≤ (j : Int) := by omega
              have hjs : j < s.length := by rw [← HN.out]; exact hlj
              have hat := chr_at (s := S) (i := j) (by rw [hSs]; exact hlj)
              have hcx : chr S j = (s[j].toNat : Int) := by rw [HSS.out]; exact chr_bs hjs
              have hsn := flp_take hjs
              have hfl : (bs (flp (s.take j))).size = j := by rw [bs_size, flp_len, List.length_take]; omega
              have hov : ¬ 9223372036854775807 < j + 1 := by omega
              obtain ⟨F, HF⟩ : ∃ F : ByteArray, Hid (F = bs (flp (s.take j))) := ⟨_, Lib.hid rfl⟩
              rw [← HF.out] at hfl
              rw [← HF.out]
              rcases get_bin HB.out hjs with h48 | h49
              · have hc48 : chr S j = 48 := by rw [hcx, h48]; rfl
                rw [hc48] at hat
                have hsn2 : Hid (bs (flp (s.take (j + 1))) = F ++ (⟨#[49, 48]⟩ : ByteArray).extract 0 1) := by
                  show _ = _
                  rw [hsn, if_pos h48, HF.out]; exact (bs_append _ _).symm
                have hz : ((⟨#[49, 48]⟩ : ByteArray).extract 0 1).size = 1 := rfl
                obtain ⟨R', HR'⟩ : ∃ R', R' = bs (flp (s.take (j + 1))) := ⟨_, rfl⟩
                rw [← HR'] at hsn2
                clear hsn h48 hcx hc48 HF
                go_wp2_with fail
                go_quiet (fail)
                go_wp2_with fail
                go_roundg (n - (j + 1))
                case measure => omega
                case rel => exact ⟨j + 1, by omega, rfl, by first | rfl | go_num, by rw [← HR', hsn2.out], hQ8.drewN _⟩
              · have hc49 : chr S j = 49 := by rw [hcx, h49]; rfl
                rw [hc49] at hat
                have hsn2 : Hid (bs (flp (s.take (j + 1))) = F ++ (⟨#[49, 48]⟩ : ByteArray).extract 1 2) := by
                  show _ = _
                  rw [hsn, if_neg (by rw [h49]; decide), HF.out]; exact (bs_append _ _).symm
                have hz : ((⟨#[49, 48]⟩ : ByteArray).extract 1 2).size = 1 := rfl
                obtain ⟨R', HR'⟩ : ∃ R', R' = bs (flp (s.take (j + 1))) := ⟨_, rfl⟩
                rw [← HR'] at hsn2
                clear hsn h49 hcx hc49 HF
                go_wp2_with fail
                go_quiet (fail)
                go_wp2_with fail
                go_roundg (n - (j + 1))
                case measure => omega
                case rel => exact ⟨j + 1, by omega, rfl, by first | rfl | go_num, by rw [← HR', hsn2.out], hQ8.drewN _⟩
            · obtain rfl : j = n := by omega
              have j2 : ¬ (j : Int) < (j : Int) := by omega
              obtain ⟨P, HPP⟩ : ∃ P, Hid (P = wsum 0 s) := ⟨_, rfl⟩
              obtain ⟨Q, HQQ⟩ : ∃ P, Hid (P = wsum 0 (flp s)) := ⟨_, rfl⟩
              rw [← HPP.out, ← HQQ.out] at hsum
              rw [← HPP.out] at SA
              rw [← HQQ.out] at SB
              rw [show s.take j = s by rw [HN.out, List.take_length]]
              obtain ⟨T, HTT⟩ : ∃ S : ByteArray, Hid (S = bs (flp s)) := ⟨_, Lib.hid rfl⟩
              rw [← HTT.out] at SB ⊢
              have hjj : j * (j + 1) ≤ 420 := Nat.mul_le_mul (by omega : j ≤ 20) (by omega : j + 1 ≤ 21)
              obtain ⟨J, HJ⟩ : ∃ J : Nat, Hid (J = j * (j + 1)) := ⟨_, rfl⟩
              have emul : (j : Int) * ((j : Int) + 1) = (J : Int) := by rw [HJ.out]; push_cast; rfl
              rw [← HJ.out] at hjj hsum
              have ediv : Int.tdiv (J : Int) 2 = ((J / 2 : Nat) : Int) := (Int.ofNat_tdiv J 2).symm
              have eq9 : Hid (((P : Int) + (Q : Int) == (J : Int) / 2) = true) := by
                show _ = _
                simp only [beq_iff_eq]; omega
              have hPQ : P + Q ≤ 420 := by omega
              have hw1 : IntKind.i64.wrap ((J / 2 : Nat) : Int) = ((J / 2 : Nat) : Int) := IntWalk.i64_in _ (by omega)
              have hw2 : IntKind.i64.wrap ((P : Int) + (Q : Int)) = (P : Int) + (Q : Int) := IntWalk.i64_in _ (by omega)
              clear hsum HJ HPP HQQ
              have tok2 := Lib.hid True.intro
              go_wp2_with (first
                | (go_at_call 36; clear tok2; refine (SA.out _).mono ?_; rintro e w8 ⟨rfl, hk8⟩)
                | (go_at_call 36; refine (SB.out _).mono ?_; rintro e w9 ⟨rfl, hk9⟩))
              go_ret
              exact ⟨ret_bool eq9.out, HKW2.out _ (hK7.trans (hQ8.kept.trans (hk8.trans hk9)))⟩
end Go.Proofs.Ytjcgplocifmolaa
