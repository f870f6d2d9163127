/-
  The reference of mark: Steps, InCode, Found.
-/
import Derived.Test.YtgphaggkgcnidaaDa
import Derived.Test.YtgphaggkgcnidaaRf
import Derived.Test.YtgphaggkgcnidaaDc
namespace Go.Proofs.Ytgphaggkgcnidaa
open Go.RowKit Go.Deep Go.Sort

set_option maxRecDepth 100000 in
set_option maxHeartbeats 2000000 in
theorem rSteps_any (w : World) (l : Wd) (hl : l.length ≤ 1000) : Calls Try.prog 42 #[.string (bs l)] w fun e w' => e = .returned (.string (bs (stps l))) ∧ Quiet w w' := by
  obtain ⟨n, HN⟩ : ∃ n, Hid (n = l.length) := ⟨_, rfl⟩
  obtain ⟨s, HSS⟩ : ∃ s : ByteArray, Hid (s = bs l) := ⟨_, Lib.hid rfl⟩
  have hsz : s.size = n := by rw [HSS.out, HN.out]; exact bs_size l
  rw [← HN.out] at hl
  rw [← HSS.out]
  have hr0 : Hid ((⟨#[]⟩ : ByteArray) = bs (stps (l.take (0 + 1)))) := by
    show _ = _
    cases l with
    | nil => rfl
    | cons a t => rfl
  go_enter Try.func42, Try.ntmps42
  go_wp2_with fail
  rw [hr0.out]
  go_loopg [3, 4] n (fun g s3 s4 wr => ∃ i : Nat, (i + 1 ≤ n ∨ i = 0) ∧ g = n - i ∧ s4 = .int .i64 ((i : Int) + 1) ∧ s3 = .string (bs (stps (l.take (i + 1)))) ∧ Quiet w wr)
  case atStart => exact ⟨0, .inr rfl, rfl, by first | rfl | go_num, rfl, Quiet.refl _⟩
  case round =>
    obtain ⟨i, hi, rfl, rfl, rfl, hK⟩ := hrel
    have hss : (bs (stps (l.take (i + 1)))).size ≤ i := by
      rw [bs_size, stps_len]
      have : (l.take (i + 1)).length ≤ i + 1 := List.length_take_le _ _
      omega
    by_cases hlt : i + 1 < n
    · have s2 : (i : Int) + 1 < (n : Int) := by omega
      have s3 : (0 : Int) ≤ (i : Int) + 1 := by omega
      have s4 : (0 : Int) ≤ (i : Int) := by omega
      have s5 : (i : Int) < (n : Int) := by omega
      have hiL : i + 1 < l.length := by rw [← HN.out]; exact hlt
      have hiL0 : i < l.length := by omega
      have his : i + 1 < s.size := by rw [hsz]; exact hlt
      have his0 : i < s.size := by omega
      have hat1 := chr_at his
      have hat0 := chr_at his0
      have hc1 : Hid (chr s (i + 1) = (l[i + 1].toNat : Int)) := by show _ = _; rw [HSS.out]; exact chr_bs hiL
      have hc0 : Hid (chr s i = (l[i].toNat : Int)) := by show _ = _; rw [HSS.out]; exact chr_bs hiL0
      have hst := stps_take hiL
      have et : ((i : Int) + 1).toNat = i + 1 := by omega
      have ei : (i : Int) + 1 - 1 = (i : Int) := by omega
      have w1 : IntKind.i64.wrap (i : Int) = (i : Int) := IntWalk.i64_in _ (by rw [← HN.out] at hiL; omega)
      obtain ⟨c1, HC1⟩ : ∃ x, Hid (x = chr s (i + 1)) := ⟨_, rfl⟩
      obtain ⟨c0, HC0⟩ : ∃ x, Hid (x = chr s i) := ⟨_, rfl⟩
      rw [← HC1.out] at hat1 hc1
      rw [← HC0.out] at hat0 hc0
      by_cases h : l[i] ≤ l[i + 1]
      · have e1 : c1 ≥ c0 := by rw [hc1.out, hc0.out]; have := UInt8.le_iff_toNat_le.1 h; omega
        have hnx : Hid (bs (stps (l.take (i + 1 + 1))) = bs (stps (l.take (i + 1))) ++ ⟨#[49]⟩) := by
          show _ = _
          rw [hst, stp_yes.2 h]; exact (bs_append _ _).symm
        obtain ⟨R', HR'⟩ : ∃ R', R' = bs (stps (l.take (i + 1 + 1))) := ⟨_, rfl⟩
        rw [← HR'] at hnx
        generalize bs (stps (l.take (i + 1))) = R at *
        clear h hst HC1 HC0 hc1 hc0
        go_wp2_with fail
        go_quiet (fail)
        go_wp2_with (go_at_call 79; refine (joinB2 _ _ R ⟨#[49]⟩ (sbox2 _ (.string R) (.string ⟨#[49]⟩) 9).1 (sbox2 _ (.string R) (.string ⟨#[49]⟩) 9).2 (by show R.size + 1 ≤ 1000000; omega)).mono ?_; rintro e w5 ⟨rfl, rfl⟩)
        go_roundg (n - (i + 1))
        case measure => omega
        case rel => exact ⟨i + 1, by omega, rfl, by first | rfl | go_num, by rw [← HR', hnx.out], hK.drewN _⟩
      · have h : l[i + 1] < l[i] := UInt8.not_le.1 h
        have e1 : ¬ c1 ≥ c0 := by rw [hc1.out, hc0.out]; have := UInt8.lt_iff_toNat_lt.1 h; omega
        have hnx : Hid (bs (stps (l.take (i + 1 + 1))) = bs (stps (l.take (i + 1))) ++ ⟨#[48]⟩) := by
          show _ = _
          rw [hst, stp_no.2 h]; exact (bs_append _ _).symm
        obtain ⟨R', HR'⟩ : ∃ R', R' = bs (stps (l.take (i + 1 + 1))) := ⟨_, rfl⟩
        rw [← HR'] at hnx
        generalize bs (stps (l.take (i + 1))) = R at *
        clear h hst HC1 HC0 hc1 hc0
        go_wp2_with fail
        go_quiet (fail)
        go_wp2_with (go_at_call 79; refine (joinB2 _ _ R ⟨#[48]⟩ (sbox2 _ (.string R) (.string ⟨#[48]⟩) 9).1 (sbox2 _ (.string R) (.string ⟨#[48]⟩) 9).2 (by show R.size + 1 ≤ 1000000; omega)).mono ?_; rintro e w5 ⟨rfl, rfl⟩)
        go_roundg (n - (i + 1))
        case measure => omega
        case rel => exact ⟨i + 1, by omega, rfl, by first | rfl | go_num, by rw [← HR', hnx.out], hK.drewN _⟩
    · have s2 : ¬ (i : Int) + 1 < (n : Int) := by omega
      have hfin : Hid (bs (stps (l.take (i + 1))) = bs (stps l)) := by
        show _ = _
        rw [List.take_of_length_le (by rw [← HN.out]; omega)]
      generalize bs (stps (l.take (i + 1))) = R at *
      go_wp2_with fail
      go_ret
      exact ⟨by rw [hfin.out]; rfl, hK⟩
set_option maxRecDepth 100000 in
set_option maxHeartbeats 2000000 in
theorem rInCode_any (w : World) (n q a b : Nat) (l : Wd) (hn : 1 ≤ n) (hn2 : n ≤ 1000) (hq : 1 ≤ q) (hq4 : q ≤ 4) (hl : l.length ≤ 1000) (hd : Dig 4 l) :
    Calls Try.prog 74 #[.int .i64 n, .int .i64 q, .int .i64 a, .int .i64 b, .string (bs l)] w fun e w' => e = .returned (.bool (hasD n q a b l)) ∧ Quiet w w' := by
  have ST := Lib.hid (fun W => rSteps_any W l hl)
  have SU := Lib.hid (fun W => rSum_any W (stps l) (by rw [stps_len]; omega))
  obtain ⟨m, HN⟩ : ∃ n, Hid (n = l.length) := ⟨_, rfl⟩
  obtain ⟨s, HSS⟩ : ∃ s : ByteArray, Hid (s = bs l) := ⟨_, Lib.hid rfl⟩
  obtain ⟨t, HTT⟩ : ∃ s : ByteArray, Hid (s = bs (stps l)) := ⟨bs (stps l), Lib.hid rfl⟩
  have hsz : s.size = m := by rw [HSS.out, HN.out]; exact bs_size l
  have HD := Lib.hid hd
  rw [← HN.out] at hl
  rw [← HSS.out] at ST ⊢
  rw [← HTT.out] at ST SU
  obtain ⟨R, HR0⟩ : ∃ R, Hid (R = hasD n q a b l) := ⟨_, rfl⟩
  rw [← HR0.out]
  clear hd
  go_enter Try.func74, Try.ntmps74
  go_wp2_with fail
  go_loopg [11, 12] m (fun g s3 s7 wr => ∃ i x : Nat, i ≤ m ∧ g = m - i ∧ s7 = .int .i64 i ∧ s3 = .int .i64 x ∧ w = wr ∧ x ≤ 4 * i ∧ Hid (x = dsum (l.take i)))
  case atStart => exact ⟨0, 0, Nat.zero_le _, rfl, rfl, rfl, rfl, by omega, rfl⟩
  case round =>
    obtain ⟨i, x, hi, rfl, rfl, rfl, rfl, hx, HX⟩ := hrel
    by_cases hlt : i < m
    · have s2 : (i : Int) < (m : Int) := by omega
      have s3 : (0 : Int) ≤ (i : Int) := by omega
      have hiL : i < l.length := by rw [← HN.out]; exact hlt
      have his : i < s.size := by rw [hsz]; exact hlt
      have hat := chr_at his
      have hdi := HD.out l[i] (List.getElem_mem hiL)
      have hc : chr s i - 48 = ((l[i].toNat - 48 : Nat) : Int) := by rw [HSS.out, chr_bs hiL]; omega
      have hst := dsum_take hiL
      rw [← HX.out] at hst
      obtain ⟨d, HDD⟩ : ∃ d : Nat, Hid (d = l[i].toNat - 48) := ⟨l[i].toNat - 48, Lib.hid rfl⟩
      have hd4 : d < 4 := by rw [HDD.out]; omega
      rw [← HDD.out] at hc hst
      have HS := Lib.hid hst
      have w1 : IntKind.u8.wrap (d : Int) = (d : Int) := IntWalk.u8_in _ (by omega)
      generalize chr s i = c at *
      have hc2 : c = (d : Int) + 48 := by omega
      have w3 : (d : Int) + 48 - 48 = (d : Int) := by omega
      subst hc2
      clear hdi hst
      go_wp2_with fail
      go_roundg (m - (i + 1))
      case measure => omega
      case rel => exact ⟨i + 1, x + d, by omega, rfl, by first | rfl | go_num, by first | rfl | go_num, rfl, by omega, HS.out.symm⟩
    · obtain rfl : i = m := by omega
      have s2 : ¬ (i : Int) < (i : Int) := by omega
      have hx2 : x = dsum l := by rw [HX.out, HN.out, List.take_length]
      have hdef : Hid (hasD n q a b l = (decide (i = n) && (decide (x % q = b) && decide (wsum 0 (stps l) % n = a)))) := by
        show _ = _
        unfold hasD
        rw [← hx2, ← HN.out]
      rw [← HR0.out] at hdef
      clear hx2 HX HD
      obtain ⟨y, HY⟩ : ∃ x, Hid (x = wsum 0 (stps l)) := ⟨_, rfl⟩
      rw [← HY.out] at SU hdef
      have em : Int.tmod (x : Int) (q : Int) = ((x % q : Nat) : Int) := (Int.ofNat_tmod x q).symm
      have em2 : Int.tmod (y : Int) (n : Int) = ((y % n : Nat) : Int) := (Int.ofNat_tmod y n).symm
      have hxb := Nat.mod_lt x (show 0 < q by omega)
      have hyb := Nat.mod_lt y (show 0 < n by omega)
      obtain ⟨r, HR⟩ : ∃ r, Hid (r = x % q) := ⟨_, rfl⟩
      obtain ⟨u, HU⟩ : ∃ r, Hid (r = y % n) := ⟨_, rfl⟩
      rw [← HR.out] at em hxb hdef
      rw [← HU.out] at em2 hyb hdef
      have w1 : IntKind.i64.wrap (r : Int) = (r : Int) := IntWalk.i64_in _ (by omega)
      have w2 : IntKind.i64.wrap (u : Int) = (u : Int) := IntWalk.i64_in _ (by omega)
      have n1 : ¬ ((q : Int) = 0) := by omega
      have n2 : ¬ ((n : Int) = 0) := by omega
      have n3 : ¬ (q = 0) := by omega
      have n4 : ¬ (n = 0) := by omega
      have el := nat_beq i n
      have er := nat_beq r b
      have eu := nat_beq u a
      cases e1 : decide (i = n)
      · rw [e1] at el hdef
        have hres : Hid (R = false) := by show _ = _; rw [hdef.out]; rfl
        clear e1 hdef er eu em em2
        go_wp2_with fail
        go_ret
        exact ⟨by rw [hres.out]; rfl, Quiet.refl _⟩
      · cases e2 : decide (r = b)
        · rw [e1] at el hdef
          rw [e2] at er hdef
          have hres : Hid (R = false) := by show _ = _; rw [hdef.out]; rfl
          clear e1 e2 hdef eu em2
          go_wp2_with fail
          go_ret
          exact ⟨by rw [hres.out]; rfl, Quiet.refl _⟩
        · rw [e1] at el hdef
          rw [e2] at er hdef
          cases e3 : decide (u = a)
          all_goals
            rw [e3] at eu hdef
            have hres := Lib.hid hdef.out
            clear e1 e2 e3 hdef
            go_wp2_with (first
              | (go_at_call 42; refine (ST.out _).mono ?_; rintro e w5 ⟨rfl, hq5⟩)
              | (go_at_call 23; refine (SU.out _).mono ?_; rintro e w6 ⟨rfl, rfl⟩))
            go_ret
            exact ⟨by rw [hres.out]; rfl, hq5⟩
end Go.Proofs.Ytgphaggkgcnidaa
