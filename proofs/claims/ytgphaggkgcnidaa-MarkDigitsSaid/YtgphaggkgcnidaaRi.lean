/-
  The reference of mark: Found.
-/
import Derived.Test.YtgphaggkgcnidaaRh
namespace Go.Proofs.Ytgphaggkgcnidaa
open Go.RowKit Go.Deep Go.Sort

theorem quiet_trans {a b c : World} (h : Quiet a b) (k : Quiet b c) : Quiet a c := by
  obtain ⟨n, rfl⟩ := h
  obtain ⟨m, rfl⟩ := k
  exact ⟨n + m, by rw [World.drewN_drewN]⟩

set_option maxRecDepth 100000 in
set_option maxHeartbeats 2000000 in
theorem rFound_any (w : World) (n q a b : Nat) (l : Wd) (hn1 : 1 ≤ n) (hn : n ≤ 1000) (hq1 : 1 ≤ q) (hq : q ≤ 4) (hl : l.length ≤ 1000) (hd : Dig q l) :
    Calls Try.prog 46 #[.int .i64 n, .int .i64 q, .int .i64 a, .int .i64 b, .string (bs l)] w fun e w' => e = .returned (refV ((srt (inss l q)).find? (hasD n q a b))) ∧ Kept w w' := by
  obtain ⟨L, HL⟩ : ∃ L, Hid (L = srt (inss l q)) := ⟨_, rfl⟩
  obtain ⟨s, HSS⟩ : ∃ s : ByteArray, Hid (s = bs l) := ⟨bs l, Lib.hid rfl⟩
  have hsz : s.size = l.length := by rw [HSS.out]; exact bs_size l
  have RL := Lib.hid (fun W => ref_list (rLonger_any W l q hl hq))
  have hm : L.length ≤ 1000000 := by rw [HL.out]; exact inss_small hl hq
  have HLEN : Hid (∀ x ∈ L, x.length = l.length + 1) := Lib.hid (fun x hx => by rw [HL.out] at hx; exact srt_inss_len hx)
  have HDG : Hid (∀ x ∈ L, Dig 4 x) := Lib.hid (fun x hx => by rw [HL.out] at hx; exact dig_mono hq (srt_inss_dig hq hd hx))
  rw [← HL.out] at RL ⊢
  rw [← HSS.out] at RL ⊢
  have hw1 : IntKind.i64.wrap ((n : Int) - 1) = (n : Int) - 1 := IntWalk.i64_in _ (by omega)
  by_cases h1 : l.length + 1 = n
  · have e1 : ((s.size : Int) != (n : Int) - 1) = false := by rw [hsz]; simp only [bne_eq_false_iff_eq]; omega
    have HB : Hid (∀ x ∈ L, ∀ W, Calls Try.prog 74 #[.int .i64 n, .int .i64 q, .int .i64 a, .int .i64 b, .string (bs x)] W fun e w' => e = .returned (.bool (hasD n q a b x)) ∧ Quiet W w') := Lib.hid (fun x hx W => rInCode_any W n q a b x hn1 hn hq1 hq (by have := HLEN.out x hx; omega) (HDG.out x hx))
    obtain ⟨m, HM⟩ : ∃ m, Hid (m = L.length) := ⟨_, rfl⟩
    clear h1 HLEN HL HDG hd
    go_enter Try.func46, Try.ntmps46
    go_wp2_with (first
      | (go_at_call 25; refine (RL.out _).mono ?_; rintro e w1 ⟨v, rfl, hv, hk1⟩))
    obtain ⟨va, vb, vo, vcap, rfl, ha, hc⟩ := hv
    have HC := Lib.hid hc
    clear hc
    rw [← HM.out] at hm ha HC ⊢
    go_loopg [13] m (fun g s9 wr => ∃ i : Nat, i ≤ m ∧ g = m - i ∧ s9 = .int .i64 i ∧ Quiet w1 wr ∧ Hid ((L.take i).find? (hasD n q a b) = none))
    case atStart => exact ⟨0, Nat.zero_le _, rfl, rfl, Quiet.refl _, Lib.hid rfl⟩
    case round =>
      obtain ⟨i, hi, rfl, rfl, hQ, HX⟩ := hrel
      by_cases hlt : i < m
      · have s2 : (i : Int) < (m : Int) := by omega
        have s3 : (0 : Int) ≤ (i : Int) := by omega
        have hiL : i < L.length := by rw [← HM.out]; exact hlt
        obtain rfl := ha (by omega)
        have t0 := hQ.kept.cellSome (HC.out i hlt)
        (try dsimp only at t0)
        rw [getD_at hiL] at t0
        obtain ⟨y, HY⟩ : ∃ y, Hid (y = L[i]) := ⟨L[i], Lib.hid rfl⟩
        have hyL : y ∈ L := by rw [HY.out]; exact List.getElem_mem hiL
        have SU := Lib.hid (HB.out y hyL)
        have hno := Lib.hid (fun hp : hasD n q a b y = false => find_no hiL HX.out (by rw [← HY.out]; exact hp))
        have hyes := Lib.hid (fun hp : hasD n q a b y = true => (find_yes hiL HX.out (by rw [← HY.out]; exact hp) : L.find? (hasD n q a b) = some L[i]))
        rw [← HY.out] at t0 hyes
        obtain ⟨Y, HYY⟩ : ∃ Y : ByteArray, Hid (Y = bs y) := ⟨_, Lib.hid rfl⟩
        rw [← HYY.out] at t0 SU
        cases e2 : hasD n q a b y
        · rw [e2] at SU
          have hnx := Lib.hid (hno.out e2)
          clear hno hyes HX e2
          go_wp2_with (first | (go_at_call 74; refine (SU.out _).mono ?_; rintro e w5 ⟨rfl, hq5⟩))
          go_roundg (m - (i + 1))
          case measure => omega
          case rel => exact ⟨i + 1, by omega, rfl, by first | rfl | go_num, quiet_trans hQ hq5, hnx⟩
        · rw [e2] at SU
          have hres : Hid (Value.tuple #[.string Y, .bool true] = refV (L.find? (hasD n q a b))) := by
            show _ = _
            rw [hyes.out e2, HYY.out]; rfl
          have t1 : Hid (∀ W, Quiet wr W → W.cell? ⟨vb, vo + i, none⟩ = some (.string Y)) := Lib.hid (fun W h => h.kept.cellSome t0)
          clear hno hyes HX e2
          go_wp2_with (first | (go_at_call 74; refine (SU.out _).mono ?_; rintro e w5 ⟨rfl, hq5⟩; have t2 := t1.out _ hq5))
          go_ret2
          exact ⟨congrArg Ending.returned hres.out, hk1.trans (quiet_trans hQ hq5).kept⟩
      · obtain rfl : i = m := by omega
        have s2 : ¬ (i : Int) < (i : Int) := by omega
        have hres : Hid (Value.tuple #[.string ⟨#[]⟩, .bool false] = refV (L.find? (hasD n q a b))) := by
          show _ = _
          have h := HX.out
          rw [HM.out, List.take_length] at h
          rw [h]; rfl
        go_wp2_with fail
        go_ret2
        exact ⟨congrArg Ending.returned hres.out, hk1.trans hQ.kept⟩
  · have e1 : ((s.size : Int) != (n : Int) - 1) = true := by rw [hsz]; simp only [bne_iff_ne, ne_eq]; omega
    have hres : Hid (Value.tuple #[.string ⟨#[]⟩, .bool false] = refV (L.find? (hasD n q a b))) := by
      show _ = _
      have h : L.find? (hasD n q a b) = none := find_none (fun x hx => by
        have h2 := HLEN.out x hx
        unfold hasD
        rw [decide_eq_false (by omega), Bool.false_and])
      rw [h]; rfl
    clear HLEN h1
    go_enter Try.func46, Try.ntmps46
    go_wp2_with fail
    go_ret2
    exact ⟨congrArg Ending.returned hres.out, Kept.refl _⟩
end Go.Proofs.Ytgphaggkgcnidaa
