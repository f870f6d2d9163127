/-
  The reference of mark: Restore, Remove.
-/
import Derived.Test.YtgphaggkgcnidaaRb
import Derived.Test.YtgphaggkgcnidaaRe
import Derived.Test.YtgphaggkgcnidaaMi
import Derived.Test.YtgphaggkgcnidaaYc
namespace Go.Proofs.Ytgphaggkgcnidaa
open Go.RowKit Go.Deep Go.Sort

/-- what the reference answers: the word, and whether there is one -/
def refV (o : Option Wd) : Value := .tuple #[.string (bs (o.getD [])), .bool o.isSome]
theorem find_none {p : Wd → Bool} {L : List Wd} (h : ∀ x ∈ L, p x = false) : L.find? p = none := by
  rw [List.find?_eq_none]
  intro x hx; rw [h x hx]; simp
set_option maxRecDepth 100000 in
set_option maxHeartbeats 2000000 in
theorem rRestore_any (w : World) (n a : Nat) (l : Wd) (hn1 : 1 ≤ n) (hn : n ≤ 1000) (hl : l.length ≤ 1000) :
    Calls Try.prog 35 #[.int .i64 n, .int .i64 a, .string (bs l)] w fun e w' => e = .returned (refV ((srt (inss l 2)).find? (hasL n a))) ∧ Kept w w' := by
  obtain ⟨L, HL⟩ : ∃ L, Hid (L = srt (inss l 2)) := ⟨_, rfl⟩
  obtain ⟨s, HSS⟩ : ∃ s : ByteArray, Hid (s = bs l) := ⟨bs l, Lib.hid rfl⟩
  have hsz : s.size = l.length := by rw [HSS.out]; exact bs_size l
  have RL := Lib.hid (fun W => ref_list (rLonger_any W l 2 hl (by omega)))
  have hm : L.length ≤ 1000000 := by rw [HL.out]; exact inss_small hl (by omega)
  have HLEN : Hid (∀ x ∈ L, x.length = l.length + 1) := Lib.hid (fun x hx => by rw [HL.out] at hx; exact srt_inss_len hx)
  rw [← HL.out] at RL ⊢
  rw [← HSS.out] at RL ⊢
  have hw1 : IntKind.i64.wrap ((n : Int) - 1) = (n : Int) - 1 := IntWalk.i64_in _ (by omega)
  have hw2 : IntKind.i64.wrap ((n : Int) + 1) = (n : Int) + 1 := IntWalk.i64_in _ (by omega)
  by_cases h1 : l.length + 1 = n
  · have e1 : ((s.size : Int) != (n : Int) - 1) = false := by rw [hsz]; simp only [bne_eq_false_iff_eq]; omega
    have HN : Hid (∀ x ∈ L, x.length = n) := Lib.hid (fun x hx => by have := HLEN.out x hx; omega)
    have HB : Hid (∀ x ∈ L, x.length ≤ 1000 → ∀ W, Calls Try.prog 23 #[.string (bs x)] W fun e w' => e = .returned (.int .i64 (wsum 0 x : Nat)) ∧ W = w') := Lib.hid (fun x _ hx W => rSum_any W x hx)
    obtain ⟨m, HM⟩ : ∃ m, Hid (m = L.length) := ⟨_, rfl⟩
    clear h1 HLEN HL
    go_enter Try.func35, Try.ntmps35
    go_wp2_with (first
      | (go_at_call 25; refine (RL.out _).mono ?_; rintro e w1 ⟨v, rfl, hv, hk1⟩))
    obtain ⟨va, vb, vo, vcap, rfl, ha, hc⟩ := hv
    have HC := Lib.hid hc
    clear hc
    rw [← HM.out] at hm ha HC ⊢
    go_loopg [9] m (fun g s9 wr => ∃ i : Nat, i ≤ m ∧ g = m - i ∧ s9 = .int .i64 i ∧ Quiet w1 wr ∧ Hid ((L.take i).find? (hasL n a) = none))
    case atStart => exact ⟨0, Nat.zero_le _, rfl, rfl, Quiet.refl _, Lib.hid rfl⟩
    case round =>
      obtain ⟨i, hi, rfl, rfl, hQ, HX⟩ := hrel
      by_cases hlt : i < m
      · have s2 : (i : Int) < (m : Int) := by omega
        have s3 : (0 : Int) ≤ (i : Int) := by omega
        have hiL : i < L.length := by rw [← HM.out]; exact hlt
        obtain rfl := ha (by omega)
        have t0 := hQ.kept.cellSome (HC.out i hlt)
        (try dsimp only at t0)
        rw [getD_at hiL] at t0
        obtain ⟨y, HY⟩ : ∃ y, Hid (y = L[i]) := ⟨L[i], Lib.hid rfl⟩
        have hyL : y ∈ L := by rw [HY.out]; exact List.getElem_mem hiL
        have hyn : y.length = n := HN.out y hyL
        have SU := Lib.hid (HB.out y hyL (by omega))
        have hno := Lib.hid (fun hp : hasL n a y = false => find_no hiL HX.out (by rw [← HY.out]; exact hp))
        have hyes := Lib.hid (fun hp : hasL n a y = true => (find_yes hiL HX.out (by rw [← HY.out]; exact hp) : L.find? (hasL n a) = some L[i]))
        rw [← HY.out] at t0 hyes
        obtain ⟨Y, HYY⟩ : ∃ Y : ByteArray, Hid (Y = bs y) := ⟨_, Lib.hid rfl⟩
        rw [← HYY.out] at t0 SU
        have hne : ¬ ((n : Int) + 1 = 0) := by omega
        have hdef : hasL n a y = decide (wsum 0 y % (n + 1) = a) := by unfold hasL; rw [decide_eq_true hyn, Bool.true_and]
        obtain ⟨x, HXX⟩ : ∃ x, Hid (x = wsum 0 y) := ⟨_, rfl⟩
        rw [← HXX.out] at SU hdef
        have em : Int.tmod (x : Int) ((n : Int) + 1) = ((x % (n + 1) : Nat) : Int) := (Int.ofNat_tmod x (n + 1)).symm
        have hxb : x % (n + 1) ≤ 1000 := by have := Nat.mod_lt x (show 0 < n + 1 by omega); omega
        obtain ⟨r, HR⟩ : ∃ r, Hid (r = x % (n + 1)) := ⟨_, rfl⟩
        rw [← HR.out] at em hxb hdef
        have er : ((r : Int) == (a : Int)) = decide (r = a) := by
          by_cases h : r = a
          · subst h; simp
          · rw [decide_eq_false h]; simp only [beq_eq_false_iff_ne]; omega
        cases e2 : decide (r = a)
        · rw [e2] at er hdef
          have hnx := Lib.hid (hno.out hdef)
          clear hdef hno hyes HX e2 HXX HR
          go_wp2_with (first | (go_at_call 23; refine (SU.out _).mono ?_; rintro e w5 ⟨rfl, rfl⟩))
          go_roundg (m - (i + 1))
          case measure => omega
          case rel => exact ⟨i + 1, by omega, rfl, by first | rfl | go_num, hQ, hnx⟩
        · rw [e2] at er hdef
          have hres : Hid (Value.tuple #[.string Y, .bool true] = refV (L.find? (hasL n a))) := by
            show _ = _
            rw [hyes.out hdef, HYY.out]; rfl
          clear hdef hno hyes HX e2 HXX HR
          go_wp2_with (first | (go_at_call 23; refine (SU.out _).mono ?_; rintro e w5 ⟨rfl, rfl⟩))
          go_ret2
          exact ⟨congrArg Ending.returned hres.out, hk1.trans hQ.kept⟩
      · obtain rfl : i = m := by omega
        have s2 : ¬ (i : Int) < (i : Int) := by omega
        have hres : Hid (Value.tuple #[.string ⟨#[]⟩, .bool false] = refV (L.find? (hasL n a))) := by
          show _ = _
          have h := HX.out
          rw [HM.out, List.take_length] at h
          rw [h]; rfl
        go_wp2_with fail
        go_ret2
        exact ⟨congrArg Ending.returned hres.out, hk1.trans hQ.kept⟩
  · have e1 : ((s.size : Int) != (n : Int) - 1) = true := by rw [hsz]; simp only [bne_iff_ne, ne_eq]; omega
    have hres : Hid (Value.tuple #[.string ⟨#[]⟩, .bool false] = refV (L.find? (hasL n a))) := by
      show _ = _
      have h : L.find? (hasL n a) = none := find_none (fun x hx => by
        have h2 := HLEN.out x hx
        unfold hasL
        rw [decide_eq_false (by omega), Bool.false_and])
      rw [h]; rfl
    clear HLEN h1
    go_enter Try.func35, Try.ntmps35
    go_wp2_with fail
    go_ret2
    exact ⟨congrArg Ending.returned hres.out, Kept.refl _⟩
set_option maxRecDepth 100000 in
set_option maxHeartbeats 2000000 in
theorem rRemove_any (w : World) (n a : Nat) (l : Wd) (hn1 : 1 ≤ n) (hn : n ≤ 1000) (hl : l.length ≤ 1000) :
    Calls Try.prog 36 #[.int .i64 n, .int .i64 a, .string (bs l)] w fun e w' => e = .returned (refV ((srt (dels l)).find? (hasL n a))) ∧ Kept w w' := by
  obtain ⟨L, HL⟩ : ∃ L, Hid (L = srt (dels l)) := ⟨_, rfl⟩
  obtain ⟨s, HSS⟩ : ∃ s : ByteArray, Hid (s = bs l) := ⟨bs l, Lib.hid rfl⟩
  have hsz : s.size = l.length := by rw [HSS.out]; exact bs_size l
  have RL := Lib.hid (fun W => ref_list (rShorter_any W l hl))
  have hm : L.length ≤ 1000000 := by rw [HL.out]; exact dels_small hl
  have HLEN : Hid (∀ x ∈ L, x.length + 1 = l.length) := Lib.hid (fun x hx => by rw [HL.out] at hx; exact srt_dels_len hx)
  rw [← HL.out] at RL ⊢
  rw [← HSS.out] at RL ⊢
  have hw1 : IntKind.i64.wrap ((n : Int) - 1) = (n : Int) - 1 := IntWalk.i64_in _ (by omega)
  have hw2 : IntKind.i64.wrap ((n : Int) + 1) = (n : Int) + 1 := IntWalk.i64_in _ (by omega)
  by_cases h1 : l.length = n + 1
  · have e1 : ((s.size : Int) != (n : Int) + 1) = false := by rw [hsz]; simp only [bne_eq_false_iff_eq]; omega
    have HN : Hid (∀ x ∈ L, x.length = n) := Lib.hid (fun x hx => by have := HLEN.out x hx; omega)
    have HB : Hid (∀ x ∈ L, x.length ≤ 1000 → ∀ W, Calls Try.prog 23 #[.string (bs x)] W fun e w' => e = .returned (.int .i64 (wsum 0 x : Nat)) ∧ W = w') := Lib.hid (fun x _ hx W => rSum_any W x hx)
    obtain ⟨m, HM⟩ : ∃ m, Hid (m = L.length) := ⟨_, rfl⟩
    clear h1 HLEN HL
    go_enter Try.func36, Try.ntmps36
    go_wp2_with (first
      | (go_at_call 26; refine (RL.out _).mono ?_; rintro e w1 ⟨v, rfl, hv, hk1⟩))
    obtain ⟨va, vb, vo, vcap, rfl, ha, hc⟩ := hv
    have HC := Lib.hid hc
    clear hc
    rw [← HM.out] at hm ha HC ⊢
    go_loopg [9] m (fun g s9 wr => ∃ i : Nat, i ≤ m ∧ g = m - i ∧ s9 = .int .i64 i ∧ Quiet w1 wr ∧ Hid ((L.take i).find? (hasL n a) = none))
    case atStart => exact ⟨0, Nat.zero_le _, rfl, rfl, Quiet.refl _, Lib.hid rfl⟩
    case round =>
      obtain ⟨i, hi, rfl, rfl, hQ, HX⟩ := hrel
      by_cases hlt : i < m
      · have s2 : (i : Int) < (m : Int) := by omega
        have s3 : (0 : Int) ≤ (i : Int) := by omega
        have hiL : i < L.length := by rw [← HM.out]; exact hlt
        obtain rfl := ha (by omega)
        have t0 := hQ.kept.cellSome (HC.out i hlt)
        (try dsimp only at t0)
        rw [getD_at hiL] at t0
        obtain ⟨y, HY⟩ : ∃ y, Hid (y = L[i]) := ⟨L[i], Lib.hid rfl⟩
        have hyL : y ∈ L := by rw [HY.out]; exact List.getElem_mem hiL
        have hyn : y.length = n := HN.out y hyL
        have SU := Lib.hid (HB.out y hyL (by omega))
        have hno := Lib.hid (fun hp : hasL n a y = false => find_no hiL HX.out (by rw [← HY.out]; exact hp))
        have hyes := Lib.hid (fun hp : hasL n a y = true => (find_yes hiL HX.out (by rw [← HY.out]; exact hp) : L.find? (hasL n a) = some L[i]))
        rw [← HY.out] at t0 hyes
        obtain ⟨Y, HYY⟩ : ∃ Y : ByteArray, Hid (Y = bs y) := ⟨_, Lib.hid rfl⟩
        rw [← HYY.out] at t0 SU
        have hne : ¬ ((n : Int) + 1 = 0) := by omega
        have hdef : hasL n a y = decide (wsum 0 y % (n + 1) = a) := by unfold hasL; rw [decide_eq_true hyn, Bool.true_and]
        obtain ⟨x, HXX⟩ : ∃ x, Hid (x = wsum 0 y) := ⟨_, rfl⟩
        rw [← HXX.out] at SU hdef
        have em : Int.tmod (x : Int) ((n : Int) + 1) = ((x % (n + 1) : Nat) : Int) := (Int.ofNat_tmod x (n + 1)).symm
        have hxb : x % (n + 1) ≤ 1000 := by have := Nat.mod_lt x (show 0 < n + 1 by omega); omega
        obtain ⟨r, HR⟩ : ∃ r, Hid (r = x % (n + 1)) := ⟨_, rfl⟩
        rw [← HR.out] at em hxb hdef
        have er : ((r : Int) == (a : Int)) = decide (r = a) := by
          by_cases h : r = a
          · subst h; simp
          · rw [decide_eq_false h]; simp only [beq_eq_false_iff_ne]; omega
        cases e2 : decide (r = a)
        · rw [e2] at er hdef
          have hnx := Lib.hid (hno.out hdef)
          clear hdef hno hyes HX e2 HXX HR
          go_wp2_with (first | (go_at_call 23; refine (SU.out _).mono ?_; rintro e w5 ⟨rfl, rfl⟩))
          go_roundg (m - (i + 1))
          case measure => omega
          case rel => exact ⟨i + 1, by omega, rfl, by first | rfl | go_num, hQ, hnx⟩
        · rw [e2] at er hdef
          have hres : Hid (Value.tuple #[.string Y, .bool true] = refV (L.find? (hasL n a))) := by
            show _ = _
            rw [hyes.out hdef, HYY.out]; rfl
          clear hdef hno hyes HX e2 HXX HR
          go_wp2_with (first | (go_at_call 23; refine (SU.out _).mono ?_; rintro e w5 ⟨rfl, rfl⟩))
          go_ret2
          exact ⟨congrArg Ending.returned hres.out, hk1.trans hQ.kept⟩
      · obtain rfl : i = m := by omega
        have s2 : ¬ (i : Int) < (i : Int) := by omega
        have hres : Hid (Value.tuple #[.string ⟨#[]⟩, .bool false] = refV (L.find? (hasL n a))) := by
          show _ = _
          have h := HX.out
          rw [HM.out, List.take_length] at h
          rw [h]; rfl
        go_wp2_with fail
        go_ret2
        exact ⟨congrArg Ending.returned hres.out, hk1.trans hQ.kept⟩
  · have e1 : ((s.size : Int) != (n : Int) + 1) = true := by rw [hsz]; simp only [bne_iff_ne, ne_eq]; omega
    have hres : Hid (Value.tuple #[.string ⟨#[]⟩, .bool false] = refV (L.find? (hasL n a))) := by
      show _ = _
      have h : L.find? (hasL n a) = none := find_none (fun x hx => by
        have h2 := HLEN.out x hx
        unfold hasL
        rw [decide_eq_false (by omega), Bool.false_and])
      rw [h]; rfl
    clear HLEN h1
    go_enter Try.func36, Try.ntmps36
    go_wp2_with fail
    go_ret2
    exact ⟨congrArg Ending.returned hres.out, Kept.refl _⟩
end Go.Proofs.Ytgphaggkgcnidaa
