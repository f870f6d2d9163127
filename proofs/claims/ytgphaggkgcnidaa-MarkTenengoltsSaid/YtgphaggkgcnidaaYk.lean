/-
  The law MarkTenengolts, walked.
-/
import Derived.Test.YtgphaggkgcnidaaYb
import Derived.Test.YtgphaggkgcnidaaDc
namespace Go.Proofs.Ytgphaggkgcnidaa
open Go.RowKit Go.Deep Go.Sort

theorem mem_lets {q : Nat} {c : UInt8} (h : 48 ≤ c.toNat ∧ c.toNat < 48 + q) : c ∈ lets q := by
  unfold lets
  refine List.mem_map.2 ⟨c.toNat - 48, List.mem_range.2 (by omega), ?_⟩
  rw [show 48 + (c.toNat - 48) = c.toNat by omega]
  exact UInt8.ofNat_toNat
theorem dig_del {q : Nat} {l : Wd} {i : Nat} (hl : Dig q l) : Dig q (del l i) := by
  intro x hx
  unfold del at hx
  rcases List.mem_append.1 hx with h | h
  · exact hl x (List.mem_of_mem_take h)
  · exact hl x (List.mem_of_mem_drop h)
theorem hasD_iff {n q a b : Nat} {l : Wd} : hasD n q a b l = true ↔ l.length = n ∧ dsum l % q = b ∧ wsum 0 (stps l) % n = a := by
  unfold hasD
  rw [Bool.and_eq_true, Bool.and_eq_true, decide_eq_true_iff, decide_eq_true_iff, decide_eq_true_iff]
/-- V4: what lost a digit is found -/
theorem found_is {q : Nat} (hq : q ≤ 4) {l : Wd} (hl : Dig q l) (h2 : 2 ≤ l.length) {i : Nat} (hi : i < l.length) : (srt (inss (del l i) q)).find? (hasD l.length q (wsum 0 (stps l) % l.length) (dsum l % q)) = some l := by
  have hd := del_len hi
  have hli := hl l[i] (List.getElem_mem hi)
  refine find_uniq ?_ (hasD_iff.2 ⟨rfl, rfl, rfl⟩) ?_
  · rw [srt_mem, mem_inss]
    exact ⟨i, by omega, l[i], mem_lets hli, (ins_del hi).symm⟩
  · intro y hy hp
    rw [srt_mem, mem_inss] at hy
    obtain ⟨j, hj, c, hc, rfl⟩ := hy
    obtain ⟨_, h3, h4⟩ := hasD_iff.1 hp
    have hI : ins (del l i) i l[i] = l := ins_del hi
    have h5 := ten_uniq (z := del l i) (i := j) (j := i) (q := q) (lets_dig hq hc) hli (by omega) hj (by omega) (by rw [hI]; exact h3) (by
      rw [hI, show (del l i).length + 1 = l.length by omega]; exact h4)
    rw [h5, hI]
theorem upD_ok {n q a b : Nat} (h1 : 2 ≤ n) (h2 : n ≤ 20) (h3 : 2 ≤ q) (h4 : q ≤ 4) (h5 : a < n) (h6 : b < q) : upD n q a b 20 = true := by
  unfold upD within
  rw [decide_eq_true (by omega), decide_eq_true (by omega), decide_eq_true (by omega), decide_eq_true (by omega)]; rfl
theorem found_any (W : World) {q : Nat} (hq2 : 2 ≤ q) (hq : q ≤ 4) {l : Wd} (hl : Dig q l) (h2 : 2 ≤ l.length) (hl20 : l.length ≤ 20) {i : Nat} (hi : i < l.length) :
    Calls Try.prog 45 #[.int .i64 (l.length : Nat), .int .i64 (q : Nat), .int .i64 (wsum 0 (stps l) % l.length : Nat), .int .i64 (dsum l % q : Nat), .string (bs (del l i))] W fun e w' => e = .returned (.tuple #[.string (bs l), .int .i64 0]) ∧ Kept W w' := by
  have hd := del_len hi
  have hm := Nat.mod_lt (wsum 0 (stps l)) (show 0 < l.length by omega)
  have hm2 := Nat.mod_lt (dsum l) (show 0 < q by omega)
  refine (Found_any W (l.length : Nat) (q : Nat) (wsum 0 (stps l) % l.length : Nat) (dsum l % q : Nat) (del l i) (by omega) (by omega) (by omega) (by omega) (by omega)).mono ?_
  rintro e w' ⟨hk, _, h⟩
  refine ⟨?_, hk⟩
  have hw : wordC 20 4 (del l i) = 0 := by
    unfold wordC
    rw [if_pos (by omega), if_pos (belB_dig.2 (dig_mono hq (dig_del hl)))]
  have hc : fndC (l.length : Nat) (q : Nat) (wsum 0 (stps l) % l.length : Nat) (dsum l % q : Nat) (del l i) = 0 := by
    unfold fndC
    rw [if_pos hw, upD_ok h2 hl20 hq2 hq hm hm2, Int.toNat_natCast, belB_dig.2 (dig_del hl)]; rfl
  rw [h hc, Int.toNat_natCast, Int.toNat_natCast, Int.toNat_natCast, Int.toNat_natCast, found_is hq hl h2 hi]; rfl
theorem steps_ok (W : World) {l : Wd} (hl : Dig 4 l) (hl20 : l.length ≤ 20) : Calls Try.prog 40 #[.string (bs l)] W fun e w' => e = .returned (.tuple #[.string (bs (stps l)), .int .i64 0]) ∧ Kept W w' := by
  refine (Steps_any W l (by omega)).mono ?_
  rintro e w' ⟨hk, _, h⟩
  refine ⟨h ?_, hk⟩
  unfold wordC
  rw [if_pos hl20, if_pos (belB_dig.2 hl)]
set_option maxRecDepth 100000 in
set_option maxHeartbeats 2000000 in
theorem ten_any (w : World) (v : Value) (nv : Nat) (Z : Nat → Nat) (hV : BytesAt w v nv Z) (hZ : ∀ i, Z i < 256) (hn : nv ≤ maxLen) (q0 p : Nat) (hq0 : q0 < 256) (hp : p < 256) :
    Calls Try.prog 13 #[.int .u8 q0, v, .int .u8 p] w (LivesPost w) := by
  obtain ⟨k, HKQ⟩ : ∃ k, Hid (k = q0 % 3 + 2) := ⟨_, rfl⟩
  have hk2 : 2 ≤ k := by rw [HKQ.out]; omega
  have hk4 : k ≤ 4 := by rw [HKQ.out]; omega
  have WO := Lib.hid (word_any w v nv k 20 Z hV hZ hn hk2 hk4)
  obtain ⟨l, HL⟩ : ∃ l, Hid (l = wrd k Z (min nv 20)) := ⟨_, rfl⟩
  have hl20 : l.length ≤ 20 := by rw [HL.out, wrd_len]; omega
  have hD : Dig k l := by rw [HL.out]; exact wrd_dig hk2 hk4 Z _
  rw [← HL.out] at WO
  obtain ⟨s, HSS⟩ : ∃ s : ByteArray, Hid (s = bs l) := ⟨bs l, Lib.hid rfl⟩
  obtain ⟨n, HN⟩ : ∃ n, Hid (n = l.length) := ⟨_, rfl⟩
  have hsz : s.size = n := by rw [HSS.out, HN.out]; rfl
  have LV := Lib.hid lives_any
  unfold LivesPost at LV ⊢
  rw [← HSS.out] at WO
  have em0 : Int.tmod (q0 : Int) 3 = ((q0 % 3 : Nat) : Int) := (Int.ofNat_tmod q0 3).symm
  have ek : ((q0 % 3 : Nat) : Int) + 2 = (k : Int) := by rw [HKQ.out]; omega
  have w0 : IntKind.i64.wrap ((q0 % 3 : Nat) : Int) = ((q0 % 3 : Nat) : Int) := IntWalk.i64_in _ (by omega)
  have w00 : IntKind.i64.wrap (k : Int) = (k : Int) := IntWalk.i64_in _ (by omega)
  generalize q0 % 3 = q3 at *
  clear hV hZ HKQ
  by_cases h2 : 2 ≤ n
  · have hl2 : 2 ≤ l.length := by rw [← HN.out]; exact h2
    have e1 : ¬ (n : Int) < 2 := by omega
    have hi := Nat.mod_lt p (show 0 < l.length by omega)
    have ha := Nat.mod_lt (wsum 0 (stps l)) (show 0 < l.length by omega)
    have hb := Nat.mod_lt (dsum l) (show 0 < k by omega)
    obtain ⟨i, HI⟩ : ∃ i, Hid (i = p % l.length) := ⟨_, rfl⟩
    rw [← HI.out] at hi
    have FO := Lib.hid (fun W => found_any W hk2 hk4 hD hl2 hl20 hi)
    have ST := Lib.hid (fun W => steps_ok W (dig_mono hk4 hD) hl20)
    have RS := Lib.hid (fun W => rSum_any W (stps l) (by rw [stps_len]; omega))
    obtain ⟨t, HTT⟩ : ∃ s : ByteArray, Hid (s = bs (stps l)) := ⟨_, Lib.hid rfl⟩
    have hts : t.size = n - 1 := by rw [HTT.out, HN.out, bs_size, stps_len]
    have hX : bs (del l i) = s.extract 0 i ++ s.extract (i + 1) n := by
      rw [HSS.out, HN.out, bs_extract, bs_extract, bs_append]
      unfold del
      rw [List.drop_zero, Nat.sub_zero, List.take_of_length_le (l := l.drop (i + 1)) (by simp)]
    obtain ⟨y, HYY⟩ : ∃ x, Hid (x = wsum 0 (stps l)) := ⟨_, rfl⟩
    obtain ⟨x, HXX⟩ : ∃ x, Hid (x = dsum l) := ⟨_, rfl⟩
    obtain ⟨a, HA⟩ : ∃ x, Hid (x = wsum 0 (stps l) % l.length) := ⟨_, rfl⟩
    obtain ⟨b, HB⟩ : ∃ x, Hid (x = dsum l % k) := ⟨_, rfl⟩
    rw [← HA.out, ← HB.out, hX, ← HSS.out, ← HN.out] at FO
    rw [← HSS.out, ← HTT.out] at ST
    rw [← HTT.out, ← HYY.out] at RS
    have em1 : Int.tmod (p : Int) (n : Int) = (i : Int) := by rw [HI.out, HN.out]; exact (Int.ofNat_tmod p l.length).symm
    have em2 : Int.tmod (y : Int) (n : Int) = (a : Int) := by rw [HA.out, HYY.out, HN.out]; exact (Int.ofNat_tmod (wsum 0 (stps l)) l.length).symm
    have em3 : Int.tmod (x : Int) (k : Int) = (b : Int) := by rw [HB.out, HXX.out]; exact (Int.ofNat_tmod (dsum l) k).symm
    rw [← HA.out] at ha
    rw [← HB.out] at hb
    rw [← HN.out] at hi ha hl20
    have n1 : ¬ ((n : Int) = 0) := by omega
    have n2 : ¬ ((k : Int) = 0) := by omega
    have n3 : ¬ (n = 0) := by omega
    have n4 : ¬ (k = 0) := by omega
    have w2 : IntKind.i64.wrap (i : Int) = (i : Int) := IntWalk.i64_in _ (by omega)
    have w3 : IntKind.i64.wrap (a : Int) = (a : Int) := IntWalk.i64_in _ (by omega)
    have w4 : IntKind.i64.wrap (b : Int) = (b : Int) := IntWalk.i64_in _ (by omega)
    have w5 : IntKind.i64.wrap ((i : Int) + 1) = (i : Int) + 1 := IntWalk.i64_in _ (by omega)
    have t5 : ((i : Int) + 1).toNat = i + 1 := by omega
    have q1 : (0 : Int) ≤ (i : Int) := by omega
    have q2 : (i : Int) ≤ (n : Int) := by omega
    have q3 : (0 : Int) ≤ (i : Int) + 1 := by omega
    have q4 : (i : Int) + 1 ≤ (n : Int) := by omega
    have z1 : (s.extract 0 i).size = i := by rw [ByteArray.size_extract]; omega
    have z2 : (s.extract (i + 1) n).size = n - (i + 1) := by rw [ByteArray.size_extract]; omega
    have z5 : ¬ 9223372036854775807 < i + (n - (i + 1)) := by omega
    have HD := Lib.hid hD
    clear hX hD hl2
    go_enter Try.func13, Try.ntmps13
    go_wp2_with (first
      | (go_at_call 47; refine WO.out.mono ?_; rintro e w1 ⟨rfl, hq1⟩; have hk1 := hq1.kept)
      | (go_at_call 40; refine (ST.out _).mono ?_; rintro e w2 ⟨rfl, hk3⟩; have hk3 := hk1.trans hk3))
    go_loopg [11, 12] n (fun g s11 s12 wr => ∃ j u : Nat, j ≤ n ∧ g = n - j ∧ s12 = .int .i64 j ∧ s11 = .int .i64 u ∧ u ≤ 4 * j ∧ Hid (u = dsum (l.take j)) ∧ Kept w wr)
    case atStart => exact ⟨0, 0, Nat.zero_le _, rfl, rfl, rfl, by omega, rfl, hk3⟩
    case round =>
      clear hk1 hk3 hq1
      obtain ⟨j, u, hj, rfl, rfl, rfl, hu, HU, hK⟩ := hrel
      by_cases hlt : j < n
      · have s2 : (j : Int) < (n : Int) := by omega
        have s3 : (0 : Int) ≤ (j : Int) := by omega
        have hjL : j < l.length := by rw [← HN.out]; exact hlt
        have hjs : j < s.size := by rw [hsz]; exact hlt
        have hat := chr_at hjs
        have hdi := HD.out l[j] (List.getElem_mem hjL)
        have hc : chr s j - 48 = ((l[j].toNat - 48 : Nat) : Int) := by rw [HSS.out, chr_bs hjL]; omega
        have hst := dsum_take hjL
        rw [← HU.out] at hst
        obtain ⟨d, HDD⟩ : ∃ d : Nat, Hid (d = l[j].toNat - 48) := ⟨l[j].toNat - 48, Lib.hid rfl⟩
        have hd4 : d < 4 := by rw [HDD.out]; omega
        rw [← HDD.out] at hc hst
        have HS := Lib.hid hst
        have w1 : IntKind.u8.wrap (d : Int) = (d : Int) := IntWalk.u8_in _ (by omega)
        generalize chr s j = c at *
        have hc2 : c = (d : Int) + 48 := by omega
        have w3 : (d : Int) + 48 - 48 = (d : Int) := by omega
        subst hc2
        clear hdi hst
        go_wp2_with fail
        go_roundg (n - (j + 1))
        case measure => omega
        case rel => exact ⟨j + 1, u + d, by omega, rfl, by first | rfl | go_num, by first | rfl | go_num, by omega, HS.out.symm, hK⟩
      · obtain rfl : j = n := by omega
        have s2 : ¬ (j : Int) < (j : Int) := by omega
        obtain rfl : u = x := by rw [HU.out, HXX.out, HN.out, List.take_length]
        have e5 : ((j - 1 : Nat) : Int) = (j : Int) - 1 := by omega
        clear HU HXX
        go_wp2_with fail
        go_region_with (first
          | (go_at_call 23; refine (RS.out _).mono ?_; rintro e w4 ⟨rfl, rfl⟩)
          | (go_at_call 45; refine (FO.out _).mono ?_; rintro e w5 ⟨rfl, hk5⟩; have hk5 : Kept w w5 := (by repeat (first | assumption | exact Kept.refl _ | apply Kept.drew | apply Kept.drewN | apply Kept.alloc | refine Kept.trans ?_ (by assumption)))))
        all_goals
          go_wp2_with (first | (go_at_call 22; refine (LV.out _).mono ?_; rintro e w7 ⟨rfl, hk7⟩))
          go_ret
          exact ⟨rfl, hk5.trans hk7⟩
  · have e1 : (n : Int) < 2 := by omega
    clear hD
    go_enter Try.func13, Try.ntmps13
    go_wp2_with (first
      | (go_at_call 47; refine WO.out.mono ?_; rintro e w1 ⟨rfl, hq1⟩; have hk1 := hq1.kept)
      | (go_at_call 22; refine (LV.out _).mono ?_; rintro e w4 ⟨rfl, hk4⟩))
    go_ret
    exact ⟨rfl, hk1.trans hk4⟩
end Go.Proofs.Ytgphaggkgcnidaa
