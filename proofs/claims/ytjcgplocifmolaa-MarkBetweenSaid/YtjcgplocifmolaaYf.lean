/-
  The law MarkApart, walked.
-/
import Derived.Test.YtjcgplocifmolaaYg
import Derived.Test.YtjcgplocifmolaaRd
import Derived.Test.YtjcgplocifmolaaVa
namespace Go.Proofs.Ytjcgplocifmolaa
open Go.RowKit Go.Deep Go.Sort

theorem allW_bin (n : Nat) : ∀ x ∈ allW 2 n, Bin x := by
  induction n with
  | zero => intro x hx c hc; simp [allW] at hx; subst hx; simp at hc
  | succ n ih =>
    intro x hx
    simp only [allW, List.mem_flatMap, ext, List.mem_map] at hx
    obtain ⟨y, hy, d, hd, rfl⟩ := hx
    intro c hc
    rcases List.mem_append.1 hc with h | h
    · exact ih y hy c h
    · rw [List.mem_singleton.1 h]; exact mem_lets2.1 hd
theorem mem_allW {n : Nat} {x : Wd} (hx : Bin x) (hl : x.length = n) : x ∈ allW 2 n := by
  induction n generalizing x with
  | zero => rw [List.length_eq_zero_iff.1 hl]; simp [allW]
  | succ n ih =>
    have hn : n < x.length := by omega
    have e : x = x.take n ++ [x[n]] := by
      rw [← List.take_succ_eq_append_getElem hn, List.take_of_length_le (by omega)]
    simp only [allW, List.mem_flatMap, ext, List.mem_map]
    exact ⟨x.take n, ih (fun c hc => hx c (List.mem_of_mem_take hc)) (by simp; omega), x[n], mem_lets2.2 (get_bin hx hn), e.symm⟩
theorem mem_codeL {n a : Nat} {x : Wd} : x ∈ codeL n a ↔ Bin x ∧ x.length = n ∧ wsum 0 x % (n + 1) = a := by
  unfold codeL wordsF
  rw [List.mem_filter, hasL_iff]
  constructor
  · rintro ⟨h1, h2, h3⟩; exact ⟨allW_bin n x h1, h2, h3⟩
  · rintro ⟨h1, h2, h3⟩; exact ⟨mem_allW h1 h2, h2, h3⟩
/-- there is a word of every code -/
theorem codeL_some {n a : Nat} (ha : a ≤ n) : codeL n a ≠ [] := by
  intro h
  have key : ∃ x : Wd, Bin x ∧ x.length = n ∧ wsum 0 x = a := by
    by_cases h0 : a = 0
    · refine ⟨List.replicate n 48, fun c hc => .inl (List.eq_of_mem_replicate hc), by simp, ?_⟩
      have : ∀ n p, wsum p (List.replicate n 48) = 0 := by
        intro n
        induction n with
        | zero => intro p; rfl
        | succ n ih => intro p; rw [List.replicate_succ]; simp only [wsum]; rw [ih]; rfl
      rw [this, h0]
    · refine ⟨List.replicate (a - 1) 48 ++ 49 :: List.replicate (n - a) 48, ?_, by simp; omega, ?_⟩
      · intro c hc
        rcases List.mem_append.1 hc with h | h
        · exact .inl (List.eq_of_mem_replicate h)
        · rcases List.mem_cons.1 h with h | h
          · exact .inr h
          · exact .inl (List.eq_of_mem_replicate h)
      · have : ∀ n p, wsum p (List.replicate n 48) = 0 := by
          intro n
          induction n with
          | zero => intro p; rfl
          | succ n ih => intro p; rw [List.replicate_succ]; simp only [wsum]; rw [ih]; rfl
        rw [wsum_append, this]
        simp only [wsum, if_true, List.length_replicate]
        rw [this]; omega
  obtain ⟨x, h1, h2, h3⟩ := key
  have := mem_codeL.2 ⟨h1, h2, show wsum 0 x % (n + 1) = a by rw [h3]; exact Nat.mod_eq_of_lt (by omega)⟩
  rw [h] at this
  simp at this
/-- V1: no shorter word in common -/
theorem apart_s {s t : Wd} (hs : Bin s) (ht : Bin t) (hl : s.length = t.length) (h : wsum 0 s % (s.length + 1) = wsum 0 t % (s.length + 1)) (hne : s ≠ t) : ∀ x ∈ srt (dels s), ∀ y ∈ srt (dels t), x ≠ y := by
  intro x hx y hy e
  rw [srt_mem, mem_dels] at hx hy
  obtain ⟨i, hi, rfl⟩ := hx
  obtain ⟨j, hj, rfl⟩ := hy
  have h2 : ins (del s i) i s[i] = s := ins_del hi
  have h3 : ins (del t j) j t[j] = t := ins_del hj
  have hdl := del_len hi
  have hu := ins_uniq (z := del s i) (i := i) (j := j) (bin_del hs) (get_bin hs hi) (get_bin ht hj) (by omega) (by omega) (by
    rw [h2, e, h3, ← e, show (del s i).length + 2 = s.length + 1 by omega]; exact h)
  rw [h2, e, h3] at hu
  exact hne hu
/-- V1: no longer word in common -/
theorem apart_l {s t : Wd} (hs : Bin s) (hl : s.length = t.length) (h : wsum 0 s % (s.length + 1) = wsum 0 t % (s.length + 1)) (hne : s ≠ t) : ∀ x ∈ srt (inss s 2), ∀ y ∈ srt (inss t 2), x ≠ y := by
  intro x hx y hy e
  rw [srt_mem, mem_inss] at hx hy
  obtain ⟨i, hi, c, hc, rfl⟩ := hx
  obtain ⟨j, hj, d, hd, e2⟩ := hy
  have e3 := e.trans e2
  have h2 : del (ins s i c) i = s := del_ins hi
  have h3 : del (ins t j d) j = t := del_ins hj
  have hil : (ins s i c).length = s.length + 1 := ins_len
  have hu := del_uniq (t := ins s i c) (i := i) (j := j) (bin_ins hs (mem_lets2.1 hc)) (by omega) (by omega) (by
    rw [h2, hil, e3, h3]; exact h)
  rw [h2, e3, h3] at hu
  exact hne hu
theorem words_ok (W : World) (k a : Nat) (h1 : 1 ≤ k) (h2 : k ≤ 12) (h3 : a ≤ k) : Calls Try.prog 11 #[.int .i64 k, .int .i64 a] W fun e w' => ∃ b o cap : Nat, e = .returned (.tuple #[.slice (some ⟨b, o, none⟩) (codeL k a).length cap, .int .i64 0]) ∧ (∀ i, i < (codeL k a).length → w'.cell? ⟨b, o + i, none⟩ = some (.string (bs ((codeL k a).getD i [])))) ∧ Kept W w' := by
  have hu : upL k a 12 = true := by
    unfold upL within
    rw [decide_eq_true (by omega), decide_eq_true (by omega)]; rfl
  refine (Words_any W k a).mono ?_
  rintro e w' ⟨hk, _, h⟩
  obtain ⟨v, rfl, hO⟩ := h (by rw [hu]; rfl)
  rw [Int.toNat_natCast, Int.toNat_natCast] at hO
  obtain ⟨_, ad, b, o, cap, rfl, ha, hc⟩ := wds_own hO
  obtain rfl := ha (List.length_pos_iff.2 (codeL_some h3))
  exact ⟨b, o, cap, rfl, hc, hk⟩
theorem shorter_ok (W : World) {s : Wd} (hs : Bin s) (h1 : 1 ≤ s.length) (h2 : s.length ≤ 20) : Calls Try.prog 26 #[.string (bs s)] W fun e w' => ∃ v, e = .returned (.tuple #[v, .int .i64 0]) ∧ WdsAt w' v (srt (dels s)) ∧ Kept W w' := by
  refine (Shorter_any W s (by omega)).mono ?_
  rintro e w' ⟨hk, _, h⟩
  obtain ⟨v, rfl, hO⟩ := h (shC_bin hs h2 (fun h => by rw [h] at h1; simp at h1))
  exact ⟨v, rfl, (wds_own hO).2, hk⟩
theorem longer_ok (W : World) {s : Wd} (hs : Bin s) (h2 : s.length ≤ 20) : Calls Try.prog 27 #[.string (bs s)] W fun e w' => ∃ v, e = .returned (.tuple #[v, .int .i64 0]) ∧ WdsAt w' v (srt (inss s 2)) ∧ Kept W w' := by
  refine (Longer_any W s (by omega)).mono ?_
  rintro e w' ⟨hk, _, h⟩
  obtain ⟨v, rfl, hO⟩ := h (bin_wordC hs h2)
  exact ⟨v, rfl, (wds_own hO).2, hk⟩
theorem distance_ok (W : World) {s t : Wd} (hs : Bin s) (ht : Bin t) (h1 : s.length ≤ 20) (h2 : t.length ≤ 20) : Calls Try.prog 20 #[.string (bs s), .string (bs t)] W fun e w' => e = .returned (.tuple #[.int .i64 (dist s t : Nat), .int .i64 0]) ∧ Kept W w' := by
  refine (Distance_any W s t (by omega) (by omega)).mono ?_
  rintro e w' ⟨hk, _, h⟩
  exact ⟨h (bin_words hs ht h1 h2), hk⟩
set_option maxRecDepth 100000 in
set_option maxHeartbeats 2000000 in
theorem apart_any (w : World) (x y px py : Nat) (hx : x < 256) (hy : y < 256) (hpx : px < 65536) (hpy : py < 65536) :
    Calls Try.prog 6 #[.agg #[.int .u8 x, .int .u8 y], .int .u16 px, .int .u16 py] w (LivesPost w) := by
  obtain ⟨k, HK⟩ : ∃ k, Hid (k = x % 12 + 1) := ⟨_, rfl⟩
  have hk1 : 1 ≤ k := by rw [HK.out]; omega
  have hk12 : k ≤ 12 := by rw [HK.out]; omega
  have hak := Nat.mod_lt y (show 0 < k + 1 by omega)
  obtain ⟨a, HA⟩ : ∃ a, Hid (a = y % (k + 1)) := ⟨_, rfl⟩
  rw [← HA.out] at hak
  have WO := Lib.hid (fun W => words_ok W k a hk1 hk12 (by omega))
  have HP : Hid (∀ l ∈ codeL k a, Bin l ∧ l.length = k ∧ wsum 0 l % (k + 1) = a) := Lib.hid (fun l hl => mem_codeL.1 hl)
  have hpos : 0 < (codeL k a).length := List.length_pos_iff.2 (codeL_some (by omega))
  have hcnt : (codeL k a).length ≤ 5000 := by
    unfold codeL wordsF
    exact Nat.le_trans (List.length_filter_le _ _) (allW2 k hk12)
  obtain ⟨L, HL⟩ : ∃ L, Hid (L = codeL k a) := ⟨_, rfl⟩
  rw [← HL.out] at WO HP hpos hcnt
  obtain ⟨m, HM⟩ : ∃ m, Hid (m = L.length) := ⟨_, rfl⟩
  rw [← HM.out] at WO hpos hcnt
  have hi := Nat.mod_lt px hpos
  have hj := Nat.mod_lt py hpos
  obtain ⟨i, HI⟩ : ∃ a, Hid (a = px % m) := ⟨_, rfl⟩
  obtain ⟨j, HJ⟩ : ∃ a, Hid (a = py % m) := ⟨_, rfl⟩
  rw [← HI.out] at hi
  rw [← HJ.out] at hj
  have hiL : i < L.length := by rw [← HM.out]; exact hi
  have hjL : j < L.length := by rw [← HM.out]; exact hj
  obtain ⟨s, HS⟩ : ∃ s, Hid (s = L.getD i []) := ⟨_, rfl⟩
  obtain ⟨t, HT⟩ : ∃ s, Hid (s = L.getD j []) := ⟨_, rfl⟩
  have hsL := HP.out s (by rw [HS.out, getD_at hiL]; exact List.getElem_mem hiL)
  have htL := HP.out t (by rw [HT.out, getD_at hjL]; exact List.getElem_mem hjL)
  obtain ⟨hsB, hsl, hsw⟩ := hsL
  obtain ⟨htB, htl, htw⟩ := htL
  have em1 : Int.tmod (x : Int) 12 = ((x % 12 : Nat) : Int) := (Int.ofNat_tmod x 12).symm
  have ek : ((x % 12 : Nat) : Int) + 1 = (k : Int) := by rw [HK.out]; omega
  have em2 : Int.tmod (y : Int) ((k : Int) + 1) = (a : Int) := by rw [HA.out]; exact (Int.ofNat_tmod y (k + 1)).symm
  have em3 : Int.tmod (px : Int) (m : Int) = (i : Int) := by rw [HI.out]; exact (Int.ofNat_tmod px m).symm
  have em4 : Int.tmod (py : Int) (m : Int) = (j : Int) := by rw [HJ.out]; exact (Int.ofNat_tmod py m).symm
  have n2 : ¬ ((k : Int) + 1 = 0) := by omega
  have n3 : ¬ ((m : Int) = 0) := by omega
  have w1 : IntKind.i64.wrap ((k : Int) + 1) = (k : Int) + 1 := IntWalk.i64_in _ (by omega)
  have w2 : IntKind.i64.wrap (a : Int) = (a : Int) := IntWalk.i64_in _ (by omega)
  have w3 : IntKind.i64.wrap (i : Int) = (i : Int) := IntWalk.i64_in _ (by omega)
  have w4 : IntKind.i64.wrap (j : Int) = (j : Int) := IntWalk.i64_in _ (by omega)
  have w5 : IntKind.i64.wrap ((x % 12 : Nat) : Int) = ((x % 12 : Nat) : Int) := IntWalk.i64_in _ (by omega)
  have w6 : IntKind.i64.wrap (k : Int) = (k : Int) := IntWalk.i64_in _ (by omega)
  have q1 : (0 : Int) ≤ (i : Int) := by omega
  have q2 : (i : Int) < (m : Int) := by omega
  have q3 : (0 : Int) ≤ (j : Int) := by omega
  have q4 : (j : Int) < (m : Int) := by omega
  have em5 : ((m : Int) == 0) = false := by simp only [beq_eq_false_iff_ne]; omega
  have LV := Lib.hid lives_any
  unfold LivesPost at LV ⊢
  have bx := sbox2 w (.int .u8 (x : Int)) (.int .u8 (y : Int)) 56
  obtain ⟨b0, b1⟩ := bx
  have hkb : Kept w (w.alloc (.cells #[.int .u8 (x : Int), .int .u8 (y : Int)] 56)) := (Kept.refl w).alloc _
  generalize x % 12 = x12 at *
  clear HK HA HI HJ
  go_enter Try.func6, Try.ntmps6
  go_wp2_with (first
    | (go_at_call 11; refine (WO.out _).mono ?_; rintro e w1 ⟨b, o, cap, rfl, hc, hk2⟩; have hk2 := hkb.trans hk2; have HC := Lib.hid hc; clear hc)
    | (go_at_call 12; refine (LV.out _).mono ?_; rintro e w2 ⟨rfl, hk3⟩))
  have t0 := hk3.cellSome (HC.out i hi)
  have t1 := hk3.cellSome (HC.out j hj)
  have hk3 := hk2.trans hk3
  rw [← HS.out] at t0
  rw [← HT.out] at t1
  clear HC
  obtain ⟨S, HSS⟩ : ∃ x : ByteArray, Hid (x = bs s) := ⟨_, Lib.hid rfl⟩
  obtain ⟨T, HTT⟩ : ∃ x : ByteArray, Hid (x = bs t) := ⟨_, Lib.hid rfl⟩
  rw [← HSS.out] at t0
  rw [← HTT.out] at t1
  by_cases hst : s = t
  · have hST : T = S := by rw [HSS.out, HTT.out, hst]
    rw [hST] at t1
    clear hst hST
    go_wp2_with fail
    go_quiet (fail)
    go_wp2_with fail
    go_ret
    exact ⟨rfl, hk3.drewN _⟩
  · have e1 := beq_no (a := S) (b := T) (fun h => hst (bs_inj (by rw [← HSS.out, ← HTT.out]; exact h)))
    have hmod : wsum 0 s % (s.length + 1) = wsum 0 t % (s.length + 1) := by rw [hsl, hsw, htw]
    have SA := Lib.hid (fun W => shorter_ok W hsB (by omega) (by omega))
    have SB := Lib.hid (fun W => shorter_ok W htB (by omega) (by omega))
    have LA := Lib.hid (fun W => longer_ok W hsB (by omega))
    have LB := Lib.hid (fun W => longer_ok W htB (by omega))
    have DI := Lib.hid (fun W => distance_ok W hsB htB (by omega) (by omega))
    have hd4 : 4 ≤ dist s t := by
      have := code_apart hsB htB (by omega) hmod hst
      unfold dist; omega
    have c1 : (srt (dels s)).length ≤ 1000000 := by have := srt_le (dels s); rw [dels_count] at this; omega
    have c2 : (srt (dels t)).length ≤ 1000000 := by have := srt_le (dels t); rw [dels_count] at this; omega
    have c3 : (srt (inss s 2)).length ≤ 1000000 := by have := srt_le (inss s 2); rw [inss_count] at this; omega
    have c4 : (srt (inss t 2)).length ≤ 1000000 := by have := srt_le (inss t 2); rw [inss_count] at this; omega
    have MA := Lib.hid (fun (W : World) (va vb : Value) (ha : WdsAt W va (srt (dels s))) (hb : WdsAt W vb (srt (dels t))) => meet_no W va vb _ _ ha hb c1 c2 (apart_s hsB htB (by omega) hmod hst))
    have MB := Lib.hid (fun (W : World) (va vb : Value) (ha : WdsAt W va (srt (inss s 2))) (hb : WdsAt W vb (srt (inss t 2))) => meet_no W va vb _ _ ha hb c3 c4 (apart_l hsB (by omega) hmod hst))
    obtain ⟨d, HD⟩ : ∃ d, Hid (d = dist s t) := ⟨_, rfl⟩
    rw [← HD.out] at hd4 DI
    have e2 : (d : Int) ≥ 4 := by omega
    obtain ⟨L1, HL1⟩ : ∃ d, Hid (d = srt (dels s)) := ⟨_, rfl⟩
    obtain ⟨L2, HL2⟩ : ∃ d, Hid (d = srt (dels t)) := ⟨_, rfl⟩
    obtain ⟨L3, HL3⟩ : ∃ d, Hid (d = srt (inss s 2)) := ⟨_, rfl⟩
    obtain ⟨L4, HL4⟩ : ∃ d, Hid (d = srt (inss t 2)) := ⟨_, rfl⟩
    rw [← HSS.out, ← HL1.out] at SA
    rw [← HTT.out, ← HL2.out] at SB
    rw [← HSS.out, ← HL3.out] at LA
    rw [← HTT.out, ← HL4.out] at LB
    rw [← HSS.out, ← HTT.out] at DI
    rw [← HL1.out, ← HL2.out] at MA
    rw [← HL3.out, ← HL4.out] at MB
    clear hst hmod c1 c2 c3 c4 HD
    have tk1 := Lib.hid True.intro
    have tk2 := Lib.hid True.intro
    have tk3 := Lib.hid True.intro
    go_wp2_with fail
    go_quiet (fail)
    go_wp2_with (first
      | (go_at_call 26; clear tk1; refine (SA.out _).mono ?_; rintro e u1 ⟨v1, rfl, hV1, hk4⟩; have hk4 : Kept w2 u1 := (by repeat (first | assumption | exact Kept.refl _ | apply Kept.drew | apply Kept.drewN | apply Kept.alloc | refine Kept.trans ?_ (by assumption))))
      | (go_at_call 26; refine (SB.out _).mono ?_; rintro e u2 ⟨v2, rfl, hV2, hk5⟩; have hV1 := hV1.kept hk5; have hk5 := hk4.trans hk5)
      | (go_at_call 27; clear tk2; refine (LA.out _).mono ?_; rintro e u3 ⟨v3, rfl, hV3, hk6⟩; have hV1 := hV1.kept hk6; have hV2 := hV2.kept hk6; have hk6 := hk5.trans hk6)
      | (go_at_call 27; refine (LB.out _).mono ?_; rintro e u4 ⟨v4, rfl, hV4, hk7⟩; have hV1 := hV1.kept hk7; have hV2 := hV2.kept hk7; have hV3 := hV3.kept hk7; have hk7 := hk6.trans hk7)
      | (go_at_call 20; refine (DI.out _).mono ?_; rintro e u5 ⟨rfl, hk8⟩; have hV1 := hV1.kept hk8; have hV2 := hV2.kept hk8; have hV3 := hV3.kept hk8; have hV4 := hV4.kept hk8; have hk8 := hk7.trans hk8)
      | (go_at_call 28; clear tk3; refine (MA.out _ _ _ hV1 hV2).mono ?_; rintro e u6 ⟨rfl, hq9⟩; have hV3 := hV3.kept hq9.kept; have hV4 := hV4.kept hq9.kept; have hk9 := hk8.trans hq9.kept)
      | (go_at_call 28; refine (MB.out _ _ _ hV3 hV4).mono ?_; rintro e u7 ⟨rfl, hq10⟩; have hk10 := hk9.trans hq10.kept))
    go_ret
    exact ⟨rfl, hk3.trans hk10⟩
end Go.Proofs.Ytjcgplocifmolaa
