/-
  HerdFree.
-/
import Derived.Test.YtfbiinjpljmapaaDoorLm
import Derived.Test.YtfbiinjpljmapaaDoorLh
import Derived.Test.YtfbiinjpljmapaaDoorKc
import Derived.Test.YtfbiinjpljmapaaDoorIm
import Derived.Laws.AppendOwnNone
namespace Go.Proofs.YtfbiinjpljmapaaDoor
open Go.RowKit Go.Deep

theorem prs_src {w : World} {ad : Addr} {n cap : Nat} {l : List (Nat × Nat)} (h : PrsAt w (.slice (some ad) n cap) l) : ∀ j u, (prs l)[j]? = some u → w.cell? (ad.add j) = some u := by
  intro j u hu
  have hj : j < l.length * 2 := by
    rcases Nat.lt_or_ge j (l.length * 2) with e | e
    · exact e
    · rw [List.getElem?_eq_none (by rw [prs_len]; exact e)] at hu; cases hu
  obtain ⟨a, b, o, cap', e, ha, hc⟩ := h
  cases e
  have := ha (by omega)
  cases this
  rw [add_at]
  obtain ⟨p1, p2⟩ := prs_get l (j / 2) (by omega)
  obtain ⟨c1, c2⟩ := hc (j / 2) (by omega)
  by_cases e : j % 2 = 0
  · rw [show j / 2 * 2 = j by omega] at p1 c1
    rw [p1] at hu
    cases hu
    exact c1
  · rw [show j / 2 * 2 + 1 = j by omega] at p2
    rw [show o + j / 2 * 2 + 1 = o + j by omega] at c2
    rw [p2] at hu
    cases hu
    exact c2
theorem prs_one (l : List (Nat × Nat)) : ∀ v ∈ prs l, v.oneCell' = true := by
  intro v hv
  unfold prs at hv
  rw [List.mem_flatMap] at hv
  obtain ⟨p, _, h⟩ := hv
  simp at h
  rcases h with rfl | rfl <;> rfl
theorem okL_good {n : Nat} {L : List (Nat × Nat)} (h1 : 1 ≤ n) (hn : n ≤ 9) (h : okL n L) (hl : L.length ≤ 100) : goodH (n : Int) (prA L) (prB L) L.length = true := by
  unfold goodH
  rw [okL_pairs h]
  simp
  omega
theorem ref_size {n : Nat} {L : List (Nat × Nat)} (hn : n ≤ 9) (h : okL n L) : (horsesL (rbest (adjP (prA L) (prB L) L.length) n (2 ^ n)) n).length = gsz n L := by
  have hs := adj_sym (n := (n : Int)) L.length n (okL_pairs h)
  rw [rbest_best (H := hrdL L) (by omega) hs (fun i j _ _ => along_adj (n := (n : Int)) L.length (okL_pairs h) i j)]
  have hb : best (hrdL L) n < 2 ^ n := Nat.lt_pow_two_of_testBit _ fun i hi => by
    cases e : (best (hrdL L) n).testBit i with
    | false => rfl
    | true => have := (best_spec (hrdL L) (show n ≤ 14 by omega)).1.1 i e; omega
  exact horses_size (by omega) hb
set_option maxRecDepth 100000 in
set_option maxHeartbeats 16000000 in
theorem hfree_any (w : World) (a s r : Nat) (ha : a < 256) (hs : s < 18446744073709551616) (hr : r < 256) : Calls Tryd.prog 9 #[.int .u8 a, .int .u64 s, .int .u8 r] w (LivesPost w) := by
  obtain ⟨ip, gi, gz0, gz1, gz2⟩ := info_parts Tryd.infoPair
  have LV := Lib.hid lives_any
  have MD := Lib.hid (made_any w a s ha hs)
  unfold MadePost at MD
  obtain ⟨k, HK⟩ : ∃ k, Hid (k = a % 9 + 1) := ⟨_, rfl⟩
  have hk1 : 1 ≤ k := by rw [HK.out]; omega
  have hk9 : k ≤ 9 := by rw [HK.out]; omega
  rw [← HK.out] at MD
  clear HK
  have hgood := mad_good (s := s) hk1 hk9
  have hpairs := mad_pairs s k
  have hlen := mad_len (s := s) hk9
  obtain ⟨l, HL⟩ : ∃ l, Hid (l = madL s k) := ⟨_, rfl⟩
  rw [← HL.out] at MD hgood hpairs hlen
  clear HL
  obtain ⟨P, HP⟩ : ∃ P, Hid (P = r % 9 + 1) := ⟨_, rfl⟩
  have hp1 : 1 ≤ P := by rw [HP.out]; omega
  have hp9 : P ≤ 9 := by rw [HP.out]; omega
  have ep : IntKind.i64.wrap (Int.tmod (r : Int) 9 + 1) = (P : Int) := by
    rw [show Int.tmod (r : Int) 9 = ((r % 9 : Nat) : Int) from (Int.ofNat_tmod r 9).symm, HP.out]
    exact IntWalk.i64_in _ (by omega)
  have ep2 : (r : Int) % 9 + 1 = (P : Int) := by rw [HP.out]; omega
  have hlts := alongH_lt (n := k) (k := l.length) (by omega) hpairs
  have hbits : ∀ i j, i < k → (alongH (prA l) (prB l) l.length i).testBit j = true → j < k := fun i j _ h => along_bits l.length hpairs h
  have hadj : ∀ i j, (alongH (prA l) (prB l) l.length i).testBit j = adjP (prA l) (prB l) l.length i j := fun i j => along_adj l.length hpairs i j
  have hokL := pairsH_ok (by omega) hlts hbits
  have hmemL : ∀ i j, i < j → j < k → adjP (prA l) (prB l) l.length i j = true → (i, j) ∈ pairsH (alongH (prA l) (prB l) l.length) k := fun i j hij hj h => (pairsH_mem (by omega) hlts).2 ⟨by show i < k; omega, hij, by show j < 9; omega, by show (alongH _ _ _ i).testBit j = true; rw [hadj]; exact h⟩
  have hmemF : ∀ p, p ∈ pairsH (alongH (prA l) (prB l) l.length) k → adjP (prA l) (prB l) l.length p.1 p.2 = true := fun p hp => by
    rw [← hadj]
    exact ((pairsH_mem (by omega) hlts).1 hp).2.2.2
  have hllen : (pairsH (alongH (prA l) (prB l) l.length) k).length ≤ 81 := by
    have h1 := pairsH_len (alongH (prA l) (prB l) l.length) k
    have : k * 9 ≤ 9 * 9 := Nat.mul_le_mul_right _ hk9
    omega
  have FP0 := fun W v (h : PrsAt W v l) => Free_any W (k : Int) (P : Int) v l.length (prA l) (prB l) h (by omega)
  unfold FreeAns at FP0
  have hcnd : (goodH (k : Int) (prA l) (prB l) l.length && withinB (P : Int) 9) = true := by
    rw [hgood, Bool.true_and]
    unfold withinB
    simp
    omega
  simp only [if_pos hcnd, Int.toNat_natCast] at FP0
  have FP := Lib.hid FP0
  have AP := Lib.hid (fun W v (h : PrsAt W v l) => Along_any W k v l.length (prA l) (prB l) hk1 (by omega) h (by omega) hpairs)
  unfold AlongPost at AP
  obtain ⟨F, HF⟩ : ∃ F, Hid (F = adjP (prA l) (prB l) l.length) := ⟨_, rfl⟩
  rw [← HF.out] at AP hmemL hmemF
  obtain ⟨L, HLL⟩ : ∃ L, Hid (L = pairsH (alongH (prA l) (prB l) l.length) k) := ⟨_, rfl⟩
  rw [← HLL.out] at FP hokL hmemL hmemF hllen
  have hsub := frL_sub k P L
  have hsmall := frL_small (n := k) (r := P) (by omega) hp1 L
  have hfull := frL_full (n := k) (r := P) (by omega) L hokL
  obtain ⟨out, HOUT⟩ : ∃ o, Hid (o = frL k P L) := ⟨_, rfl⟩
  rw [← HOUT.out] at FP hsub hsmall hfull
  have hokO : okL k out := fun p hp => hokL p (hsub.subset hp)
  have holen : out.length ≤ 81 := Nat.le_trans hsub.length_le hllen
  have hgO := okL_good hk1 hk9 hokO (by omega)
  have RH := Lib.hid (fun W v (h : PrsAt W v out) => refHerd_any W (k : Int) (by omega) v out.length (prA out) (prB out) h (by omega))
  rw [hgO] at RH
  have AO := Lib.hid (fun W v (h : PrsAt W v out) => Along_any W k v out.length (prA out) (prB out) hk1 (by omega) h (by omega) (okL_pairs hokO))
  unfold AlongPost at AO
  have hrs := ref_size hk9 hokO
  have HFO : Hid (∀ i j, adjP (prA out) (prB out) out.length i j = true ↔ (i, j) ∈ out ∨ (j, i) ∈ out) := fun i j => adjP_mem i j
  have RG := Lib.hid (fun W v (h : GridAt W v k (adjP (prA out) (prB out) out.length)) => refGroup_any W v k _ h hk9)
  unfold RGroupPost at RG
  rw [hrs] at RG
  have GN := Lib.hid (fun W v (p : Nat × Nat) (hp : p.1 < p.2 ∧ p.2 < k) (h : PrsAt W v (out ++ [p])) => show Calls Tryd.prog 24 #[.int .i64 k, v] W fun e w' => ∃ u cap, e = .returned (.tuple #[.slice u (gsz k (out ++ [p])) cap, .int .i64 0]) ∧ Kept W w' by
    have hok2 : okL k (out ++ [p]) := fun q hq => by
      rw [List.mem_append] at hq
      rcases hq with hq | hq
      · exact hokO q hq
      · simp at hq; subst hq; exact hp
    have hgd := okL_good hk1 hk9 hok2 (by simp; omega)
    refine (Group_any W (k : Int) v (out ++ [p]).length (prA (out ++ [p])) (prB (out ++ [p])) h (by simp; omega)).mono ?_
    rintro e w' ⟨hk, g⟩
    rw [if_pos hgd] at g
    obtain ⟨u, rfl, hu⟩ := g
    rw [Int.toNat_natCast] at hu
    obtain ⟨x, _, _, cap, rfl, _⟩ := hu
    rw [best_sub hk9]
    exact ⟨_, _, rfl, hk⟩)
  have HMF := Lib.hid (fun p (hp : p ∈ out) => hmemF p (hsub.subset hp))
  have HOKO := Lib.hid hokO
  have HREJ : Hid (∀ i j, i < j → j < k → F i j = true → adjP (prA out) (prB out) out.length i j = false → P < gsz k (out ++ [(i, j)])) := fun i j hij hj h1 h2 => by
    rcases hfull (i, j) (hmemL i j hij hj h1) with h3 | h3
    · rw [(HFO.out i j).2 (Or.inl h3)] at h2; cases h2
    · exact h3
  obtain ⟨F2, HF2⟩ : ∃ F, Hid (F = adjP (prA out) (prB out) out.length) := ⟨_, rfl⟩
  rw [← HF2.out] at AO RG HREJ
  have hgz : ¬ ((gsz k out : Nat) : Int) > (P : Int) := by omega
  have hgz2 : decide (P < gsz k out) = false := decide_eq_false (by omega)
  obtain ⟨gz, HGZ⟩ : ∃ x, Hid (x = gsz k out) := ⟨_, rfl⟩
  rw [← HGZ.out] at RG hgz hgz2
  obtain ⟨N, HN⟩ : ∃ N, Hid (N = out.length) := ⟨_, rfl⟩
  rw [← HN.out] at FP holen
  clear hgood hpairs hlen hlts hbits hadj hokL hmemL hmemF hllen FP0 hcnd HF HLL hsub hsmall hfull hokO hgO hrs HF2 HGZ HP HFO HOUT
  go_enter Tryd.func9, Tryd.ntmps9
  go_wp2_with (first | (go_at_call 23; refine MD.out.mono ?_; clear MD; rintro e w1 ⟨v1', rfl, hv1, hk1'⟩) | (go_at_call 28; refine (FP.out _ _ hv1).mono ?_; clear FP; rintro e w2 ⟨hk2', fa, fcap, rfl, hfa, hv2⟩) | (go_at_call 13; refine (RH.out _ _ hv2).mono ?_; clear RH; rintro e w3 ⟨rfl, hq3⟩) | (go_at_call 14; refine (LV.out _).mono ?_; clear LV; rintro e w4 ⟨rfl, hk4'⟩) | (go_at_call 17; refine (AP.out _ _ (PairsAt.kept (PairsAt.kept (PairsAt.kept hv1 hk2') hq3.kept) hk4')).mono ?_; clear AP; rintro e w5 ⟨v5, rfl, hg5, hk5'⟩) | (go_at_call 17; refine (AO.out _ _ (PairsAt.kept (PairsAt.kept (PairsAt.kept hv2 hq3.kept) hk4') hk5')).mono ?_; clear AO; rintro e w6 ⟨v6, rfl, hg6, hk6'⟩) | (go_at_call 29; refine (RG.out _ _ hg6).mono ?_; clear RG; rintro e w7 ⟨u7, cap7, rfl, _, hk7'⟩))
  have hKW := ((((((hk1'.trans hk2').trans hq3.kept).trans hk4').trans hk5').trans hk6').trans hk7')
  have hgA := (hg5.kept hk6').kept hk7'
  have hgC := hg6.kept hk7'
  have hvP : PrsAt w7 (.slice fa N fcap) out := PairsAt.kept hv2 (((((Kept.refl w2).trans hq3.kept).trans hk4').trans hk5').trans (hk6'.trans hk7'))
  have hvQ : PairsAt w7 (.slice fa N fcap) N (prA out) (prB out) := by
    rw [HN.out] at hvP ⊢
    exact hvP
  obtain ⟨fa', fb, fo, fcap', e, hfx, hfc⟩ := hvQ
  cases e
  have HFC := Lib.hid hfc
  obtain ⟨ga, gac, RA, rfl, hGA⟩ := hgA
  obtain ⟨gc, gcc, RC, rfl, hGC⟩ := hgC
  clear hk1' hk2' hq3 hk4' hk5' hk6' hk7' hg5 hg6 hv1 hv2 hfc hgz hgz2 ep ep2
  go_loopg [14] N (fun q s14 wr => ∃ t : Nat, t ≤ N ∧ q = N - t ∧ s14 = .int .i64 t ∧ Quiet w7 wr)
  case atStart => exact ⟨0, Nat.zero_le _, rfl, by first | rfl | go_num, Quiet.refl _⟩
  case round =>
    obtain ⟨t, ht, rfl, rfl, hQ⟩ := hrel
    by_cases hlt : t < N
    · obtain rfl := hfx (by omega)
      obtain ⟨c0, c1⟩ := HFC.out t hlt
      have hNL := HN.out
      have hmem : out.getD t (0, 0) ∈ out := by
        rw [getD_eq (show t < out.length by omega)]
        exact List.getElem_mem _
      have hpt := HOKO.out _ hmem
      have hft := HMF.out _ hmem
      have t0 := hQ.kept.cellSome c0
      have t1 := hQ.kept.cellSome c1
      have e0 : prA out t = ((out.getD t (0, 0)).1 : Nat) := rfl
      have e1 : prB out t = ((out.getD t (0, 0)).2 : Nat) := rfl
      rw [e0] at t0
      rw [e1] at t1
      obtain ⟨p, HPP⟩ : ∃ p, Hid (p = out.getD t (0, 0)) := ⟨_, rfl⟩
      rw [← HPP.out] at hpt hft t0 t1
      obtain ⟨x, y⟩ := p
      simp only at hpt hft t0 t1
      have hG2 := hGA.kept hQ.kept
      have u0 := hG2.sl x (by omega)
      have y0 := (hG2.rw x (by omega)).cell (i := y) hpt.2
      rw [hft] at y0
      have s1 : (t : Int) < (N : Int) := by omega
      have a0 : (0 : Int) ≤ (t : Int) := by omega
      have b0 : (0 : Int) ≤ (x : Int) := by omega
      have b1 : (x : Int) < (k : Int) := by omega
      have b2 : (0 : Int) ≤ (y : Int) := by omega
      have b3 : (y : Int) < (k : Int) := by omega
      have b4 : (x : Int) < (y : Int) := by omega
      have b5 : decide (y ≤ x) = false := decide_eq_false (by omega)
      have b6 : ¬ (y : Int) ≤ (x : Int) := by omega
      simp only [slV] at u0
      generalize RA x = rx at *
      clear hft hmem hpt hG2 c0 c1 e0 e1 HPP hNL
      go_wp2_with fail
      go_quiet (fail)
      go_wp2_with fail
      go_roundg (N - (t + 1))
      case measure => omega
      case rel => exact ⟨t + 1, by omega, rfl, by first | rfl | go_num, by obtain ⟨n1, rfl⟩ := hQ; exact ⟨n1 + nq, by simp⟩⟩
    · obtain rfl : t = N := by omega
      have hK8 := hQ.kept
      have HFX := Lib.hid hfx
      clear HFC hfx hQ
      go_wp2_with fail
      go_loopg [15] k (fun q s15 wr => ∃ i : Nat, i ≤ k ∧ q = k - i ∧ s15 = .int .i64 i ∧ Kept w7 wr)
      case atStart => exact ⟨0, Nat.zero_le _, rfl, by first | rfl | go_num, hK8⟩
      case round =>
        clear hK8
        obtain ⟨i, hi, rfl, rfl, hK⟩ := hrel
        by_cases hlt2 : i < k
        · have s1 : (i : Int) < (k : Int) := by omega
          go_wp2_with fail
          go_loopg [16] (k - (i + 1)) (fun q s16 wr => ∃ j : Nat, i + 1 ≤ j ∧ j ≤ k ∧ q = k - j ∧ s16 = .int .i64 j ∧ Kept w7 wr)
          case atStart => exact ⟨i + 1, Nat.le_refl _, by omega, rfl, by first | rfl | go_num, hK⟩
          case round =>
            clear hK
            obtain ⟨j, hij, hj, rfl, rfl, hK⟩ := hrel
            by_cases hlt3 : j < k
            · have s2 : (j : Int) < (k : Int) := by omega
              have a0 : (0 : Int) ≤ (i : Int) := by omega
              have a1 : (0 : Int) ≤ (j : Int) := by omega
              have hG2 := hGA.kept hK
              have hG3 := hGC.kept hK
              have u0 := hG2.sl i hlt2
              have y0 := (hG2.rw i hlt2).cell (i := j) hlt3
              have u1 := hG3.sl i hlt2
              have y1 := (hG3.rw i hlt2).cell (i := j) hlt3
              have hrej := HREJ.out i j (by omega) hlt3
              simp only [slV] at u0 u1
              generalize RA i = rx at *
              generalize RC i = ry at *
              obtain ⟨fb1, HF1⟩ : ∃ b, Hid (b = F i j) := ⟨_, rfl⟩
              obtain ⟨fb2, HF3⟩ : ∃ b, Hid (b = F2 i j) := ⟨_, rfl⟩
              rw [← HF1.out] at y0 hrej
              rw [← HF3.out] at y1 hrej
              clear HF1 HF3 hG2 hG3
              cases fb1 with
              | false =>
                clear hrej
                go_wp2_with fail
                go_roundg (k - (j + 1))
                case measure => omega
                case rel => exact ⟨j + 1, by omega, by omega, rfl, by first | rfl | go_num, hK⟩
              | true =>
                cases fb2 with
                | true =>
                  clear hrej
                  go_wp2_with fail
                  go_roundg (k - (j + 1))
                  case measure => omega
                  case rel => exact ⟨j + 1, by omega, by omega, rfl, by first | rfl | go_num, hK⟩
                | false =>
                  have hg := hrej rfl rfl
                  have hO1 := own_zeroP wr wr.heap.size 59 2 (Nat.le_refl _)
                  cases fa with
                  | none =>
                    obtain rfl := hfa rfl
                    have hN0 : t = 0 := by
                      rcases Nat.eq_zero_or_pos t with h | h
                      · exact h
                      · have := HFX.out h; cases this
                    subst hN0
                    have hout : out = [] := List.length_eq_zero_iff.1 HN.out.symm
                    have hO2 := hO1
                    go_wp2_with (first | (at_builtin; refine wpList_append_own_none rfl _ _ 22 rfl wr.heap.size 59 ip 2 Tryd.underlying22 gi _ _ _ rfl hO1 rfl ?_) | (at_builtin; refine wpList_append_own _ rfl _ _ 22 rfl wr.heap.size 59 ip (.agg #[.int .i64 0, .int .i64 0]) 2 16 Tryd.underlying22 gi gz0 gz1 gz2 rfl (by decide) _ _ _ rfl (hO1.alloc _) ⟨_, 0, none⟩ 1 1 [.int .i64 (i : Int), .int .i64 (j : Int)] rfl rfl ?c1 ?c2 ?c3 ?c4 ?c5 ?_))
                    case c2 => simp [Value.oneCell']
                    case c3 => unfold maxLen; omega
                    case c5 => omega
                    intro v9 w9 hO3 hgr2 _
                    have hK4 := (((Kept.refl wr).alloc (.cells #[] 59)).alloc (.cells #[.int .i64 (i : Int), .int .i64 (j : Int)] 59)).grew hgr2 (hO1.alloc _) (Nat.le_refl _)
                    clear hO2
                    have hO4 : w9.ownsRow wr.heap.size 59 2 v9 (out ++ [(i, j)]).length (prs (out ++ [(i, j)])) := by
                      rw [prs_snoc]
                      have e2 : (out ++ [(i, j)]).length = 1 := by simp [hout]
                      rw [e2]
                      rw [hout]
                      exact hO3
                    clear hO3
                    have hL4 := PrsAt.of_own hO4
                    have CC := Lib.hid (GN.out w9 _ (i, j) ⟨by show i < j; omega, hlt3⟩ hL4)
                    have hKW4 := hK.trans hK4
                    obtain ⟨gz, HGZ⟩ : ∃ x, Hid (x = gsz k (out ++ [(i, j)])) := ⟨_, rfl⟩
                    rw [← HGZ.out] at CC hg
                    have hz1 : ¬ (gz : Int) ≤ (P : Int) := by omega
                    have hz2 : decide (gz ≤ P) = false := decide_eq_false (by omega)
                    clear hO4 hL4 hK4 hK hgr2 HGZ
                    go_wp2_with (first | (go_at_call 24; refine CC.out.mono ?_; clear CC; rintro e w10 ⟨u10, cap10, rfl, hk10⟩))
                    go_roundg (k - (j + 1))
                    case measure => omega
                    case rel => exact ⟨j + 1, by omega, by omega, rfl, by first | rfl | go_num, hKW4.trans hk10⟩
                  | some ad =>
                    have hS1 : Hid (∀ i u, (prs out)[i]? = some u → (wr.alloc (.cells #[] 59)).cell? (ad.add i) = some u) := prs_src (PairsAt.kept (PairsAt.kept hvP hK) ((Kept.refl wr).alloc _))
                    go_wp2_with (first | (at_builtin; refine wpList_append_own _ rfl _ _ 22 rfl wr.heap.size 59 ip (.agg #[.int .i64 0, .int .i64 0]) 2 16 Tryd.underlying22 gi gz0 gz1 gz2 rfl (by decide) _ _ _ rfl hO1 ad t fcap (prs out) rfl ?b0 ?b1 ?b2 ?b3 ?b4 ?b5 ?_))
                    case b0 => rw [prs_len, HN.out]
                    case b1 => exact hS1.out
                    case b2 => exact prs_one out
                    case b3 => unfold maxLen; omega
                    case b4 => omega
                    intro v8 w8 hO2 hgr1 _
                    have hK3 := ((Kept.refl wr).alloc (.cells #[] 59)).grew hgr1 hO1 (Nat.le_refl _)
                    obtain ⟨va, vcap, rfl⟩ := own_shape hO2
                    have hsz1 := hK3.size
                    go_wp2_with (first | (at_builtin; refine wpList_append_own _ rfl _ _ 22 rfl wr.heap.size 59 ip (.agg #[.int .i64 0, .int .i64 0]) 2 16 Tryd.underlying22 gi gz0 gz1 gz2 rfl (by decide) _ _ _ rfl (hO2.alloc _) ⟨_, 0, none⟩ 1 1 [.int .i64 (i : Int), .int .i64 (j : Int)] rfl rfl ?d1 ?d2 ?d3 ?d4 ?d5 ?_))
                    case d1 => exact pair_new _ _ (by simp) _ _ _
                    case d2 => simp [Value.oneCell']
                    case d3 => unfold maxLen; omega
                    case d4 => omega
                    case d5 => first | omega | (simp; omega)
                    intro v9 w9 hO3 hgr2 _
                    have hK4 := (hK3.alloc (.cells #[.int .i64 (i : Int), .int .i64 (j : Int)] 59)).grew hgr2 (hO2.alloc _) (Nat.le_refl _)
                    have hO4 : w9.ownsRow wr.heap.size 59 2 v9 (out ++ [(i, j)]).length (prs (out ++ [(i, j)])) := by
                      rw [prs_snoc]
                      have e2 : (out ++ [(i, j)]).length = t + 1 := by simp [HN.out]
                      rw [e2]
                      exact hO3
                    clear hO3
                    have hL4 := PrsAt.of_own hO4
                    have CC := Lib.hid (GN.out w9 _ (i, j) ⟨by show i < j; omega, hlt3⟩ hL4)
                    have hKW4 := hK.trans hK4
                    obtain ⟨gz, HGZ⟩ : ∃ x, Hid (x = gsz k (out ++ [(i, j)])) := ⟨_, rfl⟩
                    rw [← HGZ.out] at CC hg
                    have hz1 : ¬ (gz : Int) ≤ (P : Int) := by omega
                    have hz2 : decide (gz ≤ P) = false := decide_eq_false (by omega)
                    clear hO4 hL4 hK4 hK hgr2 HGZ
                    go_wp2_with (first | (go_at_call 24; refine CC.out.mono ?_; clear CC; rintro e w10 ⟨u10, cap10, rfl, hk10⟩))
                    go_roundg (k - (j + 1))
                    case measure => omega
                    case rel => exact ⟨j + 1, by omega, by omega, rfl, by first | rfl | go_num, hKW4.trans hk10⟩
            · obtain rfl : j = k := by omega
              go_wp2_with fail
              go_roundg (j - (i + 1))
              case measure => omega
              case rel => exact ⟨i + 1, by omega, rfl, by first | rfl | go_num, hK⟩
        · obtain rfl : i = k := by omega
          go_wp2_with fail
          go_ret
          exact ⟨rfl, hKW.trans hK⟩
end Go.Proofs.YtfbiinjpljmapaaDoor
