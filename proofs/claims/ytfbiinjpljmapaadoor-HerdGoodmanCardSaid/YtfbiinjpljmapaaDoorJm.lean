/-
  HerdGoodman.
-/
import Derived.Test.YtfbiinjpljmapaaDoorJk
import Derived.Test.YtfbiinjpljmapaaDoorJl
import Derived.Test.YtfbiinjpljmapaaDoorIm
namespace Go.Proofs.YtfbiinjpljmapaaDoor
open Go.RowKit Go.Deep

theorem good_k {k : Nat} (hk1 : 1 ≤ k) (hk9 : k ≤ 9) : ∃ A1 A2 : Int, (k : Int) * ((k : Int) - 1) = A1 ∧ 0 ≤ A1 ∧ A1 ≤ 1000 ∧ A1 * ((k : Int) - 2) = A2 ∧ 0 ≤ A2 ∧ A2 ≤ 1000 ∧ Int.tdiv A2 3 = ((k * (k - 1) * (k - 2) / 3 : Nat) : Int) := by
  have h : k = 1 ∨ k = 2 ∨ k = 3 ∨ k = 4 ∨ k = 5 ∨ k = 6 ∨ k = 7 ∨ k = 8 ∨ k = 9 := by omega
  rcases h with rfl | rfl | rfl | rfl | rfl | rfl | rfl | rfl | rfl <;> exact ⟨_, _, rfl, by decide, by decide, rfl, by decide, by decide, by decide⟩
theorem deg_le {F : Nat → Nat → Bool} {n i : Nat} (h : Sym F n) (hi : i < n) : degF F n i ≤ n - 1 := by
  have := cnt_ne n i hi (F i) (h.irr i hi)
  unfold degF
  omega
set_option maxRecDepth 100000 in
set_option maxHeartbeats 16000000 in
theorem goodman_any (w : World) (a s : Nat) (ha : a < 256) (hs : s < 18446744073709551616) : Calls Tryd.prog 6 #[.int .u8 a, .int .u64 s] w (LivesPost w) := by
  have LV := Lib.hid lives_any
  have MD := Lib.hid (made_any w a s ha hs)
  unfold MadePost at MD
  obtain ⟨k, HK⟩ : ∃ k, Hid (k = a % 9 + 1) := ⟨_, rfl⟩
  have hk1 : 1 ≤ k := by rw [HK.out]; omega
  have hk9 : k ≤ 9 := by rw [HK.out]; omega
  rw [← HK.out] at MD
  clear HK
  have hgood := mad_good (s := s) hk1 hk9
  have hpairs := mad_pairs s k
  have hlen := mad_len (s := s) hk9
  obtain ⟨l, HL⟩ : ∃ l, Hid (l = madL s k) := ⟨_, rfl⟩
  rw [← HL.out] at MD hgood hpairs hlen
  clear HL
  have TP := Lib.hid (fun W v (h : PrsAt W v l) => show Calls Tryd.prog 26 #[.int .i64 k, v] W fun e w' => e = .returned (.tuple #[.int .i64 ((triH (alongH (prA l) (prB l) l.length) k : Nat) : Int), .int .i64 ((triH (oppH (alongH (prA l) (prB l) l.length) k) k : Nat) : Int), .int .i64 0]) ∧ Kept W w' by
    refine (Triples_any W (k : Int) v l.length (prA l) (prB l) h (by omega)).mono ?_
    rintro e w' ⟨hk, g⟩
    rw [if_pos hgood] at g
    exact ⟨g, hk⟩)
  have AP := Lib.hid (fun W v (h : PrsAt W v l) => Along_any W k v l.length (prA l) (prB l) hk1 (by omega) h (by omega) hpairs)
  unfold AlongPost at AP
  have hsym := adj_sym (n := (k : Int)) l.length k hpairs
  have htwo := two_kinds (n := k) l.length hk9 hpairs
  obtain ⟨hgm, h504⟩ := goodman _ k hsym hk9
  have h63 := fun h6 => six_three _ k hsym hk9 h6
  obtain ⟨F, HF⟩ : ∃ F, Hid (F = adjP (prA l) (prB l) l.length) := ⟨_, rfl⟩
  rw [← HF.out] at hsym htwo hgm h63 AP
  obtain ⟨p, HP1⟩ : ∃ p, Hid (p = triH (alongH (prA l) (prB l) l.length) k) := ⟨_, rfl⟩
  obtain ⟨q, HP2⟩ : ∃ p, Hid (p = triH (oppH (alongH (prA l) (prB l) l.length) k) k) := ⟨_, rfl⟩
  rw [← HP1.out] at htwo TP
  rw [← HP2.out] at htwo TP
  rw [← htwo] at hgm h63
  obtain ⟨A1, A2, k1, k2, k3, k4, k5, k6, k7⟩ := good_k hk1 hk9
  obtain ⟨N3, HN⟩ : ∃ N, Hid (N = k * (k - 1) * (k - 2) / 3) := ⟨_, rfl⟩
  have hN : N3 ≤ 504 := by rw [HN.out]; omega
  rw [← HN.out] at hgm k7
  have DG := Lib.hid (fun W v i (h : GridAt W v k F) (hi : i < k) => degree_any W v k i F h hi (by omega))
  have hdl := Lib.hid (fun i (hi : i < k) => deg_le hsym hi)
  have hsum : Hid (2 * (p + q) + sumN (fun i => degF F k i * (k - 1 - degF F k i)) k = N3) := hgm
  have hpq : p + q ≤ 252 := by omega
  have H6 : Hid (k < 6 ∨ 6 ≤ k ∧ 0 < p + q) := by
    by_cases h : k < 6
    · exact Or.inl h
    · exact Or.inr ⟨by omega, h63 (by omega)⟩
  have hsb : Hid (∀ i, i ≤ k → sumN (fun i => degF F k i * (k - 1 - degF F k i)) i ≤ 64 * i) := fun i hi => sumN_le _ _ _ fun j hj => by
    have h := hdl.out j (by omega)
    have := Nat.mul_le_mul (show degF F k j ≤ 8 by omega) (show k - 1 - degF F k j ≤ 8 by omega)
    exact this
  have v1 : IntKind.i64.wrap ((k : Int) * ((k : Int) - 1)) = A1 := by rw [k1]; exact IntWalk.i64_in _ (by omega)
  have v2 : IntKind.i64.wrap (A1 * ((k : Int) - 2)) = A2 := by rw [k4]; exact IntWalk.i64_in _ (by omega)
  have v3 : IntKind.i64.wrap (N3 : Int) = N3 := IntWalk.i64_in _ (by omega)
  clear hgood hpairs hsym htwo hgm h504 h63 HP1 HP2 k1 k4 HN HF
  go_enter Tryd.func6, Tryd.ntmps6
  go_wp2_with (first | (go_at_call 23; refine MD.out.mono ?_; clear MD; rintro e w1 ⟨v1', rfl, hv1, hk1'⟩) | (go_at_call 26; refine (TP.out _ _ hv1).mono ?_; clear TP; rintro e w2 ⟨rfl, hk2'⟩) | (go_at_call 17; refine (AP.out _ _ (PairsAt.kept hv1 hk2')).mono ?_; clear AP; rintro e w3 ⟨v3', rfl, hg3, hk3'⟩))
  have hKW := (hk1'.trans hk2').trans hk3'
  clear hv1 hk1' hk2' hk3'
  go_loopg [11, 12] k (fun g s11 s12 wr => ∃ i : Nat, i ≤ k ∧ g = k - i ∧ s12 = .int .i64 i ∧ s11 = .int .i64 ((N3 : Int) - ((sumN (fun i => degF F k i * (k - 1 - degF F k i)) i : Nat) : Int)) ∧ w3 = wr)
  case atStart => exact ⟨0, Nat.zero_le _, rfl, by first | rfl | go_num, by first | rfl | (simp [sumN]; done) | (simp [sumN]; go_num), rfl⟩
  case round =>
    obtain ⟨i, hi, rfl, rfl, rfl, rfl⟩ := hrel
    have hb := hsb.out i hi
    by_cases hlt : i < k
    · have s1 : (i : Int) < (k : Int) := by omega
      have hd := hdl.out i hlt
      have hb2 := hsb.out (i + 1) hlt
      have DI := Lib.hid (fun W h => DG.out W v3' i h hlt)
      have hnext : Hid (sumN (fun i => degF F k i * (k - 1 - degF F k i)) (i + 1) = sumN (fun i => degF F k i * (k - 1 - degF F k i)) i + degF F k i * (k - 1 - degF F k i)) := rfl
      rw [hnext.out] at hb2
      have hdd : Hid (degF F k i = cnt (F i) k) := rfl
      rw [hdd.out] at hd hnext hb2
      obtain ⟨d, HD⟩ : ∃ d, Hid (d = cnt (F i) k) := ⟨_, rfl⟩
      rw [← HD.out] at hd hnext hb2 DI
      obtain ⟨S, HS⟩ : ∃ S, Hid (S = sumN (fun i => degF F k i * (k - 1 - degF F k i)) i) := ⟨_, rfl⟩
      rw [← HS.out] at hb hb2 hnext ⊢
      obtain ⟨e, HE⟩ : ∃ e, Hid (e = d * (k - 1 - d)) := ⟨_, rfl⟩
      rw [← HE.out] at hb2 hnext
      have he : (d : Int) * ((k : Int) - 1 - (d : Int)) = (e : Int) := by
        rw [HE.out, show (k : Int) - 1 - (d : Int) = ((k - 1 - d : Nat) : Int) by omega]
        exact (Int.natCast_mul _ _).symm
      have we : IntKind.i64.wrap ((d : Int) * ((k : Int) - 1 - (d : Int))) = (e : Int) := by rw [he]; exact IntWalk.i64_in _ (by omega)
      have ws : IntKind.i64.wrap ((N3 : Int) - (S : Int) - (e : Int)) = (N3 : Int) - (S : Int) - (e : Int) := IntWalk.i64_in _ (by omega)
      clear he HE HS HD hdd
      go_wp2_with (first | (go_at_call 27; refine (DI.out _ hg3).mono ?_; rintro e w4 ⟨rfl, rfl⟩))
      go_roundg (k - (i + 1))
      case measure => omega
      case rel => exact ⟨i + 1, by omega, rfl, by first | rfl | go_num, by rw [hnext.out]; first | rfl | (congr 1; omega) | go_num, rfl⟩
    · obtain rfl : i = k := by omega
      have hS := hsum.out
      obtain ⟨S, HS⟩ : ∃ S, Hid (S = sumN (fun j => degF F i j * (i - 1 - degF F i j)) i) := ⟨_, rfl⟩
      rw [← HS.out] at hS hb ⊢
      have e1 : (2 : Int) * ((p : Int) + (q : Int)) = (N3 : Int) - (S : Int) := by omega
      have b1 : (0 : Int) ≤ (p : Int) := by omega
      have b2 : (0 : Int) ≤ (q : Int) := by omega
      have w1 : IntKind.i64.wrap ((p : Int) + (q : Int)) = (p : Int) + (q : Int) := IntWalk.i64_in _ (by omega)
      have w2 : IntKind.i64.wrap ((N3 : Int) - (S : Int)) = (N3 : Int) - (S : Int) := IntWalk.i64_in _ (by omega)
      have HC := H6.out
      clear HS hsum hsb hdl DG H6 hS
      rcases HC with h6 | ⟨h6, h7⟩
      · have s6 : (i : Int) < 6 := by omega
        go_wp2_with (first | (go_at_call 14; refine (LV.out _).mono ?_; rintro e w5 ⟨rfl, hk5⟩))
        go_ret
        exact ⟨rfl, hKW.trans hk5⟩
      · have s6 : ¬ (i : Int) < 6 := by omega
        have s7 : (0 : Int) < (p : Int) + (q : Int) := by omega
        go_wp2_with (first | (go_at_call 14; refine (LV.out _).mono ?_; rintro e w5 ⟨rfl, hk5⟩))
        go_ret
        exact ⟨rfl, hKW.trans hk5⟩
end Go.Proofs.YtfbiinjpljmapaaDoor
