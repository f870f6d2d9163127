/-
  HerdTuran.
-/
import Derived.Test.YtfbiinjpljmapaaDoorKv
import Derived.Test.YtfbiinjpljmapaaDoorIm
namespace Go.Proofs.YtfbiinjpljmapaaDoor
open Go.RowKit Go.Deep

set_option maxRecDepth 100000 in
set_option maxHeartbeats 16000000 in
theorem turan_any (w : World) (a s r : Nat) (ha : a < 256) (hs : s < 18446744073709551616) (hr : r < 256) : Calls Tryd.prog 5 #[.int .u8 a, .int .u64 s, .int .u8 r] w (LivesPost w) := by
  have LV := Lib.hid lives_any
  have MD := Lib.hid (made_any w a s ha hs)
  unfold MadePost at MD
  obtain ⟨k, HK⟩ : ∃ k, Hid (k = a % 9 + 1) := ⟨_, rfl⟩
  have hk1 : 1 ≤ k := by rw [HK.out]; omega
  have hk9 : k ≤ 9 := by rw [HK.out]; omega
  rw [← HK.out] at MD
  clear HK
  have hgood := mad_good (s := s) hk1 hk9
  have hpairs := mad_pairs s k
  have hlen := mad_len (s := s) hk9
  obtain ⟨l, HL⟩ : ∃ l, Hid (l = madL s k) := ⟨_, rfl⟩
  rw [← HL.out] at MD hgood hpairs hlen
  clear HL
  obtain ⟨P, HP⟩ : ∃ P, Hid (P = r % 9 + 1) := ⟨_, rfl⟩
  have hp1 : 1 ≤ P := by rw [HP.out]; omega
  have hp9 : P ≤ 9 := by rw [HP.out]; omega
  have ep : IntKind.i64.wrap (Int.tmod (r : Int) 9 + 1) = (P : Int) := by
    rw [show Int.tmod (r : Int) 9 = ((r % 9 : Nat) : Int) from (Int.ofNat_tmod r 9).symm, HP.out]
    exact IntWalk.i64_in _ (by omega)
  have ep2 : (r : Int) % 9 + 1 = (P : Int) := by rw [HP.out]; omega
  have GP := Lib.hid (fun W v (l2 : List (Nat × Nat)) (hl2 : l2.length ≤ 36) (hg2 : allN (pairB (k : Int) (prA l2) (prB l2)) l2.length = true) (h : PrsAt W v l2) => show Calls Tryd.prog 24 #[.int .i64 k, v] W fun e w' => ∃ u cap, e = .returned (.tuple #[.slice u (size16 (best (alongH (prA l2) (prB l2) l2.length) k)) cap, .int .i64 0]) ∧ Kept W w' by
    refine (Group_any W (k : Int) v l2.length (prA l2) (prB l2) h (by omega)).mono ?_
    rintro e w' ⟨hk, g⟩
    have hgd : goodH (k : Int) (prA l2) (prB l2) l2.length = true := by
      unfold goodH
      rw [hg2]
      simp
      omega
    rw [if_pos hgd] at g
    obtain ⟨u, rfl, hu⟩ := g
    rw [Int.toNat_natCast] at hu
    obtain ⟨x, _, _, cap, rfl, _⟩ := hu
    rw [best_sub hk9]
    exact ⟨_, _, rfl, hk⟩)
  have AP := Lib.hid (fun W v (h : PrsAt W v l) => Along_any W k v l.length (prA l) (prB l) hk1 (by omega) h (by omega) hpairs)
  unfold AlongPost at AP
  have hsym := adj_sym (n := (k : Int)) l.length k hpairs
  have hbs := best_size (H := alongH (prA l) (prB l) l.length) hk9 hk1
  have hmost := turan_most (H := alongH (prA l) (prB l) l.length) hsym hk9 hk1 (fun i j _ _ => along_adj l.length hpairs i j)
  have G1 := Lib.hid (fun W v (h : PrsAt W v l) => GP.out W v l hlen hpairs h)
  obtain ⟨q, HQ⟩ : ∃ q, Hid (q = size16 (best (alongH (prA l) (prB l) l.length) k)) := ⟨_, rfl⟩
  rw [← HQ.out] at hbs hmost G1
  obtain ⟨F, HF⟩ : ∃ F, Hid (F = adjP (prA l) (prB l) l.length) := ⟨_, rfl⟩
  rw [← HF.out] at AP hmost
  have CN := Lib.hid (fun W v (h : GridAt W v k F) => count_any W v k F h (by omega))
  obtain ⟨c, HC⟩ : ∃ c, Hid (c = sumD F k k / 2) := ⟨_, rfl⟩
  rw [← HC.out] at CN hmost
  have MS := Lib.hid (fun W (x : Nat) (h1 : 1 ≤ x) (h9 : x ≤ 9) => show Calls Tryd.prog 19 #[.int .i64 k, .int .i64 x] W fun e w' => e = .returned (.tuple #[.int .i64 (mostN k x), .int .i64 0]) ∧ W = w' by
    have h := Most_any W k x
    rw [show withinB (k : Int) 1000 = true by unfold withinB; simp; omega, show withinB (x : Int) 1000 = true by unfold withinB; simp; omega] at h
    simpa using h)
  have TP := Lib.hid (fun W => show Calls Tryd.prog 18 #[.int .i64 k, .int .i64 P] W fun e w' => ∃ u cap, e = .returned (.tuple #[.slice u (turanL k P).length cap, .int .i64 0]) ∧ PrsAt w' (.slice u (turanL k P).length cap) (turanL k P) ∧ Kept W w' by
    refine (Turan_any W k P).mono ?_
    rintro e w' ⟨hk, g⟩
    rw [show withinB (k : Int) 9 = true by unfold withinB; simp; omega, show withinB (P : Int) 9 = true by unfold withinB; simp; omega, if_pos (by rfl)] at g
    obtain ⟨v, rfl, hv⟩ := g
    rw [Int.toNat_natCast, Int.toNat_natCast] at hv
    have hv2 := hv
    obtain ⟨x, _, _, cap, rfl, _⟩ := hv2
    exact ⟨_, _, rfl, hv, hk⟩)
  obtain ⟨t1, t2, t3⟩ := turan_pairs (n := k) (r := P) hk9 hp1 hp9
  have t4 := turan_group (n := k) (r := P) hk1 hk9 hp1 hp9
  obtain ⟨t, HT⟩ : ∃ t, Hid (t = turanL k P) := ⟨_, rfl⟩
  rw [← HT.out] at TP t1 t2 t3 t4
  have G2 := Lib.hid (fun W v (h : PrsAt W v t) => GP.out W v t t2 t3 h)
  rw [t4] at G2
  obtain ⟨m, HM⟩ : ∃ m, Hid (m = mostN k q) := ⟨_, rfl⟩
  have M1 := Lib.hid (fun W => MS.out W q hbs.1 (by omega))
  have M2 := Lib.hid (fun W => MS.out W P hp1 hp9)
  rw [← HM.out] at M1 hmost
  rw [← t1] at M2
  have hb1 := hbs.1
  have hb2 := hbs.2
  have f1 : ¬ (c : Int) > m := by omega
  have f2 : ¬ (q : Int) = 0 := by omega
  have f3 : ((q : Int) == 0) = false := by simp; omega
  have f4 : ¬ (q : Int) > (k : Int) := by omega
  have f5 : decide (k < q) = false := decide_eq_false (by omega)
  have f6 : ¬ k < q := by omega
  have f7 : decide (m < (c : Int)) = false := decide_eq_false (by omega)
  have f8 : (((min k P : Nat) : Int) == min (k : Int) (P : Int)) = true := by rw [beq_iff_eq]; omega
  have f9 : ((min k P : Nat) : Int) = min (k : Int) (P : Int) := by omega
  have hmn : Hid (((min k P : Nat) : Int) = min (k : Int) (P : Int)) := by show _ = _; omega
  clear hgood hpairs hsym hbs hmost GP MS t1 t2 t3 t4 HP HM HT HC HF HQ hlen
  go_enter Tryd.func5, Tryd.ntmps5
  go_wp2_with (first | (go_at_call 23; refine MD.out.mono ?_; clear MD; rintro e w1 ⟨v1', rfl, hv1, hk1'⟩) | (go_at_call 24; refine (G1.out _ _ hv1).mono ?_; clear G1; rintro e w2 ⟨u2, cap2, rfl, hk2'⟩) | (go_at_call 14; refine (LV.out _).mono ?_; clear LV; rintro e w3 ⟨rfl, hk3'⟩) | (go_at_call 19; refine (M1.out _).mono ?_; clear M1; rintro e w4 ⟨rfl, rfl⟩) | (go_at_call 17; refine (AP.out _ _ (PairsAt.kept (PairsAt.kept hv1 hk2') hk3')).mono ?_; clear AP; rintro e w5 ⟨v5, rfl, hg5, hk5'⟩) | (go_at_call 25; refine (CN.out _ _ hg5).mono ?_; clear CN; rintro e w6 ⟨rfl, rfl⟩) | (go_at_call 18; refine (TP.out _).mono ?_; clear TP; rintro e w7 ⟨u7, cap7, rfl, hv7, hk7'⟩) | (go_at_call 19; refine (M2.out _).mono ?_; clear M2; rintro e w8 ⟨rfl, rfl⟩) | (go_at_call 24; refine (G2.out _ _ hv7).mono ?_; clear G2; rintro e w9 ⟨u9, cap9, rfl, hk9'⟩))
  go_ret
  exact ⟨rfl, ((((hk1'.trans hk2').trans hk3').trans hk5').trans hk7').trans hk9'⟩
end Go.Proofs.YtfbiinjpljmapaaDoor
