/-
  Package herd: opposite, Triples.
-/
import Derived.Test.YtfbiinjpljmapaaDoorJh
import Derived.Test.YtfbiinjpljmapaaDoorHg
namespace Go.Proofs.YtfbiinjpljmapaaDoor
open Go.RowKit Go.Deep

/-- with whom horse i of n does not get along -/
def oppH (H : Nat → Nat) (n : Nat) : Nat → Nat := fun i => bsub (bsub (allH n) (H i)) (2 ^ i)
theorem oppH_lt (H : Nat → Nat) {n : Nat} (hn : n ≤ 14) (i : Nat) : oppH H n i < 65536 := Nat.lt_of_le_of_lt (bsub_le _ _) (Nat.lt_of_le_of_lt (bsub_le _ _) (allH_lt (by omega)))
theorem oppH_bit {H : Nat → Nat} {n i : Nat} (hn : n ≤ 14) (hi : i < n) (hH : H i < 65536) (j : Nat) : (oppH H n i).testBit j = (decide (j < n) && !(H i).testBit j && !decide (i = j)) := by
  unfold oppH
  have h1 : bsub (allH n) (H i) < 65536 := Nat.lt_of_le_of_lt (bsub_le _ _) (allH_lt (by omega))
  rw [bsub_bit _ _ _ h1 (pow16 (by omega)), bsub_bit _ _ _ (allH_lt (by omega)) hH, allH_bit, pow_bit]
def OppPost (w : World) (n : Nat) (H : Nat → Nat) (e : Ending) (w' : World) : Prop := ∃ g, e = .returned (.slice (some ⟨g, 0, none⟩) n n) ∧ w'.rowIs g 80 n (fun i => setV (oppH H n i)) ∧ Kept w w'
set_option maxRecDepth 100000 in
set_option maxHeartbeats 4000000 in
theorem opposite_any (w : World) (g0 n cap : Nat) (H : Nat → Nat) (hG : w.rowIs g0 80 n (fun i => setV (H i))) (hH : ∀ i, i < n → H i < 65536) (hn : n ≤ 9) :
    Calls Tryd.prog 49 #[.slice (some ⟨g0, 0, none⟩) n cap] w (OppPost w n H) := by
  have hmk := fun W => mkHerd n (by omega) W
  have hrow := World.rowIs_made w (.int .u16 0) n 80
  have hk0 : Kept w (w.alloc (.cells (madeCells #[.int .u16 0] n) 80)) := (Kept.refl w).alloc _
  have hal := allH_lt (n := n) (by omega)
  have AL := Lib.hid (fun W (a : Option Addr) (cap : Nat) => all_any W a n cap (by omega))
  have HH := Lib.hid hH
  have hg0 := hG.lt
  clear hH
  go_enter Tryd.func49, Tryd.ntmps49
  go_wp2_with fail
  obtain ⟨g, HG⟩ : ∃ r, Hid (r = w.heap.size) := ⟨_, rfl⟩
  have hrs : w.heap.size ≤ g := by rw [HG.out]; exact Nat.le_refl _
  rw [← HG.out] at hrow ⊢
  generalize w.alloc (.cells (madeCells #[.int .u16 0] n) 80) = W0 at *
  clear hmk
  go_loopg [11] n (fun q s11 wr => ∃ k : Nat, k ≤ n ∧ q = n - k ∧ s11 = .int .i64 k ∧ Kept w wr ∧ wr.rowIs g 80 n (fun i => setV (if i < k then oppH H n i else 0)))
  case atStart => exact ⟨0, Nat.zero_le _, rfl, rfl, hk0, hrow.congr (fun i _ => by rw [if_neg (by omega)]; rfl)⟩
  case round =>
    clear hk0 hrow
    obtain ⟨k, hk, rfl, rfl, hK, hR⟩ := hrel
    by_cases hlt : k < n
    · have s1 : (k : Int) < (n : Int) := by omega
      have s2 : (0 : Int) ≤ (k : Int) := by omega
      have t0 := hK.cellSome (hG.cell hlt)
      simp only [setV] at t0
      have f0 := hR.frozen k
      have y0 := hR.cell (i := k) hlt
      have hx := HH.out k hlt
      have hv0 : Hid (oppH H n k = bsub (bsub (allH n) (H k)) (2 ^ k)) := rfl
      obtain ⟨x, HX⟩ : ∃ x, Hid (x = H k) := ⟨_, rfl⟩
      rw [← HX.out] at t0 hx hv0
      obtain ⟨P, HP⟩ : ∃ p : Nat, Hid (p = 2 ^ k) := ⟨2 ^ k, rfl⟩
      have e0 : (2 : Int) ^ k = (P : Int) := by rw [HP.out]; simp
      have p1 : P < 65536 := by rw [HP.out]; exact pow16 (by omega)
      have wP : IntKind.u16.wrap (P : Int) = (P : Int) := wr16 _ p1
      rw [← HP.out] at hv0
      have a1 := andNot16 (allH n) x hal hx
      have a2 := andNot16 (bsub (allH n) x) P (Nat.lt_of_le_of_lt (bsub_le _ _) hal) p1
      rw [← hv0.out] at a2
      obtain ⟨V, HV⟩ : ∃ V, Hid (V = oppH H n k) := ⟨_, rfl⟩
      rw [← HV.out] at a2
      have hR2 := (hR.set k (setV V)).congr (g := fun i => setV (if i < k + 1 then oppH H n i else 0)) (fun i _ => by
        by_cases e : i = k
        · rw [if_pos e, if_pos (by omega), e, ← HV.out]
        · rw [if_neg e]
          by_cases h : i < k
          · rw [if_pos h, if_pos (by omega)]
          · rw [if_neg h, if_neg (by omega)])
      have hK2 := hK.setCell (p := ⟨g, k, none⟩) (by show w.heap.size ≤ g; omega) (setV V)
      obtain ⟨Y, HY⟩ : ∃ Y, Hid (Y = bsub (allH n) x) := ⟨_, rfl⟩
      rw [← HY.out] at a1 a2
      obtain ⟨X, HX2⟩ : ∃ X : Nat, Hid (X = allH n) := ⟨_, rfl⟩
      rw [← HX2.out] at a1 AL hal
      clear HX HP HV hv0 HY HX2 hx p1
      go_wp2_with fail
      go_region_with (first | (go_at_call 61; refine (AL.out _ _ _).mono ?_; rintro e w2 ⟨rfl, rfl⟩))
      all_goals
        (try simp only [wP, a1, a2])
        have hR3 := hR2.drew
        have hK3 := hK2.drew
        (try simp only [setV] at hR3); (try simp only [setV] at hK3)
        clear hR2 hK2 hR hK t0 f0 y0
        go_wp2_with fail
        go_roundg (n - (k + 1))
        case measure => omega
        case rel => exact ⟨k + 1, by omega, rfl, by first | rfl | go_num, hK3, hR3⟩
    · obtain rfl : k = n := by omega
      go_wp2_with fail
      go_ret
      exact ⟨g, rfl, hR.congr (fun i hi => by rw [if_pos hi]), hK⟩
def TriplesPost (w : World) (n : Int) (A B : Nat → Int) (m : Nat) (e : Ending) (w' : World) : Prop := Kept w w' ∧ if goodH n A B m then e = .returned (.tuple #[.int .i64 ((triH (alongH A B m) n.toNat : Nat) : Int), .int .i64 ((triH (oppH (alongH A B m) n.toNat) n.toNat : Nat) : Int), .int .i64 0]) else e = .returned (.tuple #[.int .i64 0, .int .i64 0, .int .i64 1])
set_option maxRecDepth 100000 in
set_option maxHeartbeats 4000000 in
theorem Triples_any (w : World) (n : Int) (v : Value) (m : Nat) (A B : Nat → Int) (hP : PairsAt w v m A B) (hm : m ≤ 1000000) :
    Calls Tryd.prog 26 #[.int .i64 n, v] w (TriplesPost w n A B m) := by
  have HO := Lib.hid (herdOf_any w n v m A B hP hm)
  obtain ⟨gb, HGB⟩ : ∃ gb, Hid (gb = goodH n A B m) := ⟨_, rfl⟩
  unfold HerdOfPost at HO
  unfold TriplesPost
  rw [← HGB.out] at HO ⊢
  cases gb with
  | false =>
    go_enter Tryd.func26, Tryd.ntmps26
    go_wp2_with (first | (go_at_call 34; refine HO.out.mono ?_; rintro e w2 ⟨hk2, he⟩; rw [if_neg (by simp)] at he; subst he))
    go_ret3
    exact ⟨hk2, rfl⟩
  | true =>
    have hg := HGB.out.symm
    unfold goodH at hg
    simp only [Bool.and_eq_true, decide_eq_true_eq] at hg
    obtain ⟨N, rfl⟩ : ∃ N : Nat, n = N := ⟨n.toNat, by omega⟩
    have hlts := alongH_lt (n := N) (k := m) (by omega) hg.2
    have hN9 : N ≤ 9 := by omega
    have hN1 : 0 < N := by omega
    have TA := Lib.hid (fun (W : World) (g : Nat) (hG : W.rowIs g 80 N (fun i => setV (alongH A B m i))) => triples_any W g N N (alongH A B m) hG hlts hN9 hN1)
    have OA := Lib.hid (fun (W : World) (g : Nat) (hG : W.rowIs g 80 N (fun i => setV (alongH A B m i))) => opposite_any W g N N (alongH A B m) hG hlts hN9)
    have TB := Lib.hid (fun (W : World) (g : Nat) (hG : W.rowIs g 80 N (fun i => setV (oppH (alongH A B m) N i))) => triples_any W g N N (oppH (alongH A B m) N) hG (fun i _ => oppH_lt _ (by omega) i) hN9 hN1)
    simp only [Int.toNat_natCast] at HO ⊢
    obtain ⟨p, HP1⟩ : ∃ p, Hid (p = triH (alongH A B m) N) := ⟨_, rfl⟩
    obtain ⟨q, HP2⟩ : ∃ p, Hid (p = triH (oppH (alongH A B m) N) N) := ⟨_, rfl⟩
    unfold OppPost at OA
    rw [← HP1.out] at TA ⊢
    rw [← HP2.out] at TB ⊢
    generalize oppH (alongH A B m) N = H2 at *
    generalize alongH A B m = H1 at *
    clear hg hlts HGB HP1 HP2
    go_enter Tryd.func26, Tryd.ntmps26
    go_wp2_with (first | (go_at_call 34; refine HO.out.mono ?_; rintro e w2 ⟨hk2, he⟩; rw [if_pos trivial] at he; obtain ⟨g, rfl, hgs, hG⟩ := he) | (go_at_call 48; refine (TA.out _ g hG).mono ?_; clear TA; rintro e w3 ⟨rfl, hk3⟩) | (go_at_call 49; refine (OA.out _ g (hk3.row hG)).mono ?_; rintro e w4 ⟨g4, rfl, hG4, hk4⟩) | (go_at_call 48; refine (TB.out _ g4 hG4).mono ?_; rintro e w5 ⟨rfl, hk5⟩))
    go_ret3
    exact ⟨((hk2.trans hk3).trans hk4).trans hk5, rfl⟩
end Go.Proofs.YtfbiinjpljmapaaDoor
