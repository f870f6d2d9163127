/-
  GaitRight.
-/
import Derived.Test.YtofgadehblpoiaaDoorXb
import Derived.Test.YtofgadehblpoiaaDoorLv
namespace Go.Proofs.YtofgadehblpoiaaDoor
open Go.RowKit Go.Deep Go.Shelf

/-- the matrix that the law derives -/
def rigM (k len : Nat) (Z : Nat → Nat) (i j : Nat) : Bool := if i * k + j < len then Z (i * k + j) % 2 == 1 else false
theorem mn_fun (n : Nat) (M : Nat → Nat → Bool) {i j : Nat} (hj : j < n) : mn (rowS n (M i)) j = M i j := mn_rowS hj
theorem matC_rows {n : Nat} (M : Nat → Nat → Bool) (h1 : 1 ≤ n) (h2 : n ≤ 32) : matC n (fun i => rowS n (M i)) = 0 := by
  have hr : rowsC n (fun i => rowS n (M i)) = 0 := by
    unfold rowsC
    rw [allN_true.2 (fun i _ => decide_eq_true (by rw [rowS_size]; omega)), allN_true.2 (fun i _ => by unfold okS; rw [rowS_size, allSg_rowS, decide_eq_true (by omega)]; rfl)]
    rfl
  unfold matC
  rw [if_neg (by omega), if_neg (by omega), if_pos hr, allN_true.2 (fun i _ => decide_eq_true (rowS_size _ _))]
  rfl
theorem lkN_congr {p q p' q' : Nat → Bool} {n : Nat} (h1 : ∀ i, i < n → p i = p' i) (h2 : ∀ i, i < n → q i = q' i) : lkN p q n = lkN p' q' n :=
  sumZ_congr fun i hi => by (try dsimp only); rw [h1 i hi, h2 i hi]
theorem Rgt_congr {n : Nat} {M M' : Nat → Nat → Bool} (h : ∀ i j, i < n → j < n → M i j = M' i j) : Rgt n M → Rgt n M' := fun hr i k hk hi => by
  rw [← lkN_congr (fun j hj => h i j hi hj) (fun j hj => h k j (by omega) hj)]
  exact hr i k hk hi
theorem rgtB_congr {n : Nat} {M M' : Nat → Nat → Bool} (h : ∀ i j, i < n → j < n → M i j = M' i j) : rgtB n M = rgtB n M' := by
  rw [Bool.eq_iff_iff, rgtB_iff, rgtB_iff]
  exact ⟨Rgt_congr h, Rgt_congr (fun i j hi hj => (h i j hi hj).symm)⟩
theorem rgtB_mn (n : Nat) (M : Nat → Nat → Bool) : rgtB n (fun i => mn (rowS n (M i))) = rgtB n M := rgtB_congr fun _ _ _ hj => mn_rowS hj
theorem rgtB_trans (n : Nat) (M : Nat → Nat → Bool) : rgtB n (trM M) = rgtB n M := by
  rw [Bool.eq_iff_iff, rgtB_iff, rgtB_iff]
  exact right_iff
/-- what gait.Right says of rows of signs -/
theorem Right_rows (w : World) (v : Value) (n : Nat) (M : Nat → Nat → Bool) (hV : StrsAt w v n (fun i => rowS n (M i))) (h1 : 1 ≤ n) (h2 : n ≤ 32) :
    Calls Tryd.prog 31 #[v] w fun e w' => Kept w w' ∧ e = .returned (.tuple #[.bool (rgtB n M), .int .i64 0]) := by
  have h := Right_any w v n _ hV (by omega) (fun i _ => by (try dsimp only); rw [rowS_size]; omega)
  unfold RgtAns at h
  simp only [matC_rows M h1 h2, decide_true, Bool.true_and, rgtB_mn] at h
  exact h
set_option maxRecDepth 100000 in
set_option maxHeartbeats 16000000 in
theorem right_any (w : World) (n0 : Nat) (a : Option Addr) (len cap : Nat) (Z : Nat → Nat) (hV : BytesAt w (.slice a len cap) len Z) (hlen : len ≤ maxLen) (hZ : ∀ i, Z i < 256) (hn0 : n0 < 256) :
    Calls Tryd.prog 11 #[.int .u8 n0, .slice a len cap] w (LivesPost w) := by
  obtain ⟨i0, hi, hz0, hz1, hz2⟩ := info_parts Tryd.info9
  obtain ⟨a', b, o, cap', e, ha, hc⟩ := hV
  cases e
  unfold maxLen at hlen
  have HC := Lib.hid hc
  have HZZ := Lib.hid hZ
  have LV := Lib.hid lives_any
  obtain ⟨q0, HQ0⟩ : ∃ q0 : Nat, Hid (q0 = n0 % 8) := ⟨_, rfl⟩
  have hq0 : q0 < 8 := by rw [HQ0.out]; omega
  have ek : Int.tmod (n0 : Int) 8 = (q0 : Int) := by rw [HQ0.out]; exact (Int.ofNat_tmod n0 8).symm
  obtain ⟨k, HK⟩ : ∃ k : Nat, Hid (k = q0 + 1) := ⟨_, rfl⟩
  have hk1 : 1 ≤ k := by rw [HK.out]; omega
  have hk8 : k ≤ 8 := by rw [HK.out]; omega
  have ek2 : (q0 : Int) + 1 = (k : Int) := by rw [HK.out]; omega
  obtain ⟨M, HM⟩ : ∃ M : Nat → Nat → Bool, Hid (M = rigM k len Z) := ⟨_, rfl⟩
  have RI := Lib.hid (fun W v (h : StrsAt W v k (fun i => rowS k (M i))) => Right_rows W v k M h hk1 (by omega))
  have RT := Lib.hid (fun W v (h : StrsAt W v k (fun i => rowS k (trM M i))) => Right_rows W v k (trM M) h hk1 (by omega))
  have CO := Lib.hid (fun W v (h : StrsAt W v k (fun i => rowS k (M i))) => rColumns_any W v k M h (by omega))
  unfold StrsPost at CO
  simp only [rgtB_trans] at RT
  have h4 : Hid (rgtB k M = true → 3 ≤ k → k % 4 = 0) := fun h h3 => right_four (rgtB_iff.1 h) h3
  have hO0 := own_zero w w.heap.size 9 (Nat.le_refl _)
  have hK0 : Kept w (w.alloc (.cells #[] 9)) := (Kept.refl w).alloc _
  have hw8 : IntKind.i64.wrap (n0 : Int) = (n0 : Int) := IntWalk.i64_in _ (by omega)
  clear hc hZ HQ0 HK
  go_enter Tryd.func11, Tryd.ntmps11
  go_wp2_with fail
  have hsz0 : w.heap.size < (w.alloc (.cells #[] 9)).heap.size := by simp
  obtain ⟨G, HG⟩ : ∃ G, Hid (G = w.heap.size) := ⟨_, rfl⟩
  generalize w.alloc (.cells #[] 9) = W0 at *
  go_loopg [6, 7] k (fun g s6 s7 wr => ∃ i : Nat, i ≤ k ∧ g = k - i ∧ s7 = .int .i64 i ∧ Kept w wr ∧ wr.ownsRow w.heap.size 9 1 s6 i (strs (fun i => rowS k (M i)) i) ∧ w.heap.size < wr.heap.size)
  case atStart => exact ⟨0, Nat.zero_le _, rfl, rfl, hK0, hO0, hsz0⟩
  case round =>
    obtain ⟨i, hi1, rfl, rfl, hK, hO, hsz⟩ := hrel
    clear hK0 hO0 hsz0
    obtain ⟨va, vcap, rfl⟩ := own_shape hO
    by_cases hlt : i < k
    · have s3 : (i : Int) < (k : Int) := by omega
      have hik : i * k ≤ 7 * 8 := Nat.mul_le_mul (by omega) hk8
      obtain ⟨P, HP⟩ : ∃ P : Nat, P = i * k := ⟨_, rfl⟩
      have ep : (i : Int) * (k : Int) = (P : Int) := by rw [HP]; simp
      have hMi : Hid (∀ j, M i j = if P + j < len then Z (P + j) % 2 == 1 else false) := fun j => by rw [HM.out, HP]; rfl
      rw [← HP] at hik
      clear HP
      obtain ⟨Wo, rfl⟩ : ∃ Wo : World, Wo = wr := ⟨_, rfl⟩
      go_wp2_with fail
      go_loopg [8, 9] k (fun g s8 s9 wi => ∃ j : Nat, j ≤ k ∧ g = k - j ∧ s8 = .string (rowS j (M i)) ∧ s9 = .int .i64 j ∧ Wo = wi)
      case atStart => exact ⟨0, Nat.zero_le _, rfl, rfl, rfl, rfl⟩
      case round =>
        obtain ⟨j, hj, rfl, rfl, rfl, rfl⟩ := hrel
        have hszj : (rowS j (M i)).size = j := rowS_size _ _
        by_cases hlt2 : j < k
        · have s4 : (j : Int) < (k : Int) := by omega
          have hsn := Lib.hid (row_snoc j (M i))
          have hpb := pm_bit (M i j)
          have hTs : (rowS 1 (fun _ => M i j)).size = 1 := rowS_size _ _
          unfold pmS at hpb
          have s5 : ¬ 9223372036854775807 < j + 1 := by omega
          obtain ⟨R', HR'⟩ : ∃ R', R' = rowS (j + 1) (M i) := ⟨_, rfl⟩
          rw [← HR'] at hsn
          have hbd := hMi.out j
          obtain ⟨at', HAT⟩ : ∃ at' : Nat, Hid (at' = P + j) := ⟨_, rfl⟩
          have eat : (P : Int) + (j : Int) = (at' : Int) := by rw [HAT.out]; omega
          rw [← HAT.out] at hbd
          have s6 : (0 : Int) ≤ (at' : Int) := by omega
          have hat64 : at' ≤ 64 := by rw [HAT.out]; omega
          by_cases hlx : at' < len
          · have s7 : (at' : Int) < (len : Int) := by omega
            obtain rfl := ha (by omega)
            have t0 := hK.cellSome (HC.out at' hlx)
            (try dsimp only at t0)
            have hz := HZZ.out at'
            rw [if_pos hlx] at hbd
            generalize Z at' = z at *
            obtain ⟨q, HQ⟩ : ∃ q : Nat, Hid (q = z % 2) := ⟨_, rfl⟩
            have hq2 : q < 2 := by rw [HQ.out]; omega
            have et : Int.tmod (z : Int) 2 = (q : Int) := by rw [HQ.out]; exact (Int.ofNat_tmod z 2).symm
            rw [← HQ.out] at hbd
            obtain ⟨b0, HB⟩ : ∃ b0, b0 = M i j := ⟨_, rfl⟩
            simp only [← HB] at hpb hTs hbd hsn
            clear HQ HB HAT
            cases b0 with
            | true =>
              obtain rfl : q = 1 := by simpa using hbd.symm
              simp only [if_true] at hpb
              generalize rowS 1 (fun _ => true) = T at *
              generalize rowS j (M i) = R at *
              clear hbd
              go_wp2_with fail
              go_roundg (k - (j + 1))
              case measure => omega
              case rel => exact ⟨j + 1, by omega, by omega, by first | (rw [← HR', hsn.out]) | (rw [← HR', hsn.out]; rfl), by first | rfl | go_num, rfl⟩
            | false =>
              obtain rfl : q = 0 := by
                have h1 : q ≠ 1 := fun e => by simp [e] at hbd
                omega
              simp only [Bool.false_eq_true, if_false] at hpb
              generalize rowS 1 (fun _ => false) = T at *
              generalize rowS j (M i) = R at *
              clear hbd
              go_wp2_with fail
              go_roundg (k - (j + 1))
              case measure => omega
              case rel => exact ⟨j + 1, by omega, by omega, by first | (rw [← HR', hsn.out]) | (rw [← HR', hsn.out]; rfl), by first | rfl | go_num, rfl⟩
          · have s7 : ¬ (at' : Int) < (len : Int) := by omega
            rw [if_neg hlx] at hbd
            simp only [hbd] at hpb hTs hsn
            simp only [Bool.false_eq_true, if_false] at hpb
            generalize rowS 1 (fun _ => false) = T at *
            generalize rowS j (M i) = R at *
            clear hbd HAT
            go_wp2_with fail
            go_roundg (k - (j + 1))
            case measure => omega
            case rel => exact ⟨j + 1, by omega, by omega, by first | (rw [← HR', hsn.out]) | (rw [← HR', hsn.out]; rfl), by first | rfl | go_num, rfl⟩
        · obtain rfl : j = k := by omega
          have s4 : ¬ (j : Int) < (j : Int) := by omega
          have hnx : Hid (strs (fun i => rowS j (M i)) (i + 1) = strs (fun i => rowS j (M i)) i ++ [.string (rowS j (M i))]) := strs_succ _ _
          generalize rowS j (M i) = R at *
          go_wp2_with (first | (at_builtin; refine wpList_append_own _ rfl _ _ 42 rfl w.heap.size 9 i0 (.string ⟨#[]⟩) 1 16 Tryd.underlying42 hi hz0 hz1 hz2 rfl (by decide) _ _ _ rfl (hO.alloc _) ⟨_, 0, none⟩ 1 1 [.string R] rfl rfl (cell_one_new _ _ _) ?c2 ?c3 ?c4 ?c5 ?_))
          case c2 => simp [Value.oneCell']
          case c3 => unfold maxLen; omega
          case c4 => omega
          case c5 => (try simp); omega
          intro ov' w2 hO3 hgr _
          have hK2 : Kept w w2 := (hK.alloc _).grew hgr (hO.alloc _) (Nat.le_refl _)
          have hO4 : w2.ownsRow w.heap.size 9 1 ov' (i + 1) (strs (fun i => rowS j (M i)) (i + 1)) := by rw [hnx.out]; exact hO3
          have hsz2 : w.heap.size < w2.heap.size := by have := hgr.size; simp at this; omega
          clear hO3 hgr hO
          go_wp2_with fail
          go_roundg (j - (i + 1))
          case measure => omega
          case rel => exact ⟨i + 1, by omega, rfl, by first | rfl | go_num, hK2, hO4, hsz2⟩
    · obtain rfl : i = k := by omega
      have s3 : ¬ (i : Int) < (i : Int) := by omega
      have hS1 := Lib.hid (strs_own hO)
      clear hO HC HZZ HM
      obtain ⟨bb, HBB⟩ : ∃ bb, Hid (bb = rgtB i M) := ⟨_, rfl⟩
      rw [← HBB.out] at RI RT h4
      clear HBB
      have e2 : (bb == bb) = true := by simp
      cases bb with
      | false =>
        go_wp2_with (first
          | (go_at_call 31; first | (refine (RI.out _ _ hS1.out).mono ?_; clear RI; rintro e w2 ⟨hk2, rfl⟩; have hS2 := Lib.hid (hS1.out.kept hk2)) | (refine (RT.out _ _ hS3.out).mono ?_; rintro e w4 ⟨hk4, rfl⟩))
          | (go_at_call 49; refine (CO.out _ _ hS2.out).mono ?_; rintro e w3 ⟨v3, rfl, hk3, hO3⟩; have hS3 := Lib.hid (strs_own hO3); obtain ⟨va3, vcap3, rfl⟩ := own_shape hO3; clear hO3)
          | (go_at_call 20; refine (LV.out _).mono ?_; rintro e w8 ⟨rfl, hk8'⟩))
        go_ret
        exact ⟨rfl, (((hK.trans hk2).trans hk3).trans hk4).trans hk8'⟩
      | true =>
        have h5 := h4.out rfl
        obtain ⟨q, HQ⟩ : ∃ q : Nat, Hid (q = i % 4) := ⟨_, rfl⟩
        have et : Int.tmod (i : Int) 4 = (q : Int) := by rw [HQ.out]; exact (Int.ofNat_tmod i 4).symm
        rw [← HQ.out] at h5
        clear h4 HQ
        by_cases h2 : i ≤ 2
        · have s4 : (i : Int) ≤ 2 := by omega
          go_wp2_with (first
            | (go_at_call 31; first | (refine (RI.out _ _ hS1.out).mono ?_; clear RI; rintro e w2 ⟨hk2, rfl⟩; have hS2 := Lib.hid (hS1.out.kept hk2)) | (refine (RT.out _ _ hS3.out).mono ?_; rintro e w4 ⟨hk4, rfl⟩))
            | (go_at_call 49; refine (CO.out _ _ hS2.out).mono ?_; rintro e w3 ⟨v3, rfl, hk3, hO3⟩; have hS3 := Lib.hid (strs_own hO3); obtain ⟨va3, vcap3, rfl⟩ := own_shape hO3; clear hO3)
            | (go_at_call 20; refine (LV.out _).mono ?_; rintro e w8 ⟨rfl, hk8'⟩))
          go_ret
          exact ⟨rfl, (((hK.trans hk2).trans hk3).trans hk4).trans hk8'⟩
        · have s4 : ¬ (i : Int) ≤ 2 := by omega
          have h6 : q = 0 := h5 (by omega)
          have e1 : ((q : Int) == 0) = true := by simp [h6]
          clear h5 h6
          go_wp2_with (first
            | (go_at_call 31; first | (refine (RI.out _ _ hS1.out).mono ?_; clear RI; rintro e w2 ⟨hk2, rfl⟩; have hS2 := Lib.hid (hS1.out.kept hk2)) | (refine (RT.out _ _ hS3.out).mono ?_; rintro e w4 ⟨hk4, rfl⟩))
            | (go_at_call 49; refine (CO.out _ _ hS2.out).mono ?_; rintro e w3 ⟨v3, rfl, hk3, hO3⟩; have hS3 := Lib.hid (strs_own hO3); obtain ⟨va3, vcap3, rfl⟩ := own_shape hO3; clear hO3)
            | (go_at_call 20; refine (LV.out _).mono ?_; rintro e w8 ⟨rfl, hk8'⟩))
          go_ret
          exact ⟨rfl, (((hK.trans hk2).trans hk3).trans hk4).trans hk8'⟩
end Go.Proofs.YtofgadehblpoiaaDoor
