/-
  Package herd: parted, Turan.
  Package herd: Turan; the pairs of Turan's herd as a list.
-/
import Derived.Test.YtfbiinjpljmapaaDoorHq
import Derived.Test.YtfbiinjpljmapaaDoorHm
import Derived.Deep.RegionWith
namespace Go.Proofs.YtfbiinjpljmapaaDoor
open Go.RowKit Go.Deep

/-- how many horses are in the first parts -/
def fstN (n r : Nat) : Nat → Nat
  | 0 => 0
  | k + 1 => fstN n r k + partN n r k
/-- with which others horse i of Turan's herd gets along, once the first parts are written -/
def ptH (n r : Nat) : Nat → Nat → Nat
  | 0 => fun _ => 0
  | k + 1 => fun i => if fstN n r k ≤ i ∧ i < fstN n r (k + 1) then bsub (allH n) (2 ^ fstN n r (k + 1) - 2 ^ fstN n r k) else ptH n r k i
theorem fst_all : (List.range 10).all (fun n => (List.range 10).all fun r => (List.range 10).all fun k => r == 0 || decide (r < k) || decide (fstN n r k ≤ n)) = true := by decide +kernel
theorem fst_le {n r k : Nat} (hn : n ≤ 9) (hr : 1 ≤ r) (hr2 : r ≤ 9) (hk : k ≤ r) : fstN n r k ≤ n := by
  have h := fst_all
  rw [List.all_eq_true] at h
  have h1 := h n (by simp; omega)
  rw [List.all_eq_true] at h1
  have h2 := h1 r (by simp; omega)
  rw [List.all_eq_true] at h2
  have h3 := h2 k (by simp; omega)
  simp at h3
  omega
def PartedPost (w : World) (n r : Nat) (e : Ending) (w' : World) : Prop := ∃ g, e = .returned (.slice (some ⟨g, 0, none⟩) n n) ∧ w.heap.size ≤ g ∧ w'.rowIs g 80 n (fun i => setV (ptH n r r i)) ∧ Kept w w'
set_option maxRecDepth 100000 in
set_option maxHeartbeats 8000000 in
theorem parted_any (w : World) (n r : Nat) (hn : n ≤ 9) (hr : 1 ≤ r) (hr2 : r ≤ 9) :
    Calls Tryd.prog 43 #[.int .i64 n, .int .i64 r] w (PartedPost w n r) := by
  have hmk := fun W => mkHerd n (by omega) W
  have hrow := World.rowIs_made w (.int .u16 0) n 80
  have hk0 : Kept w (w.alloc (.cells (madeCells #[.int .u16 0] n) 80)) := (Kept.refl w).alloc _
  have PS := Lib.hid (fun W (p : Nat) => partSize_any W n r p (by omega) hr (by omega))
  have hal := allH_lt (n := n) (by omega)
  have AL := Lib.hid (fun W (a : Option Addr) (cap : Nat) => all_any W a n cap (by omega))
  have HF := Lib.hid (fun k hk => fst_le (n := n) (r := r) (k := k) hn hr hr2 hk)
  go_enter Tryd.func43, Tryd.ntmps43
  go_wp2_with fail
  obtain ⟨g, HG⟩ : ∃ r, Hid (r = w.heap.size) := ⟨_, rfl⟩
  have hrs : w.heap.size ≤ g := by rw [HG.out]; exact Nat.le_refl _
  rw [← HG.out] at hrow ⊢
  generalize w.alloc (.cells (madeCells #[.int .u16 0] n) 80) = W0 at *
  clear hmk
  go_loopg [6, 13] r (fun q s6 s13 wr => ∃ k : Nat, k ≤ r ∧ q = r - k ∧ s6 = .int .i64 (fstN n r k) ∧ s13 = .int .i64 k ∧ Kept w wr ∧ wr.rowIs g 80 n (fun i => setV (ptH n r k i)))
  case atStart => exact ⟨0, Nat.zero_le _, rfl, rfl, rfl, hk0, hrow⟩
  case round =>
    clear hk0 hrow
    obtain ⟨k, hk, rfl, rfl, rfl, hK, hR⟩ := hrel
    by_cases hlt : k < r
    · have s1 : (k : Int) < (r : Int) := by omega
      have hb1 := HF.out k (by omega)
      have hb2 := HF.out (k + 1) (by omega)
      have hnext : Hid (fstN n r (k + 1) = fstN n r k + partN n r k) := rfl
      have PK := Lib.hid (fun W => PS.out W k)
      obtain ⟨F, HFF⟩ : ∃ F, Hid (F = fstN n r k) := ⟨_, rfl⟩
      obtain ⟨p, HP⟩ : ∃ p, Hid (p = partN n r k) := ⟨_, rfl⟩
      obtain ⟨E, HE⟩ : ∃ E, Hid (E = fstN n r (k + 1)) := ⟨_, rfl⟩
      rw [← HP.out] at PK hnext
      rw [← HFF.out] at hb1 hnext
      rw [← HE.out] at hb2 hnext
      rw [← HFF.out]
      have hEF := hnext.out
      have hFE : F ≤ E := by omega
      have we : IntKind.i64.wrap ((F : Int) + (p : Int)) = (E : Int) := by rw [hEF]; exact IntWalk.i64_in _ (by omega)
      obtain ⟨P, HPP⟩ : ∃ p : Nat, Hid (p = 2 ^ E) := ⟨2 ^ E, rfl⟩
      obtain ⟨Q, HQ⟩ : ∃ q : Nat, Hid (q = 2 ^ F) := ⟨2 ^ F, rfl⟩
      have e0 : (2 : Int) ^ E = (P : Int) := by rw [HPP.out]; simp
      have e1 : (2 : Int) ^ F = (Q : Int) := by rw [HQ.out]; simp
      have p1 : P < 65536 := by rw [HPP.out]; exact pow16 (by omega)
      have q1 : Q ≤ P := by rw [HPP.out, HQ.out]; exact Nat.pow_le_pow_right (by omega) (by omega)
      obtain ⟨V, HV⟩ : ∃ V : Nat, Hid (V = bsub (allH n) (P - Q)) := ⟨_, rfl⟩
      have hv := andNot16 (allH n) (P - Q) hal (by omega)
      have hpt : Hid (∀ i, ptH n r (k + 1) i = if F ≤ i ∧ i < E then V else ptH n r k i) := fun i => by
        rw [HV.out, HPP.out, HQ.out, HFF.out, HE.out]
        rfl
      have wP : IntKind.u16.wrap (P : Int) = (P : Int) := wr16 _ p1
      have wQ : IntKind.u16.wrap (Q : Int) = (Q : Int) := wr16 _ (by omega)
      have hd : ((P : Int) - (Q : Int)) = ((P - Q : Nat) : Int) := by omega
      have hdw : IntKind.u16.wrap (((P - Q : Nat) : Int)) = ((P - Q : Nat) : Int) := wr16 _ (by omega)
      rw [← HV.out] at hv
      obtain ⟨D, HD⟩ : ∃ D : Nat, Hid (D = P - Q) := ⟨_, rfl⟩
      rw [← HD.out] at hv hd hdw
      obtain ⟨X, HX⟩ : ∃ X : Nat, Hid (X = allH n) := ⟨_, rfl⟩
      rw [← HX.out] at hv AL hal
      clear HP HPP HQ HV HX hEF PS
      go_wp2_with (first | (go_at_call 45; refine (PK.out _).mono ?_; rintro e w1 ⟨rfl, rfl⟩))
      go_loopg [9] (E - F) (fun q s9 wi => ∃ j : Nat, j ≤ E ∧ F ≤ j ∧ q = E - j ∧ s9 = .int .i64 j ∧ Kept w wi ∧ wi.rowIs g 80 n (fun i => setV (if F ≤ i ∧ i < j then V else ptH n r k i)))
      case atStart => exact ⟨F, by omega, Nat.le_refl _, rfl, by first | rfl | go_num, hK, hR.congr (fun i _ => by rw [if_neg (by omega)])⟩
      case round =>
        clear hK hR
        obtain ⟨j, hj, hj2, rfl, rfl, hK, hR⟩ := hrel
        by_cases hjl : j < E
        · have s2 : (j : Int) < (E : Int) := by omega
          have s3 : (0 : Int) ≤ (j : Int) := by omega
          have s4 : (j : Int) < (n : Int) := by omega
          have f0 := hR.frozen j
          have t0 := hR.cell (i := j) (by omega)
          have hR2 := (hR.set j (setV V)).congr (g := fun i => setV (if F ≤ i ∧ i < j + 1 then V else ptH n r k i)) (fun i _ => by
            by_cases e : i = j
            · rw [if_pos e, if_pos (by omega)]
            · rw [if_neg e]
              by_cases h : F ≤ i ∧ i < j
              · rw [if_pos h, if_pos (by omega)]
              · rw [if_neg h, if_neg (by omega)])
          have hK2 := hK.setCell (p := ⟨g, j, none⟩) (by show w.heap.size ≤ g; omega) (setV V)
          go_wp2_with fail
          go_region_with (first | (go_at_call 61; refine (AL.out _ _ _).mono ?_; rintro e w2 ⟨rfl, rfl⟩))
          all_goals
            (try simp only [wP, wQ, hd, hdw, hv])
            have hR3 := hR2.drew
            have hK3 := hK2.drew
            (try simp only [setV] at hR3); (try simp only [setV] at hK3)
            clear hR2 hK2 hR hK t0 f0
            go_wp2_with fail
            go_roundg (E - (j + 1))
            case measure => omega
            case rel => exact ⟨j + 1, by omega, by omega, rfl, by go_num, hK3, hR3⟩
        · obtain rfl : j = E := by omega
          go_wp2_with fail
          go_roundg (r - (k + 1))
          case measure => omega
          case rel => exact ⟨k + 1, by omega, rfl, by rw [HE.out], by go_num, hK, hR.congr (fun i _ => by rw [hpt.out])⟩
    · obtain rfl : k = r := by omega
      go_wp2_with fail
      go_ret
      exact ⟨g, rfl, hrs, hR, hK⟩
end Go.Proofs.YtfbiinjpljmapaaDoor
namespace Go.Proofs.YtfbiinjpljmapaaDoor
open Go.RowKit Go.Deep

theorem ptH_lt (n r k : Nat) (hn : n ≤ 14) (i : Nat) : ptH n r k i < 65536 := by
  induction k with
  | zero => exact (by decide : 0 < 65536)
  | succ k ih =>
    simp only [ptH]
    split
    · exact Nat.lt_of_le_of_lt (bsub_le _ _) (allH_lt (by omega))
    · exact ih
/-- in which part each horse is: those of the first k parts -/
def prtL (n r k : Nat) : List Nat := (List.range k).flatMap fun p => List.replicate (partN n r p) p
theorem prtL_succ (n r k : Nat) : prtL n r (k + 1) = prtL n r k ++ List.replicate (partN n r k) k := by
  unfold prtL
  rw [List.range_succ, List.flatMap_append]
  simp
/-- the pairs with horse i and another one, below m, of another part -/
def turR (l : List Nat) (i m : Nat) : List (Nat × Nat) := ((List.range m).filter fun j => decide (i < j) && !(l.getD i 0 == l.getD j 0)).map fun j => (i, j)
theorem turR_succ (l : List Nat) (i m : Nat) : turR l i (m + 1) = turR l i m ++ (if i < m ∧ ¬ l.getD i 0 = l.getD m 0 then [(i, m)] else []) := by
  unfold turR
  rw [List.range_succ, List.filter_append, List.map_append]
  congr 1
  by_cases h1 : i < m
  · by_cases h2 : l.getD i 0 = l.getD m 0
    · simp only [List.getD_eq_getElem?_getD] at h2
      simp [h1, h2]
    · simp only [List.getD_eq_getElem?_getD] at h2
      simp [h1, h2]
  · simp [h1]
theorem turR_zero (l : List Nat) (i : Nat) : turR l i (i + 1) = [] := by
  unfold turR
  rw [List.map_eq_nil_iff, List.filter_eq_nil_iff]
  intro j hj
  simp at hj
  simp
  intro h
  omega
theorem turR_len (l : List Nat) (i m : Nat) : (turR l i m).length ≤ m := by
  unfold turR
  rw [List.length_map]
  exact Nat.le_trans (List.length_filter_le _ _) (by simp)
/-- the pairs of Turan's herd whose first horse is one of the first k -/
def turL (l : List Nat) (n k : Nat) : List (Nat × Nat) := (List.range k).flatMap fun i => turR l i n
theorem turL_succ (l : List Nat) (n k : Nat) : turL l n (k + 1) = turL l n k ++ turR l k n := by
  unfold turL
  rw [List.range_succ, List.flatMap_append]
  simp
theorem turL_len (l : List Nat) (n k : Nat) : (turL l n k).length ≤ k * n := by
  induction k with
  | zero => exact Nat.zero_le _
  | succ k ih =>
    rw [turL_succ, List.length_append, Nat.succ_mul]
    have := turR_len l k n
    omega
def turanL (n r : Nat) : List (Nat × Nat) := turL (prtL n r r) n n
theorem tur_all : (List.range 10).all (fun n => (List.range 10).all fun r => r == 0 || (decide (pairsH (ptH n r r) n = turanL n r) && decide ((prtL n r r).length = n))) = true := by decide +kernel
theorem tur_both {n r : Nat} (hn : n ≤ 9) (hr : 1 ≤ r) (hr2 : r ≤ 9) : pairsH (ptH n r r) n = turanL n r ∧ (prtL n r r).length = n := by
  have h := tur_all
  rw [List.all_eq_true] at h
  have h1 := h n (by simp; omega)
  rw [List.all_eq_true] at h1
  have h2 := h1 r (by simp; omega)
  rw [Bool.or_eq_true, Bool.and_eq_true, decide_eq_true_eq, decide_eq_true_eq] at h2
  rcases h2 with h2 | h2
  · simp at h2; omega
  · exact h2
def TuranPost (w : World) (n r : Int) (e : Ending) (w' : World) : Prop := Kept w w' ∧ if withinB n 9 && withinB r 9 then ∃ v, e = .returned (.tuple #[v, .int .i64 0]) ∧ PrsAt w' v (turanL n.toNat r.toNat) else e = .returned (.tuple #[.slice none 0 0, .int .i64 1])
set_option maxRecDepth 100000 in
set_option maxHeartbeats 4000000 in
theorem Turan_any (w : World) (n r : Int) : Calls Tryd.prog 18 #[.int .i64 n, .int .i64 r] w (TuranPost w n r) := by
  have WN := Lib.hid (fun W => isWithin_any W n 9)
  have WR := Lib.hid (fun W => isWithin_any W r 9)
  unfold TuranPost
  obtain ⟨bn, HBN⟩ : ∃ b, Hid (b = withinB n 9) := ⟨_, rfl⟩
  obtain ⟨br, HBR⟩ : ∃ b, Hid (b = withinB r 9) := ⟨_, rfl⟩
  have e1 : decide (1 ≤ n ∧ n ≤ 9) = bn := HBN.out.symm
  have e2 : decide (1 ≤ r ∧ r ≤ 9) = br := HBR.out.symm
  rw [e1] at WN
  rw [e2] at WR
  rw [← HBN.out, ← HBR.out]
  cases bn with
  | false =>
    clear e1 e2 HBN HBR
    go_enter Tryd.func18, Tryd.ntmps18
    go_wp2_with (first | (go_at_call 42; refine (WN.out _).mono ?_; rintro e w1 ⟨rfl, rfl⟩))
    go_ret2
    exact ⟨Kept.refl _, rfl⟩
  | true =>
    cases br with
    | false =>
      clear e1 e2 HBN HBR
      go_enter Tryd.func18, Tryd.ntmps18
      go_wp2_with (first | (go_at_call 42; refine (WN.out _).mono ?_; clear WN; rintro e w1 ⟨rfl, rfl⟩) | (go_at_call 42; refine (WR.out _).mono ?_; rintro e w1 ⟨rfl, rfl⟩))
      go_ret2
      exact ⟨Kept.refl _, rfl⟩
    | true =>
      simp only [decide_eq_true_eq] at e1 e2
      obtain ⟨n1, n2⟩ := e1
      obtain ⟨r1, r2⟩ := e2
      obtain ⟨N, rfl⟩ : ∃ N : Nat, n = N := ⟨n.toNat, by omega⟩
      obtain ⟨R, rfl⟩ : ∃ R : Nat, r = R := ⟨r.toNat, by omega⟩
      have PA := Lib.hid (fun W => parted_any W N R (by omega) (by omega) (by omega))
      have PP := Lib.hid (fun W g (h : W.rowIs g 80 N (fun i => setV (ptH N R R i))) => pairs_any W (.slice (some ⟨g, 0, none⟩) N N) N (ptH N R R) (CellsAt.of_row h) (fun i _ => ptH_lt N R R (by omega) i) (by omega))
      have HT := Lib.hid (tur_both (n := N) (r := R) (by omega) (by omega) (by omega)).1
      rw [HT.out] at PP
      simp only [Int.toNat_natCast]
      clear n1 n2 r1 r2 HBN HBR HT
      go_enter Tryd.func18, Tryd.ntmps18
      go_wp2_with (first | (go_at_call 42; refine (WN.out _).mono ?_; clear WN; rintro e w1 ⟨rfl, rfl⟩) | (go_at_call 42; refine (WR.out _).mono ?_; rintro e w1 ⟨rfl, rfl⟩) | (go_at_call 43; refine (PA.out _).mono ?_; rintro e w2 ⟨g, rfl, hgs, hR, hk2⟩) | (go_at_call 44; refine (PP.out _ g hR).mono ?_; rintro e w3 ⟨v3, rfl, hO3, hk3⟩))
      go_ret2
      exact ⟨hk2.trans hk3, _, rfl, PrsAt.of_own hO3⟩
end Go.Proofs.YtfbiinjpljmapaaDoor
