/-
  Package herd: join, herdOf.
-/
import Derived.Test.YtlnlddnjalfamaaGreatDoorHc
import Derived.Deep.RegionHeld3
namespace Go.Proofs.YtlnlddnjalfamaaGreatDoor
open Go.RowKit Go.Deep

abbrev setV (x : Nat) : Value := .int .u16 ((x : Nat) : Int)
/-- one pair more -/
def joinH (H : Nat → Nat) (a b : Nat) : Nat → Nat := fun i => if i = b then H b ||| 2 ^ a else if i = a then H a ||| 2 ^ b else H i
theorem joinH_lt {H : Nat → Nat} {a b n : Nat} (hH : ∀ i, i < n → H i < 65536) (ha : a < n) (hb : b < n) (hn : n ≤ 15) : ∀ i, i < n → joinH H a b i < 65536 := fun i hi => by
  unfold joinH
  split
  · exact or16_lt (hH b hb) (pow16 (by omega))
  · split
    · exact or16_lt (hH a ha) (pow16 (by omega))
    · exact hH i hi
set_option maxRecDepth 100000 in
set_option maxHeartbeats 4000000 in
theorem join_any (w : World) (g n cap : Nat) (H : Nat → Nat) (A B : Int) (a b : Nat) (hA : A = a) (hB : B = b) (ha : a < n) (hb : b < n) (hab : a ≠ b) (hn : n ≤ 14) (hR : w.rowIs g 84 n (fun i => setV (H i))) (hH : ∀ i, i < n → H i < 65536) :
    Calls Tryz.prog 72 #[.slice (some ⟨g, 0, none⟩) n cap, .agg #[.int .i64 A, .int .i64 B]] w fun e w' => e = .returned (.tuple #[]) ∧ KeptX (fun k => k = g) w w' ∧ w'.rowIs g 84 n (fun i => setV (joinH H a b i)) := by
  subst hA hB
  have hg := hR.lt
  obtain ⟨p, HP⟩ : ∃ p : Nat, Hid (p = 2 ^ b) := ⟨2 ^ b, rfl⟩
  obtain ⟨q, HQ⟩ : ∃ q : Nat, Hid (q = 2 ^ a) := ⟨2 ^ a, rfl⟩
  have e0 : (2 : Int) ^ b = (p : Int) := by rw [HP.out]; simp
  have e1 : (2 : Int) ^ a = (q : Int) := by rw [HQ.out]; simp
  have p1 : p < 65536 := by rw [HP.out]; exact pow16 (by omega)
  have q1 : q < 65536 := by rw [HQ.out]; exact pow16 (by omega)
  have o1 := or16 (H a) p (hH a ha) p1
  have o2 := or16 (H b) q (hH b hb) q1
  have t0 := hR.cell ha
  have t1 := hR.cell hb
  have f0 := hR.frozen a
  have f1 := hR.frozen b
  have a0 : (0 : Int) ≤ (a : Int) := by omega
  have a1 : (a : Int) < (n : Int) := by omega
  have b0 : (0 : Int) ≤ (b : Int) := by omega
  have b1 : (b : Int) < (n : Int) := by omega
  obtain ⟨x, HX⟩ : ∃ x, Hid (x = H a) := ⟨_, rfl⟩
  obtain ⟨y, HY⟩ : ∃ y, Hid (y = H b) := ⟨_, rfl⟩
  simp only [setV] at t0 t1
  rw [← HX.out] at o1 t0
  rw [← HY.out] at o2 t1
  have d0 : (w.alloc (.cells #[.int .i64 a, .int .i64 b] 94)).cell? ⟨w.heap.size, 0, none⟩ = some (.int .i64 a) := by unfold World.cell?; dsimp only; rw [blk_alloc_new]; rfl
  have d1 : (w.alloc (.cells #[.int .i64 a, .int .i64 b] 94)).cell? ⟨w.heap.size, 1, none⟩ = some (.int .i64 b) := by unfold World.cell?; dsimp only; rw [blk_alloc_new]; rfl
  have hK0 : Kept w (w.alloc (.cells #[.int .i64 a, .int .i64 b] 94)) := (Kept.refl w).alloc _
  have hs : w.heap.size < (w.alloc (.cells #[.int .i64 a, .int .i64 b] 94)).heap.size := by simp
  go_enter Tryz.func72, Tryz.ntmps72
  go_wp2_with fail
  generalize w.alloc (.cells #[.int .i64 a, .int .i64 b] 94) = W at *
  have hR0 := hK0.row hR
  have t0 := hK0.cellSome t0
  have t1 := hK0.cellSome t1
  have f0 : W.frozen? ⟨g, a, none⟩ = false := hR0.frozen a
  clear f1 hR
  have hX0 : KeptX (fun k => k = g) w W := hK0.weaken (fun _ h => h.elim)
  go_region
  all_goals
    go_wp2_with fail
    have hX1 := (KeptX.setCell hX0 (p := ⟨g, a, none⟩) (Or.inl rfl) (setV (x ||| p))).drew
    have hR1 := ((hR0.set a (setV (x ||| p))).drew).congr (g := fun i => setV (if i = a then x ||| p else H i)) (fun i _ => by
      by_cases e : i = a
      · simp [e]
      · simp [e])
    have z0 : (W.setCell ⟨g, a, none⟩ (setV (x ||| p))).drew.cell? ⟨w.heap.size, 0, none⟩ = some (.int .i64 a) := by
      rw [World.cell?_drew, World.cell?_setCell_other _ _ _ _ (by simp; try omega)]; exact d0
    have z1 : (W.setCell ⟨g, a, none⟩ (setV (x ||| p))).drew.cell? ⟨w.heap.size, 1, none⟩ = some (.int .i64 b) := by
      rw [World.cell?_drew, World.cell?_setCell_other _ _ _ _ (by simp; try omega)]; exact d1
    generalize (W.setCell ⟨g, a, none⟩ (setV (x ||| p))).drew = W1 at *
    clear t0 t1 f0 d0 d1 hR0
    have t1 : W1.cell? ⟨g, b, none⟩ = some (.int .u16 y) := by
      have := hR1.cell hb
      simp only [show ¬ b = a from Ne.symm hab, if_false] at this
      rw [HY.out]; exact this
    have f1 : W1.frozen? ⟨g, b, none⟩ = false := hR1.frozen b
    go_region
    all_goals
      go_wp2_with fail
      go_end0
      refine ⟨rfl, (KeptX.setCell hX1 (p := ⟨g, b, none⟩) (Or.inl rfl) (setV (y ||| q))).drew, ((hR1.set b (setV (y ||| q))).drew).congr (fun i _ => ?_)⟩
      unfold joinH
      rw [← HX.out, ← HY.out, ← HP.out, ← HQ.out]
      by_cases e : i = b
      · simp [e]
      · simp [e]
theorem allN_at {p : Nat → Bool} {n k : Nat} (h : allN p n = true) (hk : k < n) : p k = true := allN_true.1 h k hk
theorem allN_prev {p : Nat → Bool} {k : Nat} (h : allN p (k + 1) = true) : allN p k = true := allN_true.2 fun i hi => allN_true.1 h i (by omega)
def pairB (n : Int) (A B : Nat → Int) (i : Nat) : Bool := decide (0 ≤ A i) && decide (0 ≤ B i) && decide (A i < n) && decide (B i < n) && (A i != B i)
theorem pairB_true {n : Int} {A B : Nat → Int} {i : Nat} (h : pairB n A B i = true) : 0 ≤ A i ∧ 0 ≤ B i ∧ A i < n ∧ B i < n ∧ A i ≠ B i := by
  unfold pairB at h
  simp only [Bool.and_eq_true, decide_eq_true_eq, bne_iff_ne, ne_eq] at h
  exact ⟨h.1.1.1.1, h.1.1.1.2, h.1.1.2, h.1.2, h.2⟩
/-- is this a herd -/
def goodH (n : Int) (A B : Nat → Int) (m : Nat) : Bool := decide (1 ≤ n) && decide (n ≤ 9) && decide (m ≤ 100) && allN (pairB n A B) m
/-- with which others each horse gets along, by the first k pairs -/
def alongH (A B : Nat → Int) : Nat → Nat → Nat
  | 0 => fun _ => 0
  | k + 1 => joinH (alongH A B k) (A k).toNat (B k).toNat
theorem alongH_lt {A B : Nat → Int} {n k : Nat} (hn : n ≤ 15) (h : allN (pairB n A B) k = true) : ∀ i, i < n → alongH A B k i < 65536 := by
  induction k with
  | zero => intro i _; exact (by decide : 0 < 65536)
  | succ k ih =>
    have h1 : allN (pairB n A B) k = true := allN_prev h
    obtain ⟨a0, b0, a1, b1, _⟩ := pairB_true (n := n) (allN_at h (Nat.lt_succ_self k))
    exact joinH_lt (ih h1) (by omega) (by omega) hn
def HerdOfPost (w : World) (n : Int) (A B : Nat → Int) (m : Nat) (e : Ending) (w' : World) : Prop :=
  Kept w w' ∧ if goodH n A B m then ∃ g, e = .returned (.tuple #[.slice (some ⟨g, 0, none⟩) n.toNat n.toNat, .int .i64 0]) ∧ w.heap.size ≤ g ∧ w'.rowIs g 84 n.toNat (fun i => setV (alongH A B m i)) else e = .returned (.tuple #[.slice none 0 0, .int .i64 1])
theorem Tryz.infoSet : (Tryz.prog.info? 84).map (fun i => (i.zero, i.size, i.bytes)) = some (some (.int .u16 0), 1, 2) := by kernel_rfl
theorem mkHerd (n : Nat) (hn : n ≤ 1000000) (w : World) :
    (Instr.makeSlice 80 (.int .i64 n) (.int .i64 n)).run Tryz.prog w = .ok (.slice (some ⟨w.heap.size, 0, none⟩) n n) (w.alloc (.cells (madeCells #[.int .u16 0] n) 84)) :=
  run_make_row' (P := Tryz.prog) 80 84 (.int .u16 0) 2 (by kernel_rfl) Tryz.infoSet rfl .i64 .i64 n (by omega) (by omega) w
theorem herd_bad {w w' : World} {n : Int} {A B : Nat → Int} {m : Nat} (h : goodH n A B m = false) (k : Kept w w') : HerdOfPost w n A B m (.returned (.tuple #[.slice none 0 0, .int .i64 1])) w' := ⟨k, by rw [h, if_neg (by simp)]⟩
theorem pairB_bad {n : Int} {A B : Nat → Int} {m i : Nat} (hi : i < m) (h : pairB n A B i = false) : goodH n A B m = false := by
  unfold goodH
  rw [allN_false hi h]
  simp
set_option maxRecDepth 100000 in
set_option maxHeartbeats 4000000 in
theorem herdOf_any (w : World) (n : Int) (v : Value) (m : Nat) (A B : Nat → Int) (hP : PairsAt w v m A B) (hm : m ≤ 1000000) :
    Calls Tryz.prog 41 #[.int .i64 n, v] w (HerdOfPost w n A B m) := by
  obtain ⟨a, b, o, cap, rfl, ha, hc⟩ := hP
  have WI := Lib.hid (fun W => isWithin_any W n 9)
  have HC := Lib.hid hc
  clear hc
  obtain ⟨wb, HWB⟩ : ∃ wb, Hid (wb = decide (1 ≤ n ∧ n ≤ 9)) := ⟨_, rfl⟩
  rw [← HWB.out] at WI
  cases wb with
  | false =>
    have hbad : Hid (goodH n A B m = false) := by
      have h := HWB.out.symm
      simp only [decide_eq_false_iff_not] at h
      show _ = _
      unfold goodH
      have : (decide (1 ≤ n) && decide (n ≤ 9)) = false := by simp; omega
      rw [this]; simp
    clear HWB
    go_enter Tryz.func41, Tryz.ntmps41
    go_wp2_with (first | (go_at_call 66; refine (WI.out _).mono ?_; rintro e w1 ⟨rfl, rfl⟩))
    go_ret2
    exact herd_bad hbad.out (Kept.refl _)
  | true =>
    have hn := HWB.out.symm
    simp only [decide_eq_true_eq] at hn
    obtain ⟨n1, n9⟩ := hn
    by_cases hbig : 100 < m
    · have hbad : Hid (goodH n A B m = false) := by
        show _ = _
        unfold goodH
        have : decide (m ≤ 100) = false := by simp; omega
        rw [this]; simp
      have hg : (m : Int) > 100 := by omega
      go_enter Tryz.func41, Tryz.ntmps41
      go_wp2_with (first | (go_at_call 66; refine (WI.out _).mono ?_; rintro e w1 ⟨rfl, rfl⟩))
      go_ret2
      exact herd_bad hbad.out (Kept.refl _)
    · obtain ⟨N, rfl⟩ : ∃ N : Nat, n = N := ⟨n.toNat, by omega⟩
      have hN1 : 1 ≤ N := by omega
      have hN9 : N ≤ 9 := by omega
      have hg : ¬ (100 : Int) < (m : Int) := by omega
      have hmk := fun W => mkHerd N (by omega) W
      have hrow := World.rowIs_made w (.int .u16 0) N 84
      have hk0 : Kept w (w.alloc (.cells (madeCells #[.int .u16 0] N) 84)) := (Kept.refl w).alloc _
      clear n1 n9
      go_enter Tryz.func41, Tryz.ntmps41
      go_wp2_with (first | (go_at_call 66; refine (WI.out _).mono ?_; rintro e w1 ⟨rfl, rfl⟩))
      obtain ⟨r, HRR⟩ : ∃ r, Hid (r = w.heap.size) := ⟨_, rfl⟩
      have hrs : w.heap.size ≤ r := by rw [HRR.out]; exact Nat.le_refl _
      rw [← HRR.out] at hrow ⊢
      generalize w.alloc (.cells (madeCells #[.int .u16 0] N) 84) = W0 at *
      clear hmk WI
      go_loopg [21] m (fun g s21 wr => ∃ k : Nat, k ≤ m ∧ g = m - k ∧ s21 = .int .i64 k ∧ Kept w wr ∧ wr.rowIs r 84 N (fun i => setV (alongH A B k i)) ∧ Hid (allN (pairB N A B) k = true))
      case atStart => exact ⟨0, Nat.zero_le _, rfl, rfl, hk0, hrow, rfl⟩
      case round =>
        clear hk0 hrow
        obtain ⟨k, hk, rfl, rfl, hK, hR, hA⟩ := hrel
        by_cases hlt : k < m
        · obtain rfl := ha (by omega)
          obtain ⟨c0, c1⟩ := HC.out k hlt
          have t0 := hK.cellSome c0
          have t1 := hK.cellSome c1
          clear c0 c1
          have hs1 : (k : Int) < (m : Int) := by omega
          have hs2 : (0 : Int) ≤ (k : Int) := by omega
          obtain ⟨x, HX⟩ : ∃ x, Hid (x = A k) := ⟨_, rfl⟩
          obtain ⟨y, HY⟩ : ∃ y, Hid (y = B k) := ⟨_, rfl⟩
          rw [← HX.out] at t0
          rw [← HY.out] at t1
          have hbadif : ∀ (_ : ¬ (0 ≤ x ∧ 0 ≤ y ∧ x < N ∧ y < N ∧ x ≠ y)), goodH N A B m = false := fun h => pairB_bad hlt (by
            cases e : pairB N A B k
            · rfl
            · have := pairB_true e
              rw [← HX.out, ← HY.out] at this
              exact absurd this h)
          have HBAD := Lib.hid hbadif
          clear hbadif
          by_cases hyx : y < x
          · by_cases h1 : y < 0
            · clear HX HY
              go_wp2_with fail
              go_ret2
              exact herd_bad (HBAD.out (by omega)) (by repeat (first | assumption | exact Kept.refl _ | apply Kept.drew | apply Kept.drewN | apply Kept.alloc | refine Kept.trans ?_ (by assumption)))
            · by_cases h2 : x < N
              · have hxe : (x == y) = false := beq_false_of_ne (by omega)
                have hxy1 : ¬ x = y := by omega
                have hxy2 : ¬ y = x := by omega
                obtain ⟨p, hp⟩ : ∃ c : Nat, x = c := ⟨x.toNat, by omega⟩
                obtain ⟨q, hq⟩ : ∃ c : Nat, y = c := ⟨y.toNat, by omega⟩
                have hA2 : Hid (allN (pairB N A B) (k + 1) = true) := allN_step hA.out (by
                  unfold pairB
                  rw [← HX.out, ← HY.out]
                  simp
                  omega)
                have hal : Hid (alongH A B (k + 1) = joinH (alongH A B k) p q) := by
                  show joinH (alongH A B k) (A k).toNat (B k).toNat = _
                  rw [← HX.out, ← HY.out, hp, hq]
                  rfl
                have hlts := alongH_lt (n := N) (by omega) hA.out
                have hx : p < N := by omega
                have hy : q < N := by omega
                have hxy : p ≠ q := by omega
                have JN := Lib.hid (fun W (h : W.rowIs r 84 N (fun i => setV (alongH A B k i))) => join_any W r N N (alongH A B k) x y p q hp hq hx hy hxy (by omega) h hlts)
                clear HBAD HX HY hA hlts hp hq hx hy hxy
                go_wp2_with (first | (go_at_call 72; refine (JN.out _ (Kept.row (by repeat (first | assumption | exact Kept.refl _ | apply Kept.drew | apply Kept.drewN | apply Kept.alloc | refine Kept.trans ?_ (by assumption))) hR)).mono ?_; rintro e w2 ⟨rfl, hX2, hR2⟩))
                go_roundg (m - (k + 1))
                case measure => omega
                case rel => exact ⟨k + 1, by omega, rfl, by go_num, Kept.step (by repeat (first | assumption | exact Kept.refl _ | apply Kept.drew | apply Kept.drewN | apply Kept.alloc | refine Kept.trans ?_ (by assumption))) hX2 (fun i hi => by rw [hi]; exact hrs), by rw [hal.out]; exact hR2, hA2.out⟩
              · have h3 : (N : Int) ≤ x := by omega
                clear HX HY
                go_wp2_with fail
                go_ret2
                exact herd_bad (HBAD.out (by omega)) (by repeat (first | assumption | exact Kept.refl _ | apply Kept.drew | apply Kept.drewN | apply Kept.alloc | refine Kept.trans ?_ (by assumption)))
          · by_cases h1 : x < 0
            · clear HX HY
              go_wp2_with fail
              go_ret2
              exact herd_bad (HBAD.out (by omega)) (by repeat (first | assumption | exact Kept.refl _ | apply Kept.drew | apply Kept.drewN | apply Kept.alloc | refine Kept.trans ?_ (by assumption)))
            · by_cases h2 : y < N
              · by_cases h4 : x = y
                · clear HX HY
                  subst h4
                  go_wp2_with fail
                  go_ret2
                  exact herd_bad (HBAD.out (by omega)) (by repeat (first | assumption | exact Kept.refl _ | apply Kept.drew | apply Kept.drewN | apply Kept.alloc | refine Kept.trans ?_ (by assumption)))
                · have hxy2 : ¬ y = x := fun h => h4 h.symm
                  have h5 : x < y := by omega
                  have hxe : (x == y) = false := beq_false_of_ne h4
                  obtain ⟨p, hp⟩ : ∃ c : Nat, x = c := ⟨x.toNat, by omega⟩
                  obtain ⟨q, hq⟩ : ∃ c : Nat, y = c := ⟨y.toNat, by omega⟩
                  have hA2 : Hid (allN (pairB N A B) (k + 1) = true) := allN_step hA.out (by
                    unfold pairB
                    rw [← HX.out, ← HY.out]
                    simp
                    omega)
                  have hal : Hid (alongH A B (k + 1) = joinH (alongH A B k) p q) := by
                    show joinH (alongH A B k) (A k).toNat (B k).toNat = _
                    rw [← HX.out, ← HY.out, hp, hq]
                    rfl
                  have hlts := alongH_lt (n := N) (by omega) hA.out
                  have hx : p < N := by omega
                  have hy : q < N := by omega
                  have hxy : p ≠ q := by omega
                  have JN := Lib.hid (fun W (h : W.rowIs r 84 N (fun i => setV (alongH A B k i))) => join_any W r N N (alongH A B k) x y p q hp hq hx hy hxy (by omega) h hlts)
                  clear HBAD HX HY hA hlts hp hq hx hy hxy
                  go_wp2_with (first | (go_at_call 72; refine (JN.out _ (Kept.row (by repeat (first | assumption | exact Kept.refl _ | apply Kept.drew | apply Kept.drewN | apply Kept.alloc | refine Kept.trans ?_ (by assumption))) hR)).mono ?_; rintro e w2 ⟨rfl, hX2, hR2⟩))
                  go_roundg (m - (k + 1))
                  case measure => omega
                  case rel => exact ⟨k + 1, by omega, rfl, by go_num, Kept.step (by repeat (first | assumption | exact Kept.refl _ | apply Kept.drew | apply Kept.drewN | apply Kept.alloc | refine Kept.trans ?_ (by assumption))) hX2 (fun i hi => by rw [hi]; exact hrs), by rw [hal.out]; exact hR2, hA2.out⟩
              · have h3 : (N : Int) ≤ y := by omega
                clear HX HY
                by_cases h4 : x = y
                · subst h4
                  go_wp2_with fail
                  go_ret2
                  exact herd_bad (HBAD.out (by omega)) (by repeat (first | assumption | exact Kept.refl _ | apply Kept.drew | apply Kept.drewN | apply Kept.alloc | refine Kept.trans ?_ (by assumption)))
                · have h5 : x < y := by omega
                  go_wp2_with fail
                  go_ret2
                  exact herd_bad (HBAD.out (by omega)) (by repeat (first | assumption | exact Kept.refl _ | apply Kept.drew | apply Kept.drewN | apply Kept.alloc | refine Kept.trans ?_ (by assumption)))
        · obtain rfl : k = m := by omega
          have hgood : Hid (goodH N A B k = true) := by
            show _ = _
            unfold goodH
            rw [hA.out]
            simp
            omega
          go_wp2_with fail
          go_ret2
          exact ⟨hK, by rw [hgood.out, if_pos rfl]; exact ⟨r, rfl, hrs, hR⟩⟩
end Go.Proofs.YtlnlddnjalfamaaGreatDoor
