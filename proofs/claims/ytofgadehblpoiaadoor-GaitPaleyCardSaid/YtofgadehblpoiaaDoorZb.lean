/-
  Package gait: transform, signs, isBent.
-/
import Derived.Test.YtofgadehblpoiaaDoorZa
import Derived.Test.YtofgadehblpoiaaDoorGh
namespace Go.Proofs.YtofgadehblpoiaaDoor
open Go.RowKit Go.Deep Go.Shelf

theorem sg_neg {x : Int} {b : Bool} (h : b = true) : x * sg b = -x := by subst h; simp [sg]
theorem sg_pos {x : Int} {b : Bool} (h : b = false) : x * sg b = x := by subst h; simp [sg]
set_option maxRecDepth 100000 in
set_option maxHeartbeats 8000000 in
theorem transform_any (w : World) (v : Value) (n : Nat) (l : Nat → Int) (hV : IntsAt w v n l) (hn : n ≤ 64) (hl : ∀ j, j < n → -1000000 ≤ l j ∧ l j ≤ 1000000) :
    Calls Tryd.prog 70 #[v] w (RowPost w n (trN n l)) := by
  obtain ⟨a, b, o, cap, rfl, ha, hc⟩ := hV
  have hmk := mkInts (n : Int) n rfl (by omega)
  have hrow := World.rowIs_made w (.int .i64 0) n 3
  have hK0 : Kept w (w.alloc (.cells (madeCells #[.int .i64 0] n) 3)) := (Kept.refl w).alloc _
  have HC := Lib.hid hc
  have HL := Lib.hid hl
  have OD := Lib.hid (fun W (i j : Nat) (hi : i < 128) (hj : j < 128) => isOdd_any W i j hi hj)
  have HB := Lib.hid (fun i m (h : m ≤ n) => trP_le (l := l) (c := 1000000) (i := i) (m := m) (fun j hj => hl j (by omega)))
  clear hc hl
  go_enter Tryd.func70, Tryd.ntmps70
  go_wp2_with fail
  obtain ⟨r, HR⟩ : ∃ r, Hid (r = w.heap.size) := ⟨_, rfl⟩
  rw [← HR.out] at hrow ⊢
  have hrw : w.heap.size ≤ r := by rw [HR.out]; exact Nat.le_refl _
  have hrow2 := hrow.congr (g := fun j => .int .i64 (if j < 0 then trN n l j else 0)) (fun j _ => rfl)
  generalize w.alloc (.cells (madeCells #[.int .i64 0] n) 3) = W0 at *
  clear hrow hmk
  go_loopg [12] n (fun g s12 wr => ∃ i : Nat, i ≤ n ∧ g = n - i ∧ s12 = .int .i64 i ∧ Kept w wr ∧ wr.rowIs r 3 n (fun j => .int .i64 (if j < i then trN n l j else 0)))
  case atStart => exact ⟨0, Nat.zero_le _, rfl, rfl, hK0, hrow2⟩
  case round =>
    obtain ⟨i, hi, rfl, rfl, hK, hr⟩ := hrel
    clear hK0 hrow2
    by_cases hlt : i < n
    · have s2 : (i : Int) < (n : Int) := by omega
      have s3 : (0 : Int) ≤ (i : Int) := by omega
      obtain rfl := ha (by omega)
      have hr2 := hr.congr (g := fun j => .int .i64 (if j < i then trN n l j else if j = i then trP l i 0 else 0)) (fun j _ => by
        by_cases e : j < i
        · simp [e]
        · simp [e, trP, sumZ])
      obtain ⟨Wo, rfl⟩ : ∃ Wo : World, Wo = wr := ⟨_, rfl⟩
      go_wp2_with fail
      go_loopg [17] n (fun g s17 wi => ∃ j : Nat, j ≤ n ∧ g = n - j ∧ s17 = .int .i64 j ∧ Kept w wi ∧ wi.rowIs r 3 n (fun a => .int .i64 (if a < i then trN n l a else if a = i then trP l i j else 0)))
      case atStart => exact ⟨0, Nat.zero_le _, rfl, rfl, hK, hr2⟩
      case round =>
        obtain ⟨j, hj, rfl, rfl, hK1, hr1⟩ := hrel
        clear hK hr hr2
        by_cases hltj : j < n
        · have s4 : (j : Int) < (n : Int) := by omega
          have s5 : (0 : Int) ≤ (j : Int) := by omega
          have t0 := hK1.cellSome (HC.out j hltj)
          (try dsimp only at t0)
          have hb := HL.out j hltj
          have hB := HB.out i j (by omega)
          have hB2 := HB.out i (j + 1) (by omega)
          have ODj := Lib.hid (fun W => OD.out W i j (by omega) (by omega))
          have hnx : Hid (trP l i (j + 1) = trP l i j + l j * sg (par i j)) := rfl
          have hstep : ∀ y, y = trP l i (j + 1) → ∀ W2 : World, W2.rowIs r 3 n (fun a => .int .i64 (if a < i then trN n l a else if a = i then trP l i j else 0)) → (W2.setCell ⟨r, i, none⟩ (.int .i64 y)).rowIs r 3 n (fun a => .int .i64 (if a < i then trN n l a else if a = i then trP l i (j + 1) else 0)) := fun y hy W2 h2 =>
            (h2.set i (.int .i64 y)).congr fun a _ => by
              by_cases e : a = i
              · subst e; simp [hy]
              · simp [e]
          have HST := Lib.hid hstep
          clear hstep
          obtain ⟨x, HX⟩ : ∃ x, Hid (x = l j) := ⟨_, rfl⟩
          obtain ⟨s, HS⟩ : ∃ s, Hid (s = trP l i j) := ⟨_, rfl⟩
          rw [← HX.out] at t0 hb hnx
          rw [← HS.out] at hB hnx
          have hcell : ∀ W2 : World, Kept Wo W2 ∨ True → W2.rowIs r 3 n (fun a => .int .i64 (if a < i then trN n l a else if a = i then trP l i j else 0)) → W2.cell? ⟨r, i, none⟩ = some (.int .i64 s) := fun W2 _ h2 => by
            have := h2.cell hlt
            simpa [← HS.out] using this
          have HCE := Lib.hid hcell
          clear hcell
          have hm1 : (1000000 : Int) * (j : Int) ≤ 64000000 := by omega
          have hm2 : (1000000 : Int) * ((j + 1 : Nat) : Int) ≤ 64000000 := by omega
          cases hpar : par i j with
          | false =>
            rw [hpar] at ODj hnx
            have hres : Hid (s + x = trP l i (j + 1)) := by show _ = _; rw [hnx.out]; simp [sg]
            rw [← hres.out] at hB2
            have e2 : wrap64 (s + x) = s + x := IntWalk.wrap64_in _ (by omega)
            have e3 : IntKind.i64.wrap (s + x) = s + x := IntWalk.i64_in _ (by omega)
            clear hnx HX HS
            go_wp2_with (first | (go_at_call 93; refine (ODj.out _).mono ?_; rintro e w1 ⟨rfl, hq⟩; have hr3 := hq.kept.row hr1; have x0 := HCE.out _ (Or.inr trivial) hr3; have x1 := hr3.frozen i))
            go_roundg (n - (j + 1))
            case measure => omega
            case rel => exact ⟨j + 1, by omega, rfl, by first | rfl | go_num, by first | exact (hK1.trans hq.kept).setCell hrw _ | exact ((hK1.trans hq.kept).drewN _).setCell hrw _, by first | exact HST.out _ hres.out _ hr3 | exact HST.out _ hres.out _ (((Kept.refl _).drewN _).row hr3)⟩
          | true =>
            rw [hpar] at ODj hnx
            have hres : Hid (s + -x = trP l i (j + 1)) := by show _ = _; rw [hnx.out]; simp [sg]
            rw [← hres.out] at hB2
            have e1 : wrap64 (-x) = -x := IntWalk.wrap64_in _ (by omega)
            have e2 : wrap64 (s + -x) = s + -x := IntWalk.wrap64_in _ (by omega)
            have e4 : IntKind.i64.wrap (-x) = -x := IntWalk.i64_in _ (by omega)
            have e3 : IntKind.i64.wrap (s + -x) = s + -x := IntWalk.i64_in _ (by omega)
            clear hnx HX HS
            go_wp2_with (first | (go_at_call 93; refine (ODj.out _).mono ?_; rintro e w1 ⟨rfl, hq⟩; have hr3 := hq.kept.row hr1; have x0 := HCE.out _ (Or.inr trivial) hr3; have x1 := hr3.frozen i))
            go_roundg (n - (j + 1))
            case measure => omega
            case rel => exact ⟨j + 1, by omega, rfl, by first | rfl | go_num, by first | exact (hK1.trans hq.kept).setCell hrw _ | exact ((hK1.trans hq.kept).drewN _).setCell hrw _, by first | exact HST.out _ hres.out _ hr3 | exact HST.out _ hres.out _ (((Kept.refl _).drewN _).row hr3)⟩
        · obtain rfl : j = n := by omega
          have hr3 := hr1.congr (g := fun a => .int .i64 (if a < i + 1 then trN j l a else 0)) (fun a _ => by
            by_cases e : a < i
            · simp [e, show a < i + 1 by omega]
            · by_cases e2 : a = i
              · subst e2; simp [trN]
              · simp [e, e2, show ¬ a < i + 1 by omega])
          go_wp2_with fail
          go_roundg (j - (i + 1))
          case measure => omega
          case rel => exact ⟨i + 1, by omega, rfl, by first | rfl | go_num, hK1, hr3⟩
    · obtain rfl : i = n := by omega
      have hr2 := hr.congr (g := fun j => .int .i64 (trN i l j)) (fun j hj => by simp [hj])
      go_wp2_with fail
      go_ret
      exact ⟨r, rfl, hrw, hK, hr2⟩
/-- what the signs of a string mean -/
def sgnS (s : ByteArray) (i : Nat) : Int := if chr s i = 45 then -1 else 1
theorem sgnS_row {n : Nat} {p : Nat → Bool} {i : Nat} (h : i < n) : sgnS (rowS n p) i = sg (p i) := by
  unfold sgnS
  rw [chr_rowS h]
  cases p i <;> rfl
theorem sgnS_le (s : ByteArray) (i : Nat) : -1 ≤ sgnS s i ∧ sgnS s i ≤ 1 := by unfold sgnS; split <;> omega
set_option maxRecDepth 100000 in
set_option maxHeartbeats 4000000 in
theorem signs_any (w : World) (s : ByteArray) (n : Nat) (hs : s.size = n) (hn : n ≤ 100) :
    Calls Tryd.prog 97 #[.string s] w (RowPost w n (sgnS s)) := by
  have hmk := mkInts (n : Int) n rfl (by omega)
  have hrow := World.rowIs_made w (.int .i64 0) n 3
  have hK0 : Kept w (w.alloc (.cells (madeCells #[.int .i64 0] n) 3)) := (Kept.refl w).alloc _
  go_enter Tryd.func97, Tryd.ntmps97
  go_wp2_with fail
  obtain ⟨r, HR⟩ : ∃ r, Hid (r = w.heap.size) := ⟨_, rfl⟩
  rw [← HR.out] at hrow ⊢
  have hrw : w.heap.size ≤ r := by rw [HR.out]; exact Nat.le_refl _
  have hrow2 := hrow.congr (g := fun j => .int .i64 (if j < 0 then sgnS s j else 0)) (fun j _ => rfl)
  generalize w.alloc (.cells (madeCells #[.int .i64 0] n) 3) = W0 at *
  clear hrow hmk
  go_loopg [10] n (fun g s10 wr => ∃ i : Nat, i ≤ n ∧ g = n - i ∧ s10 = .int .i64 i ∧ Kept w wr ∧ wr.rowIs r 3 n (fun j => .int .i64 (if j < i then sgnS s j else 0)))
  case atStart => exact ⟨0, Nat.zero_le _, rfl, rfl, hK0, hrow2⟩
  case round =>
    obtain ⟨i, hi, rfl, rfl, hK, hr⟩ := hrel
    clear hK0 hrow2
    by_cases hlt : i < n
    · have s2 : (i : Int) < (n : Int) := by omega
      have s3 : (0 : Int) ≤ (i : Int) := by omega
      have hat := chr_at (show i < s.size by omega)
      have x0 := hr.cell hlt
      have x1 := hr.frozen i
      simp only [Nat.lt_irrefl, if_false] at x0
      have hset1 := hr.set i (.int .i64 1)
      have y0 := hset1.cell hlt
      have y1 := hset1.frozen i
      simp only [if_true] at y0
      obtain ⟨c, HCC⟩ : ∃ c, Hid (c = chr s i) := ⟨_, rfl⟩
      rw [← HCC.out] at hat
      by_cases h45 : c = 45
      · have e1 : (c == 45) = true := by simp [h45]
        have hval : Hid (sgnS s i = -1) := by show _ = _; unfold sgnS; rw [← HCC.out, if_pos h45]
        have hset2 := (hset1.set i (.int .i64 (-1))).congr (g := fun j => .int .i64 (if j < i + 1 then sgnS s j else 0)) (fun j _ => by
          by_cases e : j = i
          · subst e; simp [hval.out]
          · simp only [e, if_false]
            by_cases e2 : j < i
            · simp [e2, show j < i + 1 by omega]
            · simp [e2, show ¬ j < i + 1 by omega])
        clear HCC hval hset1 h45
        go_wp2_with fail
        go_roundg (n - (i + 1))
        case measure => omega
        case rel => exact ⟨i + 1, by omega, rfl, by first | rfl | go_num, (hK.setCell hrw _).setCell hrw _, hset2⟩
      · have e1 : (c == 45) = false := by simpa using h45
        have hval : Hid (sgnS s i = 1) := by show _ = _; unfold sgnS; rw [← HCC.out, if_neg h45]
        have hset2 := hset1.congr (g := fun j => .int .i64 (if j < i + 1 then sgnS s j else 0)) (fun j _ => by
          by_cases e : j = i
          · subst e; simp [hval.out]
          · simp only [e, if_false]
            by_cases e2 : j < i
            · simp [e2, show j < i + 1 by omega]
            · simp [e2, show ¬ j < i + 1 by omega])
        clear HCC hval hset1 h45
        go_wp2_with fail
        go_roundg (n - (i + 1))
        case measure => omega
        case rel => exact ⟨i + 1, by omega, rfl, by first | rfl | go_num, hK.setCell hrw _, hset2⟩
    · obtain rfl : i = n := by omega
      have hr2 := hr.congr (g := fun j => .int .i64 (sgnS s j)) (fun j hj => by simp [hj])
      go_wp2_with fail
      go_ret
      exact ⟨r, rfl, hrw, hK, hr2⟩
/-- all squares are the length -/
def bentB (n : Nat) (t : Nat → Int) : Bool := allN (fun i => decide (t i * t i = (n : Int))) n
set_option maxRecDepth 100000 in
set_option maxHeartbeats 4000000 in
theorem isBent_any (w : World) (s : ByteArray) (n : Nat) (hs : s.size = n) (hn : n ≤ 64) :
    Calls Tryd.prog 72 #[.string s] w fun e w' => e = .returned (.bool (bentB n (trN n (sgnS s)))) ∧ Kept w w' := by
  have SN := Lib.hid (fun W => signs_any W s n hs (by omega))
  have TR := Lib.hid (fun W v (h : IntsAt W v n (sgnS s)) => transform_any W v n (sgnS s) h hn (fun j _ => by have := sgnS_le s j; omega))
  have HB := Lib.hid (fun i => trP_le (l := sgnS s) (c := 1) (i := i) (m := n) (fun j _ => sgnS_le s j))
  unfold RowPost at SN TR
  obtain ⟨f, HF⟩ : ∃ f : Nat → Int, Hid (f = trN n (sgnS s)) := ⟨_, rfl⟩
  have hf : Hid (∀ i, -64 ≤ f i ∧ f i ≤ 64) := fun i => by rw [HF.out]; have := HB.out i; unfold trN; omega
  rw [← HF.out] at TR ⊢
  clear HF HB
  go_enter Tryd.func72, Tryd.ntmps72
  go_wp2_with (first | (go_at_call 97; refine (SN.out _).mono ?_; rintro e w1 ⟨r1, rfl, hr1, hk1, hw1⟩) | (go_at_call 70; refine (TR.out _ _ (CellsAt.of_row hw1)).mono ?_; rintro e w2 ⟨r, rfl, hr2, hk2, hw2⟩))
  have HW := Lib.hid hw2
  have hK0 := hk1.trans hk2
  clear hw1 hw2 hk1 hk2 hr1 hr2 SN TR
  go_loopg [9] n (fun g s9 wr => ∃ i : Nat, i ≤ n ∧ g = n - i ∧ s9 = .int .i64 i ∧ w2 = wr ∧ Hid (allN (fun i => decide (f i * f i = (n : Int))) i = true))
  case atStart => exact ⟨0, Nat.zero_le _, rfl, rfl, rfl, rfl⟩
  case round =>
    obtain ⟨i, hi, rfl, rfl, rfl, hA⟩ := hrel
    by_cases hlt : i < n
    · have t0 := HW.out.cell hlt
      have s2 : (i : Int) < (n : Int) := by omega
      have s3 : (0 : Int) ≤ (i : Int) := by omega
      have hb := hf.out i
      have hyes : Hid (f i * f i = (n : Int) → allN (fun i => decide (f i * f i = (n : Int))) (i + 1) = true) := fun h => allN_step hA.out (decide_eq_true h)
      have hno : Hid (¬ f i * f i = (n : Int) → allN (fun i => decide (f i * f i = (n : Int))) n = false) := fun h => allN_false hlt (decide_eq_false h)
      obtain ⟨x, HX⟩ : ∃ x, Hid (x = f i) := ⟨_, rfl⟩
      rw [← HX.out] at t0 hb hyes hno
      have hsq := sq_bound (show -64 ≤ x by omega) (show x ≤ 64 by omega)
      obtain ⟨z, HZ⟩ : ∃ z, z = x * x := ⟨_, rfl⟩
      rw [← HZ] at hyes hno hsq
      have e1 : x * x = z := HZ.symm
      have w1' : IntKind.i64.wrap z = z := IntWalk.i64_in _ (by omega)
      have w2' : wrap64 z = z := IntWalk.wrap64_in _ (by omega)
      clear hA HX HZ
      by_cases hz : z = (n : Int)
      · have e2 : (z != (n : Int)) = false := by simp [hz]
        have hA2 := Lib.hid (hyes.out hz)
        clear hyes hno
        go_wp2_with fail
        go_roundg (n - (i + 1))
        case measure => omega
        case rel => exact ⟨i + 1, by omega, rfl, by first | rfl | go_num, rfl, hA2.out⟩
      · have e2 : (z != (n : Int)) = true := by simpa using hz
        have hA2 := Lib.hid (hno.out hz)
        clear hyes hno
        go_wp2_with fail
        go_ret
        exact ⟨ret_bool hA2.out.symm, hK0⟩
    · obtain rfl : i = n := by omega
      go_wp2_with fail
      go_ret
      exact ⟨ret_bool hA.out.symm, hK0⟩
end Go.Proofs.YtofgadehblpoiaaDoor
