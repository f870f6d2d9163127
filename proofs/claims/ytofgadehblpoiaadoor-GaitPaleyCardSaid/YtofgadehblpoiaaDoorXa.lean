/-
  Package gait: matrixError, isRight, normal, Right, Normal.
-/
import Derived.Test.YtofgadehblpoiaaDoorYr
import Derived.Test.YtofgadehblpoiaaDoorYb
import Derived.Test.YtofgadehblpoiaaDoorGi
namespace Go.Proofs.YtofgadehblpoiaaDoor
open Go.RowKit Go.Deep Go.Shelf

/-- what is wrong with a matrix -/
def matC (n : Nat) (S : Nat → ByteArray) : Int := if 32 < n then 3 else if n = 0 then 2 else if rowsC n S = 0 then (if allN (fun i => decide ((S i).size = n)) n then 0 else 2) else rowsC n S
theorem rowsC_sizes {n : Nat} {S : Nat → ByteArray} (h : rowsC n S = 0) : ∀ i, i < n → 1 ≤ (S i).size ∧ (S i).size ≤ 64 ∧ allSg (S i) = true := by
  unfold rowsC at h
  cases h1 : allN (fun i => decide ((S i).size ≤ 64)) n with
  | false => rw [h1] at h; cases h
  | true =>
    cases h2 : allN (fun i => okS (S i)) n with
    | false => rw [h1, h2] at h; cases h
    | true =>
      intro i hi
      have a1 := allN_true.1 h1 i hi
      have a2 := allN_true.1 h2 i hi
      unfold okS at a2
      simp at a1 a2
      exact ⟨by omega, a1, a2.2⟩
theorem matC_good {n : Nat} {S : Nat → ByteArray} (h : matC n S = 0) : 1 ≤ n ∧ n ≤ 32 ∧ rowsC n S = 0 ∧ ∀ i, i < n → S i = rowS n (mn (S i)) := by
  unfold matC at h
  split at h
  · cases h
  · split at h
    · cases h
    · split at h
      · rename_i h1 h2 h3
        refine ⟨by omega, by omega, h3, fun i hi => ?_⟩
        split at h
        · rename_i h4
          have e : (S i).size = n := by simpa using allN_true.1 h4 i hi
          have := row_of (rowsC_sizes h3 i hi).2.2
          rw [e] at this
          exact this
        · cases h
      · rename_i h3; exact absurd h h3
set_option maxRecDepth 100000 in
set_option maxHeartbeats 4000000 in
theorem matrixError_any (w : World) (v : Value) (n : Nat) (S : Nat → ByteArray) (hV : StrsAt w v n S) (hn : n ≤ 1000000) (hS : ∀ i, i < n → (S i).size ≤ 9223372036854775807) :
    Calls Tryd.prog 66 #[v] w fun e w' => e = .returned (.int .i64 (matC n S)) ∧ Kept w w' := by
  have RE := Lib.hid (fun W (h : StrsAt W v n S) => rowsError_any W v n S h hn hS)
  unfold RowsPost at RE
  have HV := Lib.hid hV
  obtain ⟨a, b, o, cap, rfl, ha, hc⟩ := hV
  have HC := Lib.hid hc
  clear hc
  by_cases h32 : 32 < n
  · have hcd : Hid (matC n S = 3) := by show _ = _; unfold matC; rw [if_pos h32]
    have s1 : (32 : Int) < (n : Int) := by omega
    go_enter Tryd.func66, Tryd.ntmps66
    go_wp2_with fail
    go_ret
    exact ⟨ret_int hcd.out.symm, Kept.refl _⟩
  · have s1 : ¬ (32 : Int) < (n : Int) := by omega
    by_cases h0 : n = 0
    · subst h0
      have hcd : Hid (matC 0 S = 2) := by show _ = _; rfl
      clear h32
      go_enter Tryd.func66, Tryd.ntmps66
      go_wp2_with fail
      go_ret
      exact ⟨ret_int hcd.out.symm, Kept.refl _⟩
    · have s2 : ((n : Int) == 0) = false := by rw [beq_eq_false_iff_ne]; omega
      by_cases hr : rowsC n S = 0
      · have hcd : Hid (matC n S = if allN (fun i => decide ((S i).size = n)) n then 0 else 2) := by show _ = _; unfold matC; rw [if_neg h32, if_neg h0, if_pos hr]
        rw [hr] at RE
        clear hr
        go_enter Tryd.func66, Tryd.ntmps66
        go_wp2_with (first | (go_at_call 52; refine (RE.out _ HV.out).mono ?_; rintro e w1 ⟨rfl, hk1⟩))
        go_loopg [19] n (fun g s19 wr => ∃ i : Nat, i ≤ n ∧ g = n - i ∧ s19 = .int .i64 i ∧ w1 = wr ∧ Hid (allN (fun i => decide ((S i).size = n)) i = true))
        case atStart => exact ⟨0, Nat.zero_le _, rfl, rfl, rfl, rfl⟩
        case round =>
          obtain ⟨i, hi, rfl, rfl, rfl, hA⟩ := hrel
          by_cases hlt : i < n
          · obtain rfl := ha (by omega)
            have t0 := hk1.cellSome (HC.out i hlt)
            (try dsimp only at t0)
            have s3 : (i : Int) < (n : Int) := by omega
            have s4 : (0 : Int) ≤ (i : Int) := by omega
            by_cases he : (S i).size = n
            · have hA2 : Hid (allN (fun i => decide ((S i).size = n)) (i + 1) = true) := allN_step hA.out (decide_eq_true he)
              have e1 : (((S i).size : Int) != (n : Int)) = false := by simp [he]
              clear hA he
              generalize S i = s at *
              go_wp2_with fail
              go_roundg (n - (i + 1))
              case measure => omega
              case rel => exact ⟨i + 1, by omega, rfl, by first | rfl | go_num, rfl, hA2.out⟩
            · have hbad : Hid (matC n S = 2) := by show _ = _; rw [hcd.out, allN_false hlt (decide_eq_false he)]; rfl
              have e1 : (((S i).size : Int) != (n : Int)) = true := by simp; omega
              clear hA he
              generalize S i = s at *
              go_wp2_with fail
              go_ret
              exact ⟨ret_int hbad.out.symm, hk1⟩
          · obtain rfl : i = n := by omega
            have hgood : Hid (matC i S = 0) := by show _ = _; rw [hcd.out, hA.out]; rfl
            go_wp2_with fail
            go_ret
            exact ⟨ret_int hgood.out.symm, hk1⟩
      · have hcd : Hid (matC n S = rowsC n S) := by show _ = _; unfold matC; rw [if_neg h32, if_neg h0, if_neg hr]
        have e1 : (rowsC n S != 0) = true := by simpa using hr
        obtain ⟨c, HCC⟩ : ∃ c, Hid (c = rowsC n S) := ⟨_, rfl⟩
        rw [← HCC.out] at RE e1 hcd
        clear hr
        go_enter Tryd.func66, Tryd.ntmps66
        go_wp2_with (first | (go_at_call 52; refine (RE.out _ HV.out).mono ?_; rintro e w1 ⟨rfl, hk1⟩))
        go_ret
        exact ⟨ret_int hcd.out.symm, hk1⟩
/-- the rows are at right angles -/
def rgtR (n : Nat) (M : Nat → Nat → Bool) (i : Nat) : Bool := allN (fun k => decide (lkN (M i) (M k) n = 0)) i
def rgtB (n : Nat) (M : Nat → Nat → Bool) : Bool := allN (rgtR n M) n
theorem rgtB_iff {n : Nat} {M : Nat → Nat → Bool} : rgtB n M = true ↔ Rgt n M := by
  unfold rgtB Rgt
  rw [allN_true]
  constructor
  · intro h i k hk hi
    have h1 := h i hi
    unfold rgtR at h1
    exact of_decide_eq_true (allN_true.1 h1 k hk)
  · intro h i hi
    unfold rgtR
    rw [allN_true]
    exact fun k hk => decide_eq_true (h i k hk hi)
set_option maxRecDepth 100000 in
set_option maxHeartbeats 4000000 in
theorem isRight_any (w : World) (v : Value) (n : Nat) (M : Nat → Nat → Bool) (hV : StrsAt w v n (fun i => rowS n (M i))) (hn : n ≤ 100) :
    Calls Tryd.prog 67 #[v] w fun e w' => e = .returned (.bool (rgtB n M)) ∧ Quiet w w' := by
  obtain ⟨a, b, o, cap, rfl, ha, hc⟩ := hV
  have HC := Lib.hid hc
  have LK := Lib.hid (fun W i k => show Calls Tryd.prog 83 #[.string (rowS n (M i)), .string (rowS n (M k))] W fun e w' => e = .returned (.int .i64 (lkN (M i) (M k) n)) ∧ Quiet W w' by
    have h := likeness_any W (rowS n (M i)) (rowS n (M k)) (by rw [rowS_size, rowS_size]; exact Nat.le_refl _) (by rw [rowS_size]; omega)
    rw [rowS_size, lkS_rows (Nat.le_refl _) (Nat.le_refl _)] at h
    exact h)
  clear hc
  go_enter Tryd.func67, Tryd.ntmps67
  go_wp2_with fail
  go_loopg [7] n (fun g s7 wr => ∃ i : Nat, i ≤ n ∧ g = n - i ∧ s7 = .int .i64 i ∧ Quiet w wr ∧ Hid (allN (rgtR n M) i = true))
  case atStart => exact ⟨0, Nat.zero_le _, rfl, rfl, Quiet.refl _, rfl⟩
  case round =>
    obtain ⟨i, hi, rfl, rfl, hQ, hA⟩ := hrel
    by_cases hlt : i < n
    · obtain rfl := ha (by omega)
      have s3 : (i : Int) < (n : Int) := by omega
      have s4 : (0 : Int) ≤ (i : Int) := by omega
      obtain ⟨Wo, rfl⟩ : ∃ Wo : World, Wo = wr := ⟨_, rfl⟩
      go_wp2_with fail
      go_loopg [11] i (fun g s11 wi => ∃ k : Nat, k ≤ i ∧ g = i - k ∧ s11 = .int .i64 k ∧ Quiet Wo wi ∧ Hid (allN (fun k => decide (lkN (M i) (M k) n = 0)) k = true))
      case atStart => exact ⟨0, Nat.zero_le _, rfl, rfl, Quiet.refl _, rfl⟩
      case round =>
        obtain ⟨k, hk, rfl, rfl, hQ2, hB⟩ := hrel
        by_cases hlt2 : k < i
        · have s5 : (k : Int) < (i : Int) := by omega
          have s6 : (0 : Int) ≤ (k : Int) := by omega
          have s7 : (k : Int) < (n : Int) := by omega
          have t0 := hQ2.kept.cellSome (hQ.kept.cellSome (HC.out i hlt))
          have t1 := hQ2.kept.cellSome (hQ.kept.cellSome (HC.out k (by omega)))
          (try dsimp only at t0 t1)
          have LKx := Lib.hid (fun W => LK.out W i k)
          have hyes : Hid (lkN (M i) (M k) n = 0 → allN (fun k => decide (lkN (M i) (M k) n = 0)) (k + 1) = true) := fun h => allN_step hB.out (decide_eq_true h)
          have hno : Hid (¬ lkN (M i) (M k) n = 0 → rgtB n M = false) := fun h => allN_false hlt (allN_false hlt2 (decide_eq_false h))
          generalize lkN (M i) (M k) n = x at *
          generalize rowS n (M i) = R1 at *
          generalize rowS n (M k) = R2 at *
          clear hB
          by_cases hx : x = 0
          · have e1 : (x != 0) = false := by simp [hx]
            have hB2 := Lib.hid (hyes.out hx)
            clear hyes hno hx
            go_wp2_with fail
            go_quiet ((go_at_call 83; exact quietQ (LKx.out _)))
            go_wp2_with fail
            go_roundg (i - (k + 1))
            case measure => omega
            case rel => exact ⟨k + 1, by omega, rfl, by first | rfl | go_num, hQ2.drewN _, hB2.out⟩
          · have e1 : (x != 0) = true := by simpa using hx
            have hB2 := Lib.hid (hno.out hx)
            clear hyes hno hx
            go_wp2_with fail
            go_quiet ((go_at_call 83; exact quietQ (LKx.out _)))
            go_wp2_with fail
            go_ret
            obtain ⟨m1, rfl⟩ := hQ
            obtain ⟨m2, rfl⟩ := hQ2
            exact ⟨ret_bool hB2.out.symm, ⟨_, by simp; rfl⟩⟩
        · obtain rfl : k = i := by omega
          have s5 : ¬ (k : Int) < (k : Int) := by omega
          have hA2 : Hid (allN (rgtR n M) (k + 1) = true) := allN_step hA.out hB.out
          obtain ⟨m1, rfl⟩ := hQ
          obtain ⟨m2, rfl⟩ := hQ2
          clear hA hB
          go_wp2_with fail
          go_roundg (n - (k + 1))
          case measure => omega
          case rel => exact ⟨k + 1, by omega, rfl, by first | rfl | go_num, ⟨m1 + m2, by simp⟩, hA2.out⟩
    · obtain rfl : i = n := by omega
      go_wp2_with fail
      go_ret
      exact ⟨ret_bool hA.out.symm, hQ⟩
/-- the matrix with a first row and a first column of one sign -/
def norP (M : Nat → Nat → Bool) (i j : Nat) : Bool := (M i j ^^ M 0 j) ^^ (M i 0 ^^ M 0 0)
def norS (n : Nat) (M : Nat → Nat → Bool) (i : Nat) : ByteArray := rowS n (norP M i)
theorem prodS (n : Nat) (p q : Nat → Bool) : rowS n (fun j => chr (rowS n p) j != chr (rowS n q) j) = rowS n (fun j => p j ^^ q j) :=
  rowS_congr fun i hi => by rw [chr_rowS hi, chr_rowS hi]; cases p i <;> cases q i <;> rfl
theorem chgS (n : Nat) (p : Nat → Bool) : rowS n (fun j => chr (rowS n p) j == 43) = rowS n (fun j => !p j) :=
  rowS_congr fun i hi => by rw [chr_rowS hi]; cases p i <;> rfl
set_option maxRecDepth 100000 in
set_option maxHeartbeats 8000000 in
theorem normal_any (w : World) (v : Value) (n : Nat) (M : Nat → Nat → Bool) (hV : StrsAt w v n (fun i => rowS n (M i))) (hn1 : 1 ≤ n) (hn : n ≤ 100) :
    Calls Tryd.prog 68 #[v] w (SRowPost w n (norS n M)) := by
  obtain ⟨a, b, o, cap, rfl, ha, hc⟩ := hV
  have HC := Lib.hid hc
  obtain rfl := ha (by omega)
  have hmk := mkStrs (n : Int) n rfl (by omega)
  have hrow := World.rowIs_made w (.string ⟨#[]⟩) n 9
  have hK0 : Kept w (w.alloc (.cells (madeCells #[.string ⟨#[]⟩] n) 9)) := (Kept.refl w).alloc _
  have PR := Lib.hid (fun W i => show Calls Tryd.prog 94 #[.string (rowS n (M i)), .string (rowS n (M 0))] W (RowOfPost W n (fun j => M i j ^^ M 0 j)) by
    have h := product_any W (rowS n (M i)) (rowS n (M 0)) (by rw [rowS_size]; omega) (by rw [rowS_size, rowS_size]; exact Nat.le_refl _)
    unfold RowOfPost at h ⊢
    rw [rowS_size, prodS] at h
    exact h)
  have CH := Lib.hid (fun W (p : Nat → Bool) => show Calls Tryd.prog 78 #[.string (rowS n p)] W (RowOfPost W n (fun j => !p j)) by
    have h := changed_any W (rowS n p) (by rw [rowS_size]; omega)
    unfold RowOfPost at h ⊢
    rw [rowS_size, chgS] at h
    exact h)
  unfold RowOfPost at PR CH
  clear hc
  go_enter Tryd.func68, Tryd.ntmps68
  go_wp2_with fail
  obtain ⟨r, HR⟩ : ∃ r, Hid (r = w.heap.size) := ⟨_, rfl⟩
  rw [← HR.out] at hrow ⊢
  have hrw : w.heap.size ≤ r := by rw [HR.out]; exact Nat.le_refl _
  have hrow2 := hrow.congr (g := fun j => .string (if j < 0 then norS n M j else ⟨#[]⟩)) (fun j _ => rfl)
  generalize w.alloc (.cells (madeCells #[.string ⟨#[]⟩] n) 9) = W0 at *
  clear hrow hmk
  go_loopg [11] n (fun g s11 wr => ∃ i : Nat, i ≤ n ∧ g = n - i ∧ s11 = .int .i64 i ∧ Kept w wr ∧ wr.rowIs r 9 n (fun j => .string (if j < i then norS n M j else ⟨#[]⟩)))
  case atStart => exact ⟨0, Nat.zero_le _, rfl, rfl, hK0, hrow2⟩
  case round =>
    obtain ⟨i, hi, rfl, rfl, hK, hr⟩ := hrel
    clear hK0 hrow2
    by_cases hlt : i < n
    · have s3 : (i : Int) < (n : Int) := by omega
      have s4 : (0 : Int) ≤ (i : Int) := by omega
      have s5 : (0 : Int) < (n : Int) := by omega
      have t0 := hK.cellSome (HC.out i hlt)
      have t1 := hK.cellSome (HC.out 0 (by omega))
      (try dsimp only at t0 t1)
      rw [Nat.add_zero] at t1
      have x0 := hr.cell hlt
      have x1 := hr.frozen i
      simp only [Nat.lt_irrefl, if_false] at x0
      obtain ⟨p, HP⟩ : ∃ p : Nat → Bool, Hid (p = fun j => M i j ^^ M 0 j) := ⟨_, rfl⟩
      have PRi := Lib.hid (fun W => PR.out W i)
      rw [← HP.out] at PRi
      have CHi := Lib.hid (fun W => CH.out W p)
      have hTs : (rowS n p).size = n := rowS_size _ _
      have hch := chr_rowS (p := p) (show 0 < n by omega)
      have hp0 : Hid (p 0 = (M i 0 ^^ M 0 0)) := by show _ = _; rw [HP.out]
      have HST := Lib.hid (fun (W : World) (X Y : ByteArray) (hX : norS n M i = X) (h : W.rowIs r 9 n (fun j => .string (if j = i then Y else if j < i then norS n M j else ⟨#[]⟩))) => (h.set i (.string X)).congr (g := fun j => .string (if j < i + 1 then norS n M j else ⟨#[]⟩)) (fun j _ => by
        by_cases e : j = i
        · subst e; rw [hX]; simp
        · simp only [e, if_false]
          by_cases e2 : j < i
          · simp [e2, show j < i + 1 by omega]
          · simp [e2, show ¬ j < i + 1 by omega]))
      have HS1 := Lib.hid (fun (W : World) (Y : ByteArray) (h : W.rowIs r 9 n (fun j => .string (if j < i then norS n M j else ⟨#[]⟩))) => (h.set i (.string Y)).congr (g := fun j => .string (if j = i then Y else if j < i then norS n M j else ⟨#[]⟩)) (fun j _ => by
        by_cases e : j = i
        · simp [e]
        · simp [e]))
      have HS2 := Lib.hid (fun (W : World) (Y : ByteArray) (hY : norS n M i = Y) (h : W.rowIs r 9 n (fun j => .string (if j = i then Y else if j < i then norS n M j else ⟨#[]⟩))) => h.congr (g := fun j => .string (if j < i + 1 then norS n M j else ⟨#[]⟩)) (fun j _ => by
        by_cases e : j = i
        · subst e; rw [hY]; simp
        · simp only [e, if_false]
          by_cases e2 : j < i
          · simp [e2, show j < i + 1 by omega]
          · simp [e2, show ¬ j < i + 1 by omega]))
      cases hb : p 0 with
      | false =>
        rw [hb] at hch hp0
        simp only [Bool.false_eq_true, if_false] at hch
        have hfin : Hid (norS n M i = rowS n p) := by
          show _ = _
          unfold norS
          refine rowS_congr fun j hj => ?_
          unfold norP
          rw [← hp0.out, HP.out, Bool.xor_false]
        generalize rowS n p = T at *
        have hat := chr_at (s := T) (i := 0) (by omega)
        rw [hch] at hat
        clear HP hb hch
        go_wp2_with (first | (go_at_call 94; refine (PRi.out _).mono ?_; rintro e w1 ⟨rfl, hk1⟩; have hr1 := hk1.row hr; have y0 := hr1.cell hlt; have y1 := hr1.frozen i; simp only [Nat.lt_irrefl, if_false] at y0; have hr2 := HS1.out _ T hr1; have z0 := hr2.cell hlt; have z1 := hr2.frozen i; simp only [if_true] at z0))
        go_roundg (n - (i + 1))
        case measure => omega
        case rel => exact ⟨i + 1, by omega, rfl, by first | rfl | go_num, (hK.trans hk1).setCell hrw _, HS2.out _ T hfin.out hr2⟩
      | true =>
        rw [hb] at hch hp0
        simp only [if_true] at hch
        have hfin : Hid (norS n M i = rowS n (fun j => !p j)) := by
          show _ = _
          unfold norS
          refine rowS_congr fun j hj => ?_
          unfold norP
          rw [← hp0.out, HP.out, Bool.xor_true]
        generalize rowS n (fun j => !p j) = T2 at *
        generalize rowS n p = T at *
        have hat := chr_at (s := T) (i := 0) (by omega)
        rw [hch] at hat
        clear HP hb hch
        go_wp2_with (first | (go_at_call 94; refine (PRi.out _).mono ?_; rintro e w1 ⟨rfl, hk1⟩; have hr1 := hk1.row hr; have y0 := hr1.cell hlt; have y1 := hr1.frozen i; simp only [Nat.lt_irrefl, if_false] at y0; have hr2 := HS1.out _ T hr1; have z0 := hr2.cell hlt; have z1 := hr2.frozen i; simp only [if_true] at z0; have hkk := (hK.trans hk1).setCell (p := ⟨r, i, none⟩) hrw (.string T)) | (go_at_call 78; refine (CHi.out _).mono ?_; rintro e w2 ⟨rfl, hk2⟩; have hr3 := hk2.row hr2; have u0 := hr3.cell hlt; have u1 := hr3.frozen i; simp only [if_true] at u0))
        go_roundg (n - (i + 1))
        case measure => omega
        case rel => exact ⟨i + 1, by omega, rfl, by first | rfl | go_num, (hkk.trans hk2).setCell hrw _, HST.out _ T2 T hfin.out hr3⟩
    · obtain rfl : i = n := by omega
      have hr2 := hr.congr (g := fun j => .string (norS i M j)) (fun j hj => by simp [hj])
      go_wp2_with fail
      go_ret
      exact ⟨r, rfl, hrw, hK, hr2⟩
def RgtAns (w : World) (n : Nat) (S : Nat → ByteArray) (e : Ending) (w' : World) : Prop := Kept w w' ∧ e = .returned (.tuple #[.bool (decide (matC n S = 0) && rgtB n (fun i => mn (S i))), .int .i64 (matC n S)])
set_option maxRecDepth 100000 in
set_option maxHeartbeats 4000000 in
theorem Right_any (w : World) (v : Value) (n : Nat) (S : Nat → ByteArray) (hV : StrsAt w v n S) (hn : n ≤ 1000000) (hS : ∀ i, i < n → (S i).size ≤ 9223372036854775807) :
    Calls Tryd.prog 31 #[v] w (RgtAns w n S) := by
  have ME := Lib.hid (matrixError_any w v n S hV hn hS)
  unfold RgtAns
  by_cases h0 : matC n S = 0
  · have hg := matC_good h0
    have hV2 : StrsAt w v n (fun i => rowS n (mn (S i))) := CellsAt.congr hV (fun i hi => congrArg Value.string (hg.2.2.2 i hi))
    have IR := Lib.hid (fun W (h : StrsAt W v n (fun i => rowS n (mn (S i)))) => isRight_any W v n (fun i => mn (S i)) h (by omega))
    rw [h0, decide_eq_true (rfl : (0 : Int) = 0), Bool.true_and]
    rw [h0] at ME
    generalize rgtB n (fun i => mn (S i)) = bb at *
    clear h0 hg hV
    go_enter Tryd.func31, Tryd.ntmps31
    go_wp2_with (first | (go_at_call 66; refine ME.out.mono ?_; rintro e w1 ⟨rfl, hk1⟩) | (go_at_call 67; refine (IR.out _ (hV2.kept hk1)).mono ?_; rintro e w2 ⟨rfl, hq2⟩))
    go_ret2
    exact ⟨hk1.trans hq2.kept, rfl⟩
  · have e1 : (matC n S != 0) = true := by simpa using h0
    rw [decide_eq_false h0, Bool.false_and]
    generalize matC n S = c at *
    clear h0
    go_enter Tryd.func31, Tryd.ntmps31
    go_wp2_with (first | (go_at_call 66; refine ME.out.mono ?_; rintro e w1 ⟨rfl, hk1⟩))
    go_ret2
    exact ⟨hk1, rfl⟩
def NorAns (w : World) (n : Nat) (S : Nat → ByteArray) (e : Ending) (w' : World) : Prop :=
  Kept w w' ∧ if matC n S = 0 then ∃ r, e = .returned (.tuple #[.slice (some ⟨r, 0, none⟩) n n, .int .i64 0]) ∧ w.heap.size ≤ r ∧ w'.rowIs r 9 n (fun i => .string (norS n (fun i => mn (S i)) i)) else e = .returned (.tuple #[.slice none 0 0, .int .i64 (matC n S)])
theorem NorAns.good {w w' : World} {n : Nat} {S : Nat → ByteArray} {e : Ending} (hk : Kept w w') (h : matC n S = 0) (he : ∃ r, e = .returned (.tuple #[.slice (some ⟨r, 0, none⟩) n n, .int .i64 0]) ∧ w.heap.size ≤ r ∧ w'.rowIs r 9 n (fun i => .string (norS n (fun i => mn (S i)) i))) : NorAns w n S e w' := ⟨hk, by rw [if_pos h]; exact he⟩
theorem NorAns.bad {w w' : World} {n : Nat} {S : Nat → ByteArray} {e : Ending} {c : Int} (hk : Kept w w') (h : matC n S = c) (h0 : c ≠ 0) (he : e = .returned (.tuple #[.slice none 0 0, .int .i64 c])) : NorAns w n S e w' := ⟨hk, by rw [if_neg (by rw [h]; exact h0), h]; exact he⟩
set_option maxRecDepth 100000 in
set_option maxHeartbeats 4000000 in
theorem Normal_any (w : World) (v : Value) (n : Nat) (S : Nat → ByteArray) (hV : StrsAt w v n S) (hn : n ≤ 1000000) (hS : ∀ i, i < n → (S i).size ≤ 9223372036854775807) :
    Calls Tryd.prog 32 #[v] w (NorAns w n S) := by
  have ME := Lib.hid (matrixError_any w v n S hV hn hS)
  by_cases h0 : matC n S = 0
  · have hg := matC_good h0
    have hV2 : StrsAt w v n (fun i => rowS n (mn (S i))) := CellsAt.congr hV (fun i hi => congrArg Value.string (hg.2.2.2 i hi))
    have NO := Lib.hid (fun W (h : StrsAt W v n (fun i => rowS n (mn (S i)))) => normal_any W v n (fun i => mn (S i)) h hg.1 (by omega))
    unfold SRowPost at NO
    have H0 := Lib.hid h0
    rw [h0] at ME
    clear h0 hg hV
    go_enter Tryd.func32, Tryd.ntmps32
    go_wp2_with (first | (go_at_call 66; refine ME.out.mono ?_; rintro e w1 ⟨rfl, hk1⟩) | (go_at_call 68; refine (NO.out _ (hV2.kept hk1)).mono ?_; rintro e w2 ⟨r, rfl, hr1, hk2, hr2⟩))
    go_ret2
    exact NorAns.good (hk1.trans hk2) H0.out ⟨r, rfl, by have := hk1.size; omega, hr2⟩
  · have e1 : (matC n S != 0) = true := by simpa using h0
    obtain ⟨c, HCC⟩ : ∃ c, Hid (c = matC n S) := ⟨_, rfl⟩
    rw [← HCC.out] at ME e1
    have hc0 : c ≠ 0 := by rw [HCC.out]; exact h0
    clear h0
    go_enter Tryd.func32, Tryd.ntmps32
    go_wp2_with (first | (go_at_call 66; refine ME.out.mono ?_; rintro e w1 ⟨rfl, hk1⟩))
    go_ret2
    exact NorAns.bad hk1 HCC.out.symm hc0 rfl
end Go.Proofs.YtofgadehblpoiaaDoor
