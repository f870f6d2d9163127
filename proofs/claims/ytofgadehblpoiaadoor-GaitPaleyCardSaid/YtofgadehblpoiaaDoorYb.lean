/-
  Package gait: Sylvester's matrix.
-/
import Derived.Test.YtofgadehblpoiaaDoorYa
import Derived.Test.YtofgadehblpoiaaDoorGf
namespace Go.Proofs.YtofgadehblpoiaaDoor
open Go.RowKit Go.Deep Go.Shelf

theorem mkStrs (m : Int) (n : Nat) (h : m = n) (hn : n ≤ 1000000) (w : World) :
    (Instr.makeSlice 42 (.int .i64 m) (.int .i64 m)).run Tryd.prog w = .ok (.slice (some ⟨w.heap.size, 0, none⟩) n n) (w.alloc (.cells (madeCells #[.string ⟨#[]⟩] n) 9)) := by
  subst h
  exact run_make_row' (P := Tryd.prog) 42 9 (.string ⟨#[]⟩) 16 Tryd.underlying42 (by kernel_rfl) rfl .i64 .i64 n (by omega) (by omega) w
/-- the rows of Sylvester's matrix of N = 2^k rows -/
def sylS (N i : Nat) : ByteArray := rowS N (fun j => par i j)
/-- a new row of strings of the call's own -/
def SRowPost (w : World) (n : Nat) (S : Nat → ByteArray) (e : Ending) (w' : World) : Prop := ∃ r, e = .returned (.slice (some ⟨r, 0, none⟩) n n) ∧ w.heap.size ≤ r ∧ Kept w w' ∧ w'.rowIs r 9 n (fun i => .string (S i))
set_option maxRecDepth 100000 in
theorem sylvester1_any (W : World) (b i j : Nat) (hi : i < 128) (hj : j < 128) (hb : W.cell? ⟨b, 0, none⟩ = some (.int .i64 i)) :
    Calls Tryd.prog 92 #[.int .i64 (j : Int), .pointer (some ⟨b, 0, none⟩)] W fun e w' => e = .returned (.bool (par i j)) ∧ Quiet W w' := by
  have P := Lib.hid (fun W => isOdd_any W i j hi hj)
  go_enter Tryd.func92, Tryd.ntmps92
  go_wp2_with (first | (go_at_call 93; refine (P.out _).mono ?_; rintro e w1 ⟨rfl, hq⟩))
  go_ret
  exact ⟨rfl, hq⟩
set_option maxRecDepth 100000 in
set_option maxHeartbeats 4000000 in
theorem sylvester_any (w : World) (k : Nat) (hk : k ≤ 6) :
    Calls Tryd.prog 64 #[.int .i64 k] w (SRowPost w (2 ^ k) (sylS (2 ^ k))) := by
  have hN : 2 ^ k ≤ 64 := by have := Nat.pow_le_pow_right (n := 2) (by omega) hk; omega
  obtain ⟨N, HN⟩ : ∃ N : Nat, Hid (N = 2 ^ k) := ⟨2 ^ k, rfl⟩
  have e0 : (2 : Int) ^ k = (N : Int) := by rw [HN.out]; simp
  rw [← HN.out] at hN ⊢
  have hmk := mkStrs (N : Int) N rfl (by omega)
  have hrow := World.rowIs_made w (.string ⟨#[]⟩) N 9
  have hK0 : Kept w (w.alloc (.cells (madeCells #[.string ⟨#[]⟩] N) 9)) := (Kept.refl w).alloc _
  go_enter Tryd.func64, Tryd.ntmps64
  go_wp2_with fail
  obtain ⟨r, HR⟩ : ∃ r, Hid (r = w.heap.size) := ⟨_, rfl⟩
  rw [← HR.out] at hrow ⊢
  have hrw : w.heap.size ≤ r := by rw [HR.out]; exact Nat.le_refl _
  have hrow2 := hrow.congr (g := fun j => .string (if j < 0 then sylS N j else ⟨#[]⟩)) (fun j _ => rfl)
  generalize w.alloc (.cells (madeCells #[.string ⟨#[]⟩] N) 9) = W0 at *
  clear hrow hmk
  go_loopg [10] N (fun g s10 wr => ∃ i : Nat, i ≤ N ∧ g = N - i ∧ s10 = .int .i64 i ∧ Kept w wr ∧ wr.rowIs r 9 N (fun j => .string (if j < i then sylS N j else ⟨#[]⟩)))
  case atStart => exact ⟨0, Nat.zero_le _, rfl, rfl, hK0, hrow2⟩
  case round =>
    obtain ⟨i, hi, rfl, rfl, hK, hr⟩ := hrel
    clear hK0 hrow2
    by_cases hlt : i < N
    · have s2 : (i : Int) < (N : Int) := by omega
      have s3 : (0 : Int) ≤ (i : Int) := by omega
      have hbx := box_cell wr (.int .i64 i) 3
      have hKb : Kept wr (wr.alloc (.cells #[.int .i64 i] 3)) := (Kept.refl wr).alloc _
      have hrb := hKb.row hr
      have hKw := hK.trans hKb
      obtain ⟨bx, HBX⟩ : ∃ bx, Hid (bx = wr.heap.size) := ⟨_, rfl⟩
      have hsz : (wr.alloc (.cells #[.int .i64 i] 3)).heap.size = bx + 1 := by rw [HBX.out]; simp
      rw [← HBX.out] at hbx
      have RO := Lib.hid (fun W (hk : Kept (wr.alloc (.cells #[.int .i64 i] 3)) W) => rowOf_any W N 92 #[.pointer (some ⟨bx, 0, none⟩)] (fun j => par i j) (by omega) (enters_of Tryd.func92 (by kernel_rfl) rfl) (fun W2 j hj hk2 => sylvester1_any W2 _ i j (by omega) (by omega) ((hk.trans hk2).cellSome hbx)))
      obtain ⟨T, HT⟩ : ∃ T, Hid (T = sylS N i) := ⟨_, rfl⟩
      unfold RowOfPost at RO
      have hTT : rowS N (fun j => par i j) = T := HT.out.symm
      simp only [hTT] at RO
      have HSET := Lib.hid (fun (W : World) (h : W.rowIs r 9 N (fun j => .string (if j < i then sylS N j else ⟨#[]⟩))) => (h.set i (.string T)).congr (g := fun j => .string (if j < i + 1 then sylS N j else ⟨#[]⟩)) (fun j _ => by
        by_cases e : j = i
        · subst e; rw [HT.out]; simp
        · simp only [e, if_false]
          by_cases e2 : j < i
          · simp [e2, show j < i + 1 by omega]
          · simp [e2, show ¬ j < i + 1 by omega]))
      clear HT hTT
      have x0 := hrb.cell hlt
      have x1 := hrb.frozen i
      simp only [Nat.lt_irrefl, if_false] at x0
      go_wp2_with fail
      rw [← HBX.out]
      generalize wr.alloc (.cells #[.int .i64 i] 3) = Wb at *
      go_region_with (first | (go_at_call 91; refine (RO.out _ ((Kept.refl _).drewN _)).mono ?_; rintro e w1 ⟨rfl, hk1⟩; have hkk := ((Kept.refl Wb).drewN _).trans hk1; have hr1 := hkk.row hrb; have hbx1 := hkk.cellSome hbx; have y0 := hr1.cell hlt; have y1 := hr1.frozen i; simp only [Nat.lt_irrefl, if_false] at y0))
      all_goals
        go_wp2_with fail
        go_roundg (N - (i + 1))
        case measure => omega
        case rel => exact ⟨i + 1, by omega, rfl, by first | rfl | go_num, (hKw.trans hkk).setCell hrw _, HSET.out _ hr1⟩
    · obtain rfl : i = N := by omega
      have hr2 := hr.congr (g := fun j => .string (sylS i j)) (fun j hj => by simp [hj])
      go_wp2_with fail
      go_ret
      exact ⟨r, rfl, hrw, hK, hr2⟩
def SylAns (w : World) (k : Int) (e : Ending) (w' : World) : Prop :=
  Kept w w' ∧ if 0 ≤ k ∧ k ≤ 5 then ∃ r, e = .returned (.tuple #[.slice (some ⟨r, 0, none⟩) (2 ^ k.toNat) (2 ^ k.toNat), .int .i64 0]) ∧ w.heap.size ≤ r ∧ w'.rowIs r 9 (2 ^ k.toNat) (fun i => .string (sylS (2 ^ k.toNat) i)) else e = .returned (.tuple #[.slice none 0 0, .int .i64 1])
set_option maxRecDepth 100000 in
set_option maxHeartbeats 4000000 in
theorem Sylvester_any (w : World) (k : Int) : Calls Tryd.prog 27 #[.int .i64 k] w (SylAns w k) := by
  have IW := Lib.hid (fun W => isWithin_any W k 0 5)
  unfold SylAns
  by_cases h : 0 ≤ k ∧ k ≤ 5
  · rw [decide_eq_true h] at IW
    obtain ⟨n, rfl⟩ : ∃ n : Nat, k = n := ⟨k.toNat, by omega⟩
    have SY := Lib.hid (fun W => sylvester_any W n (by omega))
    have hc := Lib.hid h
    simp only [Int.toNat_natCast]
    unfold SRowPost at SY
    generalize 2 ^ n = N at *
    clear h
    go_enter Tryd.func27, Tryd.ntmps27
    go_wp2_with (first | (go_at_call 63; refine (IW.out _).mono ?_; rintro e w1 ⟨rfl, rfl⟩) | (go_at_call 64; refine (SY.out _).mono ?_; rintro e w2 ⟨r, rfl, hr1, hk2, hr2⟩))
    go_ret2
    exact ⟨hk2, by first | exact ⟨r, rfl, hr1, hr2⟩ | (rw [if_pos hc.out]; exact ⟨r, rfl, hr1, hr2⟩)⟩
  · rw [decide_eq_false h] at IW
    have hc := Lib.hid h
    clear h
    go_enter Tryd.func27, Tryd.ntmps27
    go_wp2_with (first | (go_at_call 63; refine (IW.out _).mono ?_; rintro e w1 ⟨rfl, rfl⟩))
    go_ret2
    exact ⟨Kept.refl _, by first | rfl | (rw [if_neg hc.out]; rfl)⟩
end Go.Proofs.YtofgadehblpoiaaDoor
