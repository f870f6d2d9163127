/-
  Package gait: legendre.
-/
import Derived.Test.YthigeafojekclaaDoorGd
namespace Go.Proofs.YthigeafojekclaaDoor
open Go.RowKit Go.Deep Go.Shelf

theorem Tryd.info4 : (Tryd.prog.info? 4).map (fun i => (i.zero, i.size, i.bytes)) = some (some (.bool false), 1, 1) := by kernel_rfl
theorem mkBools (m : Int) (n : Nat) (h : m = n) (hn : n ≤ 1000000) (w : World) :
    (Instr.makeSlice 103 (.int .i64 m) (.int .i64 m)).run Tryd.prog w = .ok (.slice (some ⟨w.heap.size, 0, none⟩) n n) (w.alloc (.cells (madeCells #[.bool false] n) 4)) := by
  subst h
  exact run_make_row' (P := Tryd.prog) 103 4 (.bool false) 1 Tryd.underlying103 Tryd.info4 rfl .i64 .i64 n (by omega) (by omega) w
/-- i is one of the first j squares modulo n -/
def sqB (n : Nat) : Nat → Nat → Bool
  | 0, _ => false
  | j + 1, i => sqB n j i || (j * j % n == i)
def legP (n i : Nat) : Bool := !sqB n n i
set_option maxRecDepth 100000 in
theorem legendre1_any (W : World) (r b n i : Nat) (Q : Nat → Bool) (hi : i < n) (hb : W.cell? ⟨b, 0, none⟩ = some (.slice (some ⟨r, 0, none⟩) n n)) (hr : W.rowIs r 4 n (fun i => .bool (Q i))) :
    Calls Tryd.prog 79 #[.int .i64 (i : Int), .pointer (some ⟨b, 0, none⟩)] W fun e w' => e = .returned (.bool (!Q i)) ∧ Quiet W w' := by
  have s2 : (i : Int) < (n : Int) := by omega
  have s3 : (0 : Int) ≤ (i : Int) := by omega
  have t0 := hr.cell hi
  generalize Q i = c at *
  go_enter Tryd.func79, Tryd.ntmps79
  go_wp2_with fail
  go_ret
  exact ⟨rfl, Quiet.refl _⟩
set_option maxRecDepth 100000 in
set_option maxHeartbeats 4000000 in
theorem legendre_any (w : World) (n : Nat) (hn1 : 1 ≤ n) (hn : n ≤ 1000) :
    Calls Tryd.prog 61 #[.int .i64 n] w (RowOfPost w n (legP n)) := by
  have hmk := mkBools (n : Int) n rfl (by omega)
  have hrow := World.rowIs_made w (.bool false) n 4
  have hk1 := (Kept.refl (w.alloc (.cells (madeCells #[.bool false] n) 4))).alloc (.cells #[.slice (some ⟨w.heap.size, 0, none⟩) n n] 103)
  have hrow1 := hk1.row hrow
  have hK0 := ((Kept.refl w).alloc (.cells (madeCells #[.bool false] n) 4)).trans hk1
  have hbx := box_cell (w.alloc (.cells (madeCells #[.bool false] n) 4)) (.slice (some ⟨w.heap.size, 0, none⟩) n n) 103
  rw [World.size_alloc] at hbx
  go_enter Tryd.func61, Tryd.ntmps61
  go_wp2_with fail
  obtain ⟨r, HR⟩ : ∃ r, Hid (r = w.heap.size) := ⟨_, rfl⟩
  rw [← HR.out] at hrow1 hbx hK0 ⊢
  have hrw : w.heap.size ≤ r := by rw [HR.out]; exact Nat.le_refl _
  obtain ⟨b, HBX⟩ : ∃ b, Hid (b = r + 1) := ⟨_, rfl⟩
  have hrb : r < b := by rw [HBX.out]; omega
  have hrow2 := hrow1.congr (g := fun j => .bool (sqB n 0 j)) (fun j _ => rfl)
  rw [← HBX.out] at hbx ⊢
  generalize (w.alloc (.cells (madeCells #[.bool false] n) 4)).alloc (.cells #[.slice (some ⟨r, 0, none⟩) n n] 103) = W0 at *
  clear hrow hrow1 hmk hk1
  go_loopg [8] n (fun g s8 wr => ∃ j : Nat, j ≤ n ∧ g = n - j ∧ s8 = .int .i64 j ∧ Kept w wr ∧ wr.rowIs r 4 n (fun i => .bool (sqB n j i)) ∧ wr.cell? ⟨b, 0, none⟩ = some (.slice (some ⟨r, 0, none⟩) n n))
  case atStart => exact ⟨0, Nat.zero_le _, rfl, rfl, hK0, hrow2, hbx⟩
  case round =>
    obtain ⟨j, hj, rfl, rfl, hK, hr, hx⟩ := hrel
    clear hK0 hrow2 hbx
    by_cases hlt : j < n
    · have s2 : (j : Int) < (n : Int) := by omega
      have s0 : ¬ (n : Int) = 0 := by omega
      have hjj : j * j < n * n := Nat.mul_lt_mul'' hlt hlt
      have hnn : n * n ≤ 1000 * 1000 := Nat.mul_le_mul hn hn
      obtain ⟨q, HQ⟩ : ∃ q : Nat, Hid (q = j * j % n) := ⟨_, rfl⟩
      have hq : q < n := by rw [HQ.out]; exact Nat.mod_lt _ (by omega)
      have hcast : (j : Int) * (j : Int) = ((j * j : Nat) : Int) := by simp
      have hw : wrap64 ((j : Int) * (j : Int)) = (j : Int) * (j : Int) := by rw [hcast]; exact IntWalk.wrap64_in _ (by omega)
      have e1 : Int.tmod ((j : Int) * (j : Int)) (n : Int) = (q : Int) := by rw [HQ.out, hcast]; exact (Int.ofNat_tmod (j * j) n).symm
      have s4 : (q : Int) < (n : Int) := by omega
      have s5 : (0 : Int) ≤ (q : Int) := by omega
      have x0 := hr.cell hq
      have x1 := hr.frozen q
      have hset := (hr.set q (.bool true)).congr (g := fun i => .bool (sqB n (j + 1) i)) (fun i _ => by
        simp only [sqB]
        rw [← HQ.out]
        by_cases e : i = q
        · subst e; simp
        · have e2 : (q == i) = false := by simp; omega
          simp [e, e2])
      have hK2 : Kept w (wr.setCell ⟨r, q, none⟩ (.bool true)) := hK.setCell hrw _
      have hx2 : (wr.setCell ⟨r, q, none⟩ (.bool true)).cell? ⟨b, 0, none⟩ = some (.slice (some ⟨r, 0, none⟩) n n) := by
        rw [World.cell?_setCell_other _ _ _ _ (by simp <;> omega)]; exact hx
      clear hjj hnn HQ hcast
      go_wp2_with fail
      go_region
      all_goals
        go_wp2_with fail
        go_roundg (n - (j + 1))
        case measure => omega
        case rel => exact ⟨j + 1, by omega, rfl, by first | rfl | go_num, (by repeat (first | assumption | exact Kept.refl _ | apply Kept.drew | apply Kept.drewN | apply Kept.alloc | refine Kept.trans ?_ (by assumption))), by first | exact hset.drewN _ | exact hset.drew, by first | (rw [World.cell?_drewN]; exact hx2) | (rw [World.cell?_drew]; exact hx2)⟩
    · obtain rfl : j = n := by omega
      have RO := Lib.hid (rowOf_any wr j 79 #[.pointer (some ⟨b, 0, none⟩)] (legP j) hn (enters_of Tryd.func79 (by kernel_rfl) rfl) (fun W i hi hk => legendre1_any W r b j i (sqB j j) hi (hk.cellSome hx) (hk.row hr)))
      go_wp2_with (first | (go_at_call 62; refine RO.out.mono ?_; rintro e w1 ⟨rfl, hk1⟩))
      go_ret
      exact ⟨rfl, hK.trans hk1⟩
end Go.Proofs.YthigeafojekclaaDoor
