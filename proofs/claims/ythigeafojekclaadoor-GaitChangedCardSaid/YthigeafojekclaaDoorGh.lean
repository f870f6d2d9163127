/-
  Package gait: likenesses, likenessesAround.
-/
import Derived.Test.YthigeafojekclaaDoorGf
import Derived.Deep.RegionWith
namespace Go.Proofs.YthigeafojekclaaDoor
open Go.RowKit Go.Deep Go.Shelf

theorem Tryd.info3 : (Tryd.prog.info? 3).map (fun i => (i.zero, i.size, i.bytes)) = some (some (.int .i64 0), 1, 8) := by kernel_rfl
theorem mkInts (m : Int) (n : Nat) (h : m = n) (hn : n ≤ 1000000) (w : World) :
    (Instr.makeSlice 23 (.int .i64 m) (.int .i64 m)).run Tryd.prog w = .ok (.slice (some ⟨w.heap.size, 0, none⟩) n n) (w.alloc (.cells (madeCells #[.int .i64 0] n) 3)) := by
  subst h
  exact run_make_row' (P := Tryd.prog) 23 3 (.int .i64 0) 8 Tryd.underlying23 Tryd.info3 rfl .i64 .i64 n (by omega) (by omega) w
/-- the likeness k of a string, and that around -/
def likeS (s : ByteArray) (n k : Nat) : Int := lkS (s.extract 0 (n - k)) (s.extract k n) (n - k)
def arouS (s : ByteArray) (n k : Nat) : Int := lkS s (s.extract k n ++ s.extract 0 k) n
theorem likeS_row (n k : Nat) (p : Nat → Bool) (hk : k ≤ n) : likeS (rowS n p) n k = likeN n p k := by
  unfold likeS likeN
  rw [rowS_extract _ _ _ _ (by omega), rowS_extract _ _ _ _ (Nat.le_refl _), lkS_rows (by omega) (by omega)]
  unfold lkN
  exact sumZ_congr fun i _ => by dsimp only; rw [Nat.zero_add]
theorem arouS_row (n k : Nat) (p : Nat → Bool) (hk : k < n) : arouS (rowS n p) n k = arouN n p k := by
  unfold arouS arouN
  rw [rowS_extract _ _ _ _ (Nat.le_refl _), rowS_extract _ _ _ _ (by omega), rowS_append, lkS_rows (Nat.le_refl _) (by omega)]
  unfold lkN
  refine sumZ_congr fun i hi => ?_
  dsimp only
  congr 2
  by_cases h : i < n - k
  · rw [if_pos h, Nat.mod_eq_of_lt (by omega)]
  · rw [if_neg h]
    congr 1
    rw [show k + i = (0 + (i - (n - k))) + n by omega, Nat.add_mod_right, Nat.mod_eq_of_lt (by omega)]
def RowPost (w : World) (n : Nat) (f : Nat → Int) (e : Ending) (w' : World) : Prop := ∃ r, e = .returned (.slice (some ⟨r, 0, none⟩) n n) ∧ w.heap.size ≤ r ∧ Kept w w' ∧ w'.rowIs r 3 n (fun i => .int .i64 (f i))
set_option maxRecDepth 100000 in
set_option maxHeartbeats 4000000 in
theorem likenesses_any (w : World) (s : ByteArray) (n : Nat) (hs : s.size = n) (hn : n ≤ 100) :
    Calls Tryd.prog 22 #[.string s] w (RowPost w n (likeS s n)) := by
  have hmk := mkInts (n : Int) n rfl (by omega)
  have hrow := World.rowIs_made w (.int .i64 0) n 3
  have hK0 : Kept w (w.alloc (.cells (madeCells #[.int .i64 0] n) 3)) := (Kept.refl w).alloc _
  have LK := Lib.hid (fun (W : World) (a b : ByteArray) (h1 : a.size ≤ b.size) (h2 : a.size ≤ 1000) => likeness_any W a b h1 h2)
  go_enter Tryd.func22, Tryd.ntmps22
  go_wp2_with fail
  obtain ⟨r, HR⟩ : ∃ r, Hid (r = w.heap.size) := ⟨_, rfl⟩
  rw [← HR.out] at hrow ⊢
  have hrw : w.heap.size ≤ r := by rw [HR.out]; exact Nat.le_refl _
  have hrow2 := hrow.congr (g := fun j => .int .i64 (if j < 0 then likeS s n j else 0)) (fun j _ => rfl)
  generalize w.alloc (.cells (madeCells #[.int .i64 0] n) 3) = W0 at *
  clear hrow hmk
  go_loopg [10] n (fun g s10 wr => ∃ k : Nat, k ≤ n ∧ g = n - k ∧ s10 = .int .i64 k ∧ Kept w wr ∧ wr.rowIs r 3 n (fun j => .int .i64 (if j < k then likeS s n j else 0)))
  case atStart => exact ⟨0, Nat.zero_le _, rfl, rfl, hK0, hrow2⟩
  case round =>
    obtain ⟨k, hk, rfl, rfl, hK, hr⟩ := hrel
    clear hK0 hrow2
    by_cases hlt : k < n
    · have x0 := hr.cell hlt
      have x1 := hr.frozen k
      simp only [Nat.lt_irrefl, if_false] at x0
      have s2 : (k : Int) < (n : Int) := by omega
      have s3 : (0 : Int) ≤ (k : Int) := by omega
      have ec : (n : Int) - (k : Int) = ((n - k : Nat) : Int) := by omega
      have hm : n - k ≤ n := by omega
      have hlen1 : (s.extract 0 (n - k)).size = n - k := by rw [size_extract _ _ _ (by omega)]; omega
      have hlen2 : (s.extract k n).size = n - k := size_extract _ _ _ (by omega)
      have LK2 := LK.out wr.drew (s.extract 0 (n - k)) (s.extract k n) (by omega) (by omega)
      rw [hlen1] at LK2
      have hlv : Hid (likeS s n k = lkS (s.extract 0 (n - k)) (s.extract k n) (n - k)) := rfl
      obtain ⟨x, HX⟩ : ∃ x, Hid (x = lkS (s.extract 0 (n - k)) (s.extract k n) (n - k)) := ⟨_, rfl⟩
      have hset := fun q => ((((Kept.refl wr).drewN q).row hr).set k (.int .i64 x)).congr (g := fun j => .int .i64 (if j < k + 1 then likeS s n j else 0)) (fun j _ => by
        by_cases e : j = k
        · subst e; rw [HX.out, ← hlv.out]; simp
        · simp only [e, if_false]
          by_cases e2 : j < k
          · simp [e2, show j < k + 1 by omega]
          · simp [e2, show ¬ j < k + 1 by omega])
      rw [← HX.out] at LK2
      clear hlv HX hlen1 hlen2
      have LKx := Lib.hid LK2
      clear LK2
      obtain ⟨m, HM⟩ : ∃ m, Hid (m = n - k) := ⟨_, rfl⟩
      rw [← HM.out] at LKx hm ec
      have s4 : (m : Int) ≤ (n : Int) := by omega
      have s5 : (0 : Int) ≤ (m : Int) := by omega
      have s6 : IntKind.i64.wrap (m : Int) = (m : Int) := IntWalk.i64_in _ (by omega)
      have s7 : (k : Int) ≤ (n : Int) := by omega
      go_wp2_with fail
      go_region_with (first | (go_at_call 37; refine LKx.out.mono ?_; rintro e w1 ⟨rfl, q, rfl⟩))
      all_goals
        go_wp2_with fail
        go_roundg (n - (k + 1))
        case measure => omega
        case rel => exact ⟨k + 1, by omega, rfl, by first | rfl | go_num, (hK.drewN _).setCell hrw _, hset _⟩
    · obtain rfl : k = n := by omega
      have hr2 := hr.congr (g := fun j => .int .i64 (likeS s k j)) (fun j hj => by simp [hj])
      go_wp2_with fail
      go_ret
      exact ⟨r, rfl, hrw, hK, hr2⟩
set_option maxRecDepth 100000 in
set_option maxHeartbeats 4000000 in
theorem around_any (w : World) (s : ByteArray) (n : Nat) (hs : s.size = n) (hn : n ≤ 100) :
    Calls Tryd.prog 23 #[.string s] w (RowPost w n (arouS s n)) := by
  have hmk := mkInts (n : Int) n rfl (by omega)
  have hrow := World.rowIs_made w (.int .i64 0) n 3
  have hK0 : Kept w (w.alloc (.cells (madeCells #[.int .i64 0] n) 3)) := (Kept.refl w).alloc _
  have LK := Lib.hid (fun (W : World) (a b : ByteArray) (h1 : a.size ≤ b.size) (h2 : a.size ≤ 1000) => likeness_any W a b h1 h2)
  go_enter Tryd.func23, Tryd.ntmps23
  go_wp2_with fail
  obtain ⟨r, HR⟩ : ∃ r, Hid (r = w.heap.size) := ⟨_, rfl⟩
  rw [← HR.out] at hrow ⊢
  have hrw : w.heap.size ≤ r := by rw [HR.out]; exact Nat.le_refl _
  have hrow2 := hrow.congr (g := fun j => .int .i64 (if j < 0 then arouS s n j else 0)) (fun j _ => rfl)
  generalize w.alloc (.cells (madeCells #[.int .i64 0] n) 3) = W0 at *
  clear hrow hmk
  go_loopg [10] n (fun g s10 wr => ∃ k : Nat, k ≤ n ∧ g = n - k ∧ s10 = .int .i64 k ∧ Kept w wr ∧ wr.rowIs r 3 n (fun j => .int .i64 (if j < k then arouS s n j else 0)))
  case atStart => exact ⟨0, Nat.zero_le _, rfl, rfl, hK0, hrow2⟩
  case round =>
    obtain ⟨k, hk, rfl, rfl, hK, hr⟩ := hrel
    clear hK0 hrow2
    by_cases hlt : k < n
    · have x0 := hr.cell hlt
      have x1 := hr.frozen k
      simp only [Nat.lt_irrefl, if_false] at x0
      have s2 : (k : Int) < (n : Int) := by omega
      have s3 : (0 : Int) ≤ (k : Int) := by omega
      have hlen1 : (s.extract k n ++ s.extract 0 k).size = n := by rw [ByteArray.size_append, size_extract _ _ _ (by omega), size_extract _ _ _ (by omega)]; omega
      have LK2 := LK.out wr.drew s (s.extract k n ++ s.extract 0 k) (by omega) (by omega)
      rw [hs] at LK2
      have hlv : Hid (arouS s n k = lkS s (s.extract k n ++ s.extract 0 k) n) := rfl
      obtain ⟨x, HX⟩ : ∃ x, Hid (x = lkS s (s.extract k n ++ s.extract 0 k) n) := ⟨_, rfl⟩
      have hset := fun q => ((((Kept.refl wr).drewN q).row hr).set k (.int .i64 x)).congr (g := fun j => .int .i64 (if j < k + 1 then arouS s n j else 0)) (fun j _ => by
        by_cases e : j = k
        · subst e; rw [HX.out, ← hlv.out]; simp
        · simp only [e, if_false]
          by_cases e2 : j < k
          · simp [e2, show j < k + 1 by omega]
          · simp [e2, show ¬ j < k + 1 by omega])
      rw [← HX.out] at LK2
      clear hlv HX hlen1
      have LKx := Lib.hid LK2
      clear LK2
      have s5 : ¬ 9223372036854775807 < n - k + k := by omega
      have s7 : (k : Int) ≤ (n : Int) := by omega
      go_wp2_with fail
      go_region_with (first | (go_at_call 37; refine LKx.out.mono ?_; rintro e w1 ⟨rfl, q, rfl⟩))
      all_goals
        go_wp2_with fail
        go_roundg (n - (k + 1))
        case measure => omega
        case rel => exact ⟨k + 1, by omega, rfl, by first | rfl | go_num, (hK.drewN _).setCell hrw _, hset _⟩
    · obtain rfl : k = n := by omega
      have hr2 := hr.congr (g := fun j => .int .i64 (arouS s k j)) (fun j hj => by simp [hj])
      go_wp2_with fail
      go_ret
      exact ⟨r, rfl, hrw, hK, hr2⟩
end Go.Proofs.YthigeafojekclaaDoor
