/-
  Outlines: distances of points, the nearest point, Hausdorff's distance; the program's functions.
-/
import Derived.Test.YtomnjcjipdnnfaaChecked
import Derived.Test.YtomnjcjipdnnfaaRep
import Derived.Outline
import Derived.Deep.QuietTactic
import Derived.BigQuiet
import Derived.Lib.Hide
import Derived.Deep.RegionHeld3
import Derived.Deep.RegionWith
namespace Go.Proofs.Ytomnjcjipdnnfaa
open Go.RowKit Go.Deep

theorem Try.info3 : (Try.prog.info? 3).map (fun i => (i.zero, i.size, i.bytes)) = some (some (.int .i64 0), 1, 8) := by kernel_rfl
def dist (x y u v : Int) : Int := (x - u) * (x - u) + (y - v) * (y - v)
theorem sq_le {a c : Int} (h1 : -c ≤ a) (h2 : a ≤ c) : 0 ≤ a * a ∧ a * a ≤ c * c := by
  refine ⟨by rcases Int.le_total 0 a with h | h; exact Int.mul_nonneg h h; exact Int.mul_nonneg_of_nonpos_of_nonpos h h, ?_⟩
  have h3 : 0 ≤ (c - a) * (c + a) := Int.mul_nonneg (by omega) (by omega)
  rw [Int.sub_mul, Int.mul_add, Int.mul_add, Int.mul_comm a c] at h3
  omega
/-- a place is in range -/
def pl (x : Int) : Prop := -1000 ≤ x ∧ x ≤ 1000
theorem dist_bd {x y u v : Int} (hx : pl x) (hy : pl y) (hu : pl u) (hv : pl v) : 0 ≤ dist x y u v ∧ dist x y u v ≤ 8000000 := by
  unfold pl at *
  have h1 := sq_le (a := x - u) (c := 2000) (by omega) (by omega)
  have h2 := sq_le (a := y - v) (c := 2000) (by omega) (by omega)
  unfold dist
  omega
theorem dist_comm (x y u v : Int) : dist x y u v = dist u v x y := by
  unfold dist
  rw [show u - x = -(x - u) by omega, show v - y = -(y - v) by omega, Int.neg_mul_neg, Int.neg_mul_neg]
theorem box2 (w : World) (a b : Value) (t : TypeId) : (w.alloc (.cells #[a, b] t)).cell? ⟨w.heap.size, 0, none⟩ = some a ∧ (w.alloc (.cells #[a, b] t)).cell? ⟨w.heap.size, 1, none⟩ = some b := by
  constructor <;> (unfold World.cell?; dsimp only; rw [blk_alloc_new]; rfl)
theorem blk_at (w : World) (a b : Value) (t : TypeId) (s : Nat) (h : w.heap.size = s) : (w.alloc (.cells #[a, b] t)).cell? ⟨s, 0, none⟩ = some a ∧ (w.alloc (.cells #[a, b] t)).cell? ⟨s, 1, none⟩ = some b := by subst h; exact box2 w a b t

set_option maxRecDepth 100000 in
set_option maxHeartbeats 1000000 in
theorem apart_any (w : World) (x y u v : Int) (hx : pl x) (hy : pl y) (hu : pl u) (hv : pl v) :
    Calls Try.prog 47 #[.agg #[.int .i64 x, .int .i64 y], .agg #[.int .i64 u, .int .i64 v]] w fun e w' => e = .returned (.int .i64 (dist x y u v)) ∧ Kept w w' := by
  have hb := dist_bd hx hy hu hv
  have HB : Hid (dist x y u v = (x - u) * (x - u) + (y - v) * (y - v)) := rfl
  unfold pl at *
  have h1 := sq_le (a := x - u) (c := 2000) (by omega) (by omega)
  have h2 := sq_le (a := y - v) (c := 2000) (by omega) (by omega)
  obtain ⟨p0, p1⟩ := box2 w (.int .i64 x) (.int .i64 y) 78
  obtain ⟨q0, q1⟩ := blk_at (w.alloc (.cells #[.int .i64 x, .int .i64 y] 78)) (.int .i64 u) (.int .i64 v) 78 (w.heap.size + 1) (by simp)
  have hk1 := (Kept.refl (w.alloc (.cells #[.int .i64 x, .int .i64 y] 78))).alloc (.cells #[.int .i64 u, .int .i64 v] 78)
  have hk0 : Kept w ((w.alloc (.cells #[.int .i64 x, .int .i64 y] 78)).alloc (.cells #[.int .i64 u, .int .i64 v] 78)) := ((Kept.refl w).alloc _).alloc _
  have r0 := hk1.cellSome p0
  have r1 := hk1.cellSome p1
  clear p0 p1 hk1
  go_enter Try.func47, Try.ntmps47
  go_wp2_with fail
  generalize (w.alloc (.cells #[.int .i64 x, .int .i64 y] 78)).alloc (.cells #[.int .i64 u, .int .i64 v] 78) = W at *
  obtain ⟨a, HA⟩ : ∃ a, Hid (a = x - u) := ⟨_, rfl⟩
  obtain ⟨b, HBB⟩ : ∃ b, Hid (b = y - v) := ⟨_, rfl⟩
  have s1 : IntKind.i64.wrap (x - u) = a := by rw [HA.out]; exact IntWalk.i64_in _ (by omega)
  have s2 : IntKind.i64.wrap (y - v) = b := by rw [HBB.out]; exact IntWalk.i64_in _ (by omega)
  have h1' : 0 ≤ a * a ∧ a * a ≤ 4000000 := by rw [HA.out]; exact h1
  have h2' : 0 ≤ b * b ∧ b * b ≤ 4000000 := by rw [HBB.out]; exact h2
  have s3 : IntKind.i64.wrap (a * a) = a * a := IntWalk.i64_in _ (by omega)
  have s4 : IntKind.i64.wrap (b * b) = b * b := IntWalk.i64_in _ (by omega)
  have s5 : IntKind.i64.wrap (a * a + b * b) = a * a + b * b := IntWalk.i64_in _ (by omega)
  have HD : Hid (a * a + b * b = dist x y u v) := by show _ = _; rw [HB.out, ← HA.out, ← HBB.out]
  clear h1 h2 h1' h2' hb
  go_quiet (fail)
  go_wp2_with fail
  go_ret
  exact ⟨ret_int HD.out, hk0.drewN _⟩
/-- how far the nearest of the first k points is -/
def nearI (x y : Int) (U V : Nat → Int) : Nat → Int
  | 0 => dist x y (U 0) (V 0)
  | k + 1 => min (nearI x y U V k) (dist x y (U k) (V k))
/-- all places of an outline are in range -/
def InR (n : Nat) (X Y : Nat → Int) : Prop := ∀ i, i < n → pl (X i) ∧ pl (Y i)
theorem nearI_bd {x y : Int} {U V : Nat → Int} {n : Nat} (hx : pl x) (hy : pl y) (h : InR n U V) (hn : 1 ≤ n) (k : Nat) (hk : k ≤ n) : 0 ≤ nearI x y U V k ∧ nearI x y U V k ≤ 8000000 := by
  induction k with
  | zero => exact dist_bd hx hy (h 0 (by omega)).1 (h 0 (by omega)).2
  | succ k ih =>
    have h1 := ih (by omega)
    have h2 := dist_bd hx hy (h k (by omega)).1 (h k (by omega)).2
    simp only [nearI]
    omega
theorem min_int (a b : Int) : (if b < a then b else a) = min a b := by omega
theorem max_int (a b : Int) : (if a < b then b else a) = max a b := by omega
set_option maxRecDepth 100000 in
set_option maxHeartbeats 2000000 in
theorem nearest_any (w : World) (x y : Int) (n : Nat) (pv : Value) (U V : Nat → Int) (hx : pl x) (hy : pl y) (hP : PairsAt w pv n U V) (hR : InR n U V) (hn : 1 ≤ n) (hn2 : n ≤ 1000000) :
    Calls Try.prog 48 #[.agg #[.int .i64 x, .int .i64 y], pv] w fun e w' => e = .returned (.int .i64 (nearI x y U V n)) ∧ Kept w w' := by
  obtain ⟨a, b, o, cap, rfl, ha, hc⟩ := hP
  obtain rfl := ha (by omega)
  obtain ⟨p0, p1⟩ := box2 w (.int .i64 x) (.int .i64 y) 78
  have hk0 : Kept w (w.alloc (.cells #[.int .i64 x, .int .i64 y] 78)) := (Kept.refl w).alloc _
  have HC := Lib.hid hc
  have HR := Lib.hid hR
  have hz : dist x y (U 0) (V 0) = nearI x y U V 0 := rfl
  have HZ := Lib.hid hz
  clear hc ha hz
  go_enter Try.func48, Try.ntmps48
  go_wp2_with fail
  obtain ⟨g, HG⟩ : ∃ g, Hid (g = w.heap.size) := ⟨_, rfl⟩
  rw [← HG.out] at p0 p1 ⊢
  generalize w.alloc (.cells #[.int .i64 x, .int .i64 y] 78) = W at *
  have hcc := HC.out 0 (by omega)
  simp only [Nat.zero_mul, Nat.add_zero] at hcc
  have d0 := hk0.cellSome hcc.1
  have d1 := hk0.cellSome hcc.2
  have s0 : (0 : Int) < (n : Int) := by omega
  have s0' : 0 < n := by omega
  clear hcc
  go_region_held3 (fun w' => w'.cell? ⟨g, 0, none⟩ = some (.int .i64 x) ∧ w'.cell? ⟨g, 1, none⟩ = some (.int .i64 y) ∧ w'.cell? ⟨b, o, none⟩ = some (.int .i64 (U 0)) ∧ w'.cell? ⟨b, o + 1, none⟩ = some (.int .i64 (V 0)) ∧ Kept W w')
    (first | exact keep4 p0 p1 d0 d1 (by repeat (first | assumption | exact Kept.refl _ | apply Kept.drew | apply Kept.drewN | apply Kept.alloc | refine Kept.trans ?_ (by assumption))))
    (first | (go_at_call 47; refine (apart_any _ x y (U 0) (V 0) hx hy (HR.out 0 (by omega)).1 (HR.out 0 (by omega)).2).mono ?_; rw [HZ.out]; rintro e w2 ⟨rfl, hk2⟩))
  have hKW : Kept W w2 := (by repeat (first | assumption | exact Kept.refl _ | apply Kept.drew | apply Kept.drewN | apply Kept.alloc | refine Kept.trans ?_ (by assumption)))
  clear d0 d1 hR
  go_wp2_with fail
  go_loopg [5, 15] n (fun gg s5 s15 wr => ∃ k : Nat, k ≤ n ∧ gg = n - k ∧ s15 = .int .i64 k ∧ s5 = .int .i64 (nearI x y U V k) ∧ Kept W wr)
  case atStart => exact ⟨0, Nat.zero_le _, rfl, rfl, rfl, hKW⟩
  case round =>
    obtain ⟨k, hk, rfl, rfl, rfl, hK⟩ := hrel
    clear hKW
    by_cases hlt : k < n
    · obtain ⟨c0, c1⟩ := HC.out k hlt
      have t0 := hK.cellSome (hk0.cellSome c0)
      have t1 := hK.cellSome (hk0.cellSome c1)
      have q0 := hK.cellSome p0
      have q1 := hK.cellSome p1
      have hu := HR.out k hlt
      have hn1 : Hid (nearI x y U V (k + 1) = min (nearI x y U V k) (dist x y (U k) (V k))) := rfl
      obtain ⟨m, HM⟩ : ∃ m, Hid (m = nearI x y U V k) := ⟨_, rfl⟩
      obtain ⟨dd, HDD⟩ : ∃ dd, Hid (dd = dist x y (U k) (V k)) := ⟨_, rfl⟩
      rw [← HM.out]
      have hkB := (Kept.refl wr).alloc (.cells #[.int .i64 (U k), .int .i64 (V k)] 78)
      have r0 := hkB.cellSome q0
      have r1 := hkB.cellSome q1
      clear c0 c1
      go_wp2_with fail
      refine (apart_any _ x y (U k) (V k) hx hy hu.1 hu.2).mono ?_
      rw [← HDD.out]
      rintro e w3 ⟨rfl, hk3⟩
      have hK3 : Kept W w3 := (hK.trans hkB).trans hk3
      go_wp2_with fail
      all_goals
        go_roundg (n - (k + 1))
        case measure => omega
        case rel => exact ⟨k + 1, by omega, rfl, by go_num, by (rw [hn1.out, ← HM.out, ← HDD.out]; first | rfl | (congr 1; omega)), hK3⟩
    · obtain rfl : k = n := by omega
      go_wp2_with fail
      go_ret
      exact ⟨rfl, hk0.trans hK⟩
end Go.Proofs.Ytomnjcjipdnnfaa
