/-
  The law's lives: the document's examples.
-/
import Derived.Test.YtomnjcjipdnnfaaSc
import Derived.Test.YtomnjcjipdnnfaaKb
import Derived.Test.YtomnjcjipdnnfaaC
namespace Go.Proofs.Ytomnjcjipdnnfaa
open Go.RowKit Go.Deep

def t33 (i j : Nat) : ByteArray := if i = 0 ∨ j = 0 then ⟨#[49]⟩ else if i = 1 ∧ j = 1 then ⟨#[51]⟩ else if i = 2 ∧ j = 2 then ⟨#[49, 51]⟩ else ⟨#[53]⟩
def x33 (i j : Nat) : ByteArray := if i = 0 ∧ j = 0 then ⟨#[50]⟩ else if i = 1 ∧ j = 1 then ⟨#[49, 48]⟩ else ⟨#[52]⟩
theorem steps33 (w : World) : Calls Try.prog 61 #[.int .i64 3, .int .i64 3] w fun e w' => e = .returned (.string ⟨#[49, 51]⟩) ∧ Kept w w' := by
  refine stepsN w 3 3 2 2 t33 x33 rfl rfl (by omega) (by omega) (fun j => rfl) (fun i => by simp [t33]) (fun i j W hi hj => ?_) (fun i j W hi hj => ?_)
  · have h1 : i = 0 ∨ i = 1 := by omega
    have h2 : j = 0 ∨ j = 1 := by omega
    rcases h1 with rfl | rfl <;> rcases h2 with rfl | rfl
    · exact plus_1_1 W
    · exact plus_1_3 W
    · exact plus_3_1 W
    · exact plus_5_5 W
  · have h1 : i = 0 ∨ i = 1 := by omega
    have h2 : j = 0 ∨ j = 1 := by omega
    rcases h1 with rfl | rfl <;> rcases h2 with rfl | rfl
    · exact plus_2_1 W
    · exact plus_4_1 W
    · exact plus_4_1 W
    · exact plus_10_3 W
theorem counts_at (w : World) (n : Int) (r : Bool) (hr : (decide (1 ≤ n) && decide (n ≤ 30)) = r) : Calls Try.prog 60 #[.int .i64 n] w fun e w' => e = .returned (.bool r) ∧ w = w' := by
  by_cases h1 : 1 ≤ n
  · by_cases h2 : n ≤ 30
    · have : r = true := by rw [← hr]; simp [h1, h2]
      subst this
      clear hr
      go_enter Try.func60, Try.ntmps60
      go_wp2
      go_ret
      exact ⟨ret_bool (by simp <;> omega), rfl⟩
    · have : r = false := by rw [← hr]; simp [h2]
      subst this
      clear hr
      go_enter Try.func60, Try.ntmps60
      go_wp2
      go_ret
      exact ⟨ret_bool (by simp <;> omega), rfl⟩
  · have : r = false := by rw [← hr]; simp [h1]
    subst this
    clear hr
    go_enter Try.func60, Try.ntmps60
    go_wp2
    go_ret
    exact ⟨rfl, rfl⟩
set_option maxRecDepth 100000 in
theorem Steps33 (w : World) : Calls Try.prog 34 #[.int .i64 3, .int .i64 3] w fun e w' => e = .returned (.tuple #[.string ⟨#[49, 51]⟩, .int .i64 0]) ∧ Kept w w' := by
  have hc := fun W => counts_at W 3 true rfl
  go_enter Try.func34, Try.ntmps34
  go_wp2_with (first | (go_at_call 60; refine (hc _).mono ?_; rintro e w1 ⟨rfl, rfl⟩))
  refine (steps33 _).mono ?_
  rintro e w2 ⟨rfl, hk2⟩
  go_wp2_with fail
  go_ret2
  exact ⟨rfl, hk2⟩
def lA : Nat → Int := fun i => if i = 0 then 0 else 4
def lB : Nat → Int := fun i => if i = 0 then 4 else 0
def l0 : Nat → Int := fun _ => 0
theorem lit_pts (W : World) (a b c d : Int) (t : TypeId) (s : Nat) (hs : W.heap.size = s) (X Y : Nat → Int) (h0 : X 0 = a) (h1 : Y 0 = b) (h2 : X 1 = c) (h3 : Y 1 = d) : PairsAt (W.alloc (.cells #[.int .i64 a, .int .i64 b, .int .i64 c, .int .i64 d] t)) (.slice (some ⟨s, 0, none⟩) 2 2) 2 X Y := by
  subst hs
  refine ⟨_, W.heap.size, 0, 2, rfl, fun _ => rfl, fun i hi => ?_⟩
  have : i = 0 ∨ i = 1 := by omega
  rcases this with rfl | rfl
  · rw [h0, h1]; constructor <;> (unfold World.cell?; dsimp only; rw [blk_alloc_new]; rfl)
  · rw [h2, h3]; constructor <;> (unfold World.cell?; dsimp only; rw [blk_alloc_new]; rfl)
theorem l_code : code2 0 2 lA l0 2 lB l0 = 0 := by decide +kernel
theorem l_haus : haus 2 lA l0 2 lB l0 = 0 := by decide +kernel
theorem l_fre : fre 2 lA l0 2 lB l0 = 16 := by decide +kernel
theorem l_tnd : tnd 2 lA l0 2 lB l0 2 = (0, 1) := by decide +kernel
def LivesPost (w : World) (e : Ending) (w' : World) : Prop := e = .returned (.bool true) ∧ Kept w w'
set_option maxRecDepth 100000 in
set_option maxHeartbeats 2000000 in
theorem lives_any (w : World) : Calls Try.prog 19 #[] w (LivesPost w) := by
  have hA := lit_pts w 0 0 4 0 78 w.heap.size rfl lA l0 rfl rfl rfl rfl
  have hB := lit_pts (w.alloc (.cells #[.int .i64 0, .int .i64 0, .int .i64 4, .int .i64 0] 78)) 4 0 0 0 78 (w.heap.size + 1) (by simp) lB l0 rfl rfl rfl rfl
  have hkB := (Kept.refl (w.alloc (.cells #[.int .i64 0, .int .i64 0, .int .i64 4, .int .i64 0] 78))).alloc (.cells #[.int .i64 4, .int .i64 0, .int .i64 0, .int .i64 0] 78)
  have hK0 := ((Kept.refl w).alloc (.cells #[.int .i64 0, .int .i64 0, .int .i64 4, .int .i64 0] 78)).trans hkB
  have hA := hA.kept hkB
  clear hkB
  go_enter Try.func19, Try.ntmps19
  go_wp2_with fail
  generalize (w.alloc (.cells #[.int .i64 0, .int .i64 0, .int .i64 4, .int .i64 0] 78)).alloc (.cells #[.int .i64 4, .int .i64 0, .int .i64 0, .int .i64 0] 78) = W at *
  refine (Hausdorff_any _ 2 2 _ _ lA l0 lB l0 hA hB (by omega) (by omega)).mono ?_
  rintro e w1 ⟨hk1, hr, _⟩
  obtain rfl := hr l_code
  rw [l_haus]
  have hA1 := hA.kept hk1
  have hB1 := hB.kept hk1
  have hK1 := hK0.trans hk1
  clear hr hA hB hk1 hK0
  go_wp2_with fail
  refine (Frechet_any _ 2 2 _ _ lA l0 lB l0 hA1 hB1 (by omega) (by omega)).mono ?_
  rintro e w2 ⟨hk2, hr, _⟩
  obtain rfl := hr l_code
  rw [l_fre]
  have hA2 := hA1.kept hk2
  have hB2 := hB1.kept hk2
  have hK2 := hK1.trans hk2
  clear hr hA1 hB1 hk2 hK1
  go_wp2_with fail
  refine (Turned_any _ 2 2 _ _ 2 2 lA l0 lB l0 hA2 hB2 (by omega) (by omega) (by omega)).mono ?_
  rintro e w3 ⟨hk3, hr, _⟩
  obtain rfl := hr l_code
  rw [l_tnd]
  have hK3 := hK2.trans hk3
  clear hr hA2 hB2 hk3 hK2
  go_wp2_with fail
  refine (Steps33 _).mono ?_
  rintro e w4 ⟨rfl, hk4⟩
  go_wp2_with fail
  go_ret
  exact ⟨rfl, hK3.trans hk4⟩
end Go.Proofs.Ytomnjcjipdnnfaa
