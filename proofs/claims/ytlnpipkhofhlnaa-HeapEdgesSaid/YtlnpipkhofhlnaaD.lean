/-
  The program's yards, more: topple.
-/
import Derived.Test.YtlnpipkhofhlnaaC
import Derived.StillTailTactics
import Derived.BigRegion
import Derived.RegionTactic
namespace Go.Proofs.Ytlnpipkhofhlnaa
open Go.RowKit Go.Deep

/-- the bars when vertex v has toppled as often as it can -/
def topN (D : Nat → Nat) (f : Nat → Int) (v : Nat) : Int := f v / (D v : Int)
def topF (D : Nat → Nat) (J : Nat → Nat → Nat) (f : Nat → Int) (v : Nat) (u : Nat) : Int := (if u = v then f v - topN D f v * D v else f u) + topN D f v * J v u

set_option maxRecDepth 100000 in
set_option maxHeartbeats 2000000 in
theorem topple_any (w : World) (n m bd bj : Nat) (br D : Nat → Nat) (J : Nat → Nat → Nat) (v r : Nat) (f : Nat → Int) (hY : YardAt w n bd bj br D J) (hn : n ≤ 8) (hv : v < n) (hD : ∀ i, i < n → D i ≤ 40) (hDv : 1 ≤ D v) (hJ : ∀ i j, i < n → j < n → J i j ≤ 40)
    (hr : w.rowIs r 3 n (fun u => .int .i64 (f u))) (hbj : bj < r) (hbr : ∀ i, i < n → br i < r) (hf : ∀ i, i < n → 0 ≤ f i ∧ f i ≤ 36028797018963968) :
    Calls Try.prog 74 #[YardV n m bd bj, .int .i64 v, .slice (some ⟨r, 0, none⟩) n n] w fun e w' => e = .returned (.int .i64 (topN D f v)) ∧ KeptX (fun k => k = r) w w' ∧ w'.rowIs r 3 n (fun u => .int .i64 (topF D J f v u)) := by
  obtain ⟨b0, b1, b2, b3⟩ := YBox.new w n m bd bj 78
  have hK0 : Kept w (w.alloc (.cells #[.int .i64 n, .int .i64 m, .slice (some ⟨bd, 0, none⟩) n n, .slice (some ⟨bj, 0, none⟩) n n] 78)) := (Kept.refl w).alloc _
  have hrl := hr.lt
  unfold YardV
  go_enter Try.func74, Try.ntmps74
  go_wp2_with fail
  generalize w.alloc (.cells #[.int .i64 n, .int .i64 m, .slice (some ⟨bd, 0, none⟩) n n, .slice (some ⟨bj, 0, none⟩) n n] 78) = W at *
  have hYW := hY.kept hK0
  have hrW := hK0.row hr
  have h1 := hrW.cell hv
  have h2 := hYW.deg.cell hv
  have hfv := hf v hv
  have hdv := hD v hv
  have hv0 : (0 : Int) ≤ (v : Int) := by omega
  have hv1 : (v : Int) < (n : Int) := by omega
  have hd1 : (1 : Int) ≤ (D v : Int) := by omega
  go_quiet (fail)
  go_wp2_with fail
  have hdp : (0 : Int) < (D v : Int) := by omega
  have ht0 : 0 ≤ f v / (D v : Int) := Int.ediv_nonneg hfv.1 (by omega)
  have ht1 : f v / (D v : Int) ≤ f v := Int.ediv_le_self _ hfv.1
  have hm1 : f v / (D v : Int) * (D v : Int) ≤ f v := Int.ediv_mul_le _ (by omega)
  have hm0 : 0 ≤ f v / (D v : Int) * (D v : Int) := Int.mul_nonneg ht0 (by omega)
  obtain ⟨t, HT⟩ : ∃ t, Hid (t = f v / (D v : Int)) := ⟨_, rfl⟩
  rw [← HT.out] at ht0 ht1 hm1 hm0 ⊢
  obtain ⟨p, HP⟩ : ∃ p, Hid (p = t * (D v : Int)) := ⟨_, rfl⟩
  rw [← HP.out] at hm1 hm0
  have hwp : IntKind.i64.wrap (t * (D v : Int)) = p := by rw [← HP.out]; exact IntWalk.i64_in _ (by omega)
  have hws : IntKind.i64.wrap (f v - p) = f v - p := IntWalk.i64_in _ (by omega)
  have h1' := h1
  have h3 := hrW.frozen v
  go_big_region
  go_wp2_with fail
  have hKw : KeptX (fun k => k = r) W ((W.drewN (nq + 1)).setCell ⟨r, v, none⟩ (.int .i64 (f v - p))) := ((KeptX.refl _ W).drewN _).setIn _ _
  have hRw : ((W.drewN (nq + 1)).setCell ⟨r, v, none⟩ (.int .i64 (f v - p))).rowIs r 3 n (fun u => .int .i64 (if u = v then f v - p else f u)) := (World.rowIs.set (w := W.drewN (nq + 1)) (((Kept.refl W).drewN _).row hrW) v _).congr (fun u _ => by by_cases e : u = v <;> simp [e])
  have hbW : w.heap.size ≠ r := by omega
  clear h1 h1' h2 h3 hwp hws hrW hdv
  go_loopg [34] n (fun g i wr => ∃ k : Nat, k ≤ n ∧ g = n - k ∧ i = .int .i64 k ∧ KeptX (fun k => k = r) W wr ∧ wr.rowIs r 3 n (fun u => .int .i64 ((if u = v then f v - p else f u) + (if u < k then t * J v u else 0))))
  case atStart => exact ⟨0, Nat.zero_le _, rfl, rfl, hKw, hRw.congr (fun u _ => by simp)⟩
  case round =>
    obtain ⟨k, hk, rfl, rfl, hK, hR⟩ := hrel
    clear hKw hRw
    by_cases hlt : k < n
    · have h1 := hR.cell hlt
      have h3 := hR.frozen k
      simp only [Nat.lt_irrefl, if_false, Int.add_zero] at h1
      have c3 := hK.cellSome b3 hbW
      have h4 := (hK.row hYW.top (by omega)).cell hv
      have h5 := (hK.row (hYW.row v hv) (by have := hbr v hv; omega)).cell hlt
      have hjj := hJ v k hv hlt
      have hk0 : (0 : Int) ≤ (k : Int) := by omega
      have hk1 : (k : Int) < (n : Int) := by omega
      have hfk := hf k hlt
      have hq0 : 0 ≤ t * (J v k : Int) := Int.mul_nonneg ht0 (by omega)
      have hq1 : t * (J v k : Int) ≤ t * 40 := Int.mul_le_mul_of_nonneg_left (by omega) ht0
      obtain ⟨q, HQ⟩ : ∃ q, Hid (q = t * (J v k : Int)) := ⟨_, rfl⟩
      rw [← HQ.out] at hq0 hq1
      obtain ⟨x, HX⟩ : ∃ x, Hid (x = if k = v then f v - p else f k) := ⟨_, rfl⟩
      rw [← HX.out] at h1
      have hx : 0 ≤ x ∧ x ≤ 36028797018963968 := by rw [HX.out]; split <;> omega
      have hwq : IntKind.i64.wrap (t * (J v k : Int)) = q := by rw [← HQ.out]; exact IntWalk.i64_in _ (by omega)
      have hws : IntKind.i64.wrap (x + q) = x + q := IntWalk.i64_in _ (by omega)
      clear hf hJ
      go_wp2_with fail
      go_big_region
      go_wp2_with fail
      go_roundg (n - (k+1))
      case measure => omega
      case rel =>
        refine ⟨k + 1, by omega, rfl, by go_num, by first | exact hK.drew.setIn _ _ | exact (hK.setIn _ _).drew, ?_⟩
        refine (World.rowIs.set hR.drew k _).congr (fun u _ => ?_)
        by_cases e : u = k
        · subst e
          have e1 : (if u < u + 1 then t * (J v u : Int) else 0) = q := by rw [if_pos (by omega), HQ.out]
          rw [if_pos rfl, e1, ← HX.out]
        · rw [if_neg e]
          by_cases h : u < k
          · rw [if_pos h, if_pos (show u < k + 1 by omega)]
          · rw [if_neg h, if_neg (show ¬ u < k + 1 by omega)]
    · go_wp2_with fail
      go_ret
      refine ⟨ret_int (by rw [HT.out]; rfl), (KeptX.weaken hK0 (fun _ h => h.elim)).trans hK, hR.congr (fun u hu => ?_)⟩
      rw [if_pos (show u < k by omega)]
      unfold topF topN
      rw [← HT.out, ← HP.out]
end Go.Proofs.Ytlnpipkhofhlnaa
