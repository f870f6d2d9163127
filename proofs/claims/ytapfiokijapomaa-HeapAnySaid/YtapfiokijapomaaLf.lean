/-
  The reference's Toppled.
-/
import Derived.Test.YtapfiokijapomaaLe
import Derived.Deep.RegionWith
namespace Go.Proofs.Ytapfiokijapomaa
open Go.RowKit Go.Deep

/-- heaps after vertex v has toppled t times, the neighbours below k having got their bars -/
def topR (A B : Nat → Int) (m v : Nat) (t : Int) (k : Nat) (f : Nat → Int) : Nat → Int := fun i => if i + 1 = v then f i - t * (degN A B m v : Int) else if i + 1 < k then f i + t * (btwN A B m v (i + 1) : Int) else f i
theorem ints_set (f : Nat → Int) (N j : Nat) (x : Int) : (ints f N).set j (.int .i64 x) = ints (fun i => if i = j then x else f i) N := by
  apply List.ext_getElem?
  intro i
  rw [List.getElem?_set]
  simp only [ints, List.length_map, List.length_range, List.getElem?_map]
  by_cases e : j = i
  · subst e
    by_cases h : j < N <;> simp [h]
  · have e' : ¬ i = j := fun h => e h.symm
    by_cases h : i < N <;> simp [e, e', h]
theorem ints_congr {f g : Nat → Int} {N : Nat} (h : ∀ i, i < N → f i = g i) : ints f N = ints g N := by
  unfold ints
  apply List.map_congr_left
  intro i hi
  rw [h i (by simpa using hi)]
theorem ints_some (f : Nat → Int) {N j : Nat} (h : j < N) : (ints f N)[j]? = some (.int .i64 (f j)) := by simp [ints, h]
theorem ints_len (f : Nat → Int) (N : Nat) : (ints f N).length = N := by simp [ints]
theorem topR_start {A B : Nat → Int} {m v : Nat} {t : Int} {f : Nat → Int} {dv : Nat} (hdv : dv = deg A B m (v : Int)) (hv : 1 ≤ v) : (fun i => if i = v - 1 then f (v - 1) - t * (dv : Int) else f i) = topR A B m v t 1 f := by
  funext i
  unfold topR degN
  rw [← hdv]
  by_cases e : i + 1 = v
  · obtain rfl : i = v - 1 := by omega
    rw [if_pos rfl, if_pos e]
  · rw [if_neg (by omega), if_neg e, if_neg (by omega)]
theorem topR_same {A B : Nat → Int} {m k : Nat} {t : Int} {f : Nat → Int} : topR A B m k t k f = topR A B m k t (k + 1) f := by
  funext i
  unfold topR
  by_cases e : i + 1 = k
  · rw [if_pos e, if_pos e]
  · rw [if_neg e, if_neg e]
    by_cases e2 : i + 1 < k
    · rw [if_pos e2, if_pos (by omega)]
    · rw [if_neg e2, if_neg (by omega)]
theorem topR_step {A B : Nat → Int} {m v k : Nat} {t : Int} {f : Nat → Int} {bv : Nat} (hbv : bv = btw A B m (v : Int) (k : Int)) (hk : 1 ≤ k) (h : k ≠ v) : (fun i => if i = k - 1 then f (k - 1) + t * (bv : Int) else topR A B m v t k f i) = topR A B m v t (k + 1) f := by
  funext i
  by_cases e : i = k - 1
  · subst e
    rw [if_pos rfl]
    unfold topR btwN
    rw [if_neg (by omega), if_pos (by omega), show k - 1 + 1 = k by omega, ← hbv]
  · rw [if_neg e]
    unfold topR
    by_cases e1 : i + 1 = v
    · rw [if_pos e1, if_pos e1]
    · rw [if_neg e1, if_neg e1]
      by_cases e2 : i + 1 < k
      · rw [if_pos e2, if_pos (by omega)]
      · rw [if_neg e2, if_neg (by omega)]
theorem topR_at {A B : Nat → Int} {m v k : Nat} {t : Int} {f : Nat → Int} (hk : 1 ≤ k) (h : k ≠ v) : topR A B m v t k f (k - 1) = f (k - 1) := by
  unfold topR
  rw [if_neg (by omega), if_neg (by omega)]
def ToppledPost (w : World) (N : Nat) (g : Nat → Int) (e : Ending) (w' : World) : Prop := ∃ b cap, e = .returned (.slice (some ⟨b, 0, none⟩) N cap) ∧ w'.ownsRow w.heap.size 3 1 (.slice (some ⟨b, 0, none⟩) N cap) N (ints g N) ∧ Kept w w' ∧ w.heap.size ≤ b
set_option maxRecDepth 100000 in
set_option maxHeartbeats 4000000 in
theorem toppled_any (w : World) (n m v : Nat) (t : Int) (ev : Value) (la : Option Addr) (lcap : Nat) (A B f : Nat → Int) (hE : PairsAt w ev m A B) (hm : m ≤ 20) (hn : n ≤ 8) (hv1 : 1 ≤ v) (hv : v < n)
    (hL : IntsAt w (.slice la (n - 1) lcap) (n - 1) f) (hf : ∀ i, i < n - 1 → 0 ≤ f i ∧ f i ≤ 36028797018963968) (ht0 : 0 ≤ t) (ht1 : t ≤ 36028797018963968) :
    Calls Try.prog 46 #[.int .i64 n, ev, .slice la (n - 1 : Nat) lcap, .int .i64 v, .int .i64 t] w (ToppledPost w (n - 1) (topR A B m v t n f)) := by
  obtain ⟨la', lb, lo, lcap', e, hla, hlc⟩ := hL
  cases e
  obtain rfl := hla (by omega)
  obtain ⟨i0, hi, hz0, hz1, hz2⟩ := info_parts Try.info3
  have hO := own_zero w w.heap.size (Nat.le_refl _)
  have hk0 : Kept w (w.alloc (.cells #[] 3)) := (Kept.refl w).alloc _
  have hcell : ∀ i, i < n - 1 → w.cell? ((⟨lb, lo, none⟩ : Addr).add i) = some (.int .i64 (f i)) := fun i hi => by rw [add_at]; exact hlc i hi
  have HCELL := Lib.hid hcell
  clear hcell hlc hla
  go_enter Try.func46, Try.ntmps46
  go_wp2_with (first | (at_builtin; refine wpList_append_own _ rfl _ _ 25 rfl w.heap.size 3 i0 (.int .i64 0) 1 8 Try.underlying25 hi hz0 hz1 hz2 rfl (by decide) _ _ _ rfl hO ⟨lb, lo, none⟩ (n - 1) lcap (ints f (n - 1)) rfl (by simp [ints]) ?c1 ?c2 ?c3 ?c4 ?c5 ?_))
  case c1 => exact fun j u h => by obtain ⟨h1, rfl⟩ := ints_get h; exact hk0.cellSome (HCELL.out j (by omega))
  case c2 => intro u hu; simp [ints] at hu; obtain ⟨i, _, rfl⟩ := hu; rfl
  case c3 => unfold maxLen; omega
  case c4 => omega
  case c5 => simp
  intro v' w2 hO2 hgr _
  have hK2 : Kept w w2 := hk0.step (grew_X hgr hO) (fun i hi => by omega)
  have hO3 : w2.ownsRow w.heap.size 3 1 v' (n - 1) (ints f (n - 1)) := by simpa using hO2
  obtain ⟨b, cap, rfl, hbb, hbl⟩ := hO3.form (by omega)
  clear hO2 hgr hO hk0 hi hz0 hz1 hz2
  have hEk := hE.kept hK2
  have u1 := hO3.cellAt (v - 1) (by omega)
  have u2 := hO3.frozenAt (v - 1)
  rw [ints_some f (by omega)] at u1
  have hfv := hf (v - 1) (by omega)
  have hdl : deg A B m (v : Int) ≤ 40 := Nat.le_trans (cnt_le _ _) (by omega)
  obtain ⟨dv, HDV⟩ : ∃ dv, Hid (dv = deg A B m (v : Int)) := ⟨_, rfl⟩
  have s1 : IntKind.i64.wrap ((v : Int) - 1) = (v : Int) - 1 := IntWalk.i64_in _ (by omega)
  have s2 : ((v : Int) - 1).toNat = v - 1 := by omega
  have s3 : (1 : Int) ≤ v := by omega
  have s4 : (v : Int) - 1 < ((n - 1 : Nat) : Int) := by omega
  have hdl' : dv ≤ 40 := by rw [HDV.out]; exact hdl
  have p0 : 0 ≤ t * (dv : Int) := Int.mul_nonneg ht0 (by omega)
  have p1 : t * (dv : Int) ≤ 1441151880758558720 := Int.le_trans (Int.mul_le_mul ht1 (show (dv : Int) ≤ 40 by omega) (by omega) (by omega)) (by decide)
  have s5 : IntKind.i64.wrap (t * (dv : Int)) = t * (dv : Int) := IntWalk.i64_in _ (by omega)
  have s6 : IntKind.i64.wrap (f (v - 1) - t * (dv : Int)) = f (v - 1) - t * (dv : Int) := IntWalk.i64_in _ (by omega)
  clear hdl hdl' p0 p1 hfv
  go_wp2_with fail
  go_region_with (first | (go_at_call 45; refine (degree_any _ _ m A B (v : Int) (hEk.kept (by repeat (first | assumption | exact Kept.refl _ | apply Kept.drew | apply Kept.drewN | apply Kept.alloc | refine Kept.trans ?_ (by assumption)))) (by omega)).mono ?_; rw [← HDV.out]; rintro e w' ⟨rfl, rfl⟩))
  all_goals
    go_wp2_with fail
    have hO4 := (hO3.stored (v - 1) (.int .i64 (f (v - 1) - t * (dv : Int)))).1
    rw [ints_set, topR_start HDV.out hv1] at hO4
    have hO5 := hO4.drew
    have hK5 : Kept w ((w2.setCell ⟨b, v - 1, none⟩ (.int .i64 (f (v - 1) - t * (dv : Int)))).drew) := (hK2.setCell (p := ⟨b, v - 1, none⟩) hbb _).drew
    clear hO4 hO3 hEk u1 u2 s1 s2 s3 s4 s5 s6 hK2
    generalize (w2.setCell ⟨b, v - 1, none⟩ (.int .i64 (f (v - 1) - t * (dv : Int)))).drew = W3 at *
    go_loopg [12] (n - 1) (fun g kk wr => ∃ k : Nat, 1 ≤ k ∧ k ≤ n ∧ g = n - k ∧ kk = .int .i64 k ∧ Kept w wr ∧ wr.ownsRow w.heap.size 3 1 (.slice (some ⟨b, 0, none⟩) (n - 1) cap) (n - 1) (ints (topR A B m v t k f) (n - 1)))
    case atStart => exact ⟨1, by omega, by omega, by omega, rfl, hK5, hO5⟩
    case round =>
      obtain ⟨k, hk1, hkn, rfl, rfl, hK, hO⟩ := hrel
      clear hK5 hO5
      by_cases hlt : k < n
      · by_cases hkv : k = v
        · subst hkv
          rw [topR_same] at hO
          go_wp2_with fail
          go_roundg (n - (k + 1))
          case measure => omega
          case rel => exact ⟨k + 1, by omega, by omega, rfl, by go_num, hK, hO⟩
        · have hEk := hE.kept hK
          have u1 := hO.cellAt (k - 1) (by omega)
          have u2 := hO.frozenAt (k - 1)
          rw [ints_some _ (by omega), topR_at hk1 hkv] at u1
          have hfv := hf (k - 1) (by omega)
          obtain ⟨bv, HBV⟩ : ∃ bv, Hid (bv = btw A B m (v : Int) (k : Int)) := ⟨_, rfl⟩
          have hbl : bv ≤ 20 := by rw [HBV.out]; exact Nat.le_trans (btw_le A B m v k) hm
          have e1 : ((k : Int) == (v : Int)) = false := by simp; omega
          have e2 : ((k : Int) != (v : Int)) = true := by simp; omega
          have s1 : IntKind.i64.wrap ((k : Int) - 1) = (k : Int) - 1 := IntWalk.i64_in _ (by omega)
          have s2 : ((k : Int) - 1).toNat = k - 1 := by omega
          have s3 : (1 : Int) ≤ k := by omega
          have s4 : (k : Int) - 1 < ((n - 1 : Nat) : Int) := by omega
          have p0 : 0 ≤ t * (bv : Int) := Int.mul_nonneg ht0 (by omega)
          have p1 : t * (bv : Int) ≤ 720575940379279360 := Int.le_trans (Int.mul_le_mul ht1 (show (bv : Int) ≤ 20 by omega) (by omega) (by omega)) (by decide)
          have s5 : IntKind.i64.wrap (t * (bv : Int)) = t * (bv : Int) := IntWalk.i64_in _ (by omega)
          have s6 : IntKind.i64.wrap (f (k - 1) + t * (bv : Int)) = f (k - 1) + t * (bv : Int) := IntWalk.i64_in _ (by omega)
          have HKV := Lib.hid hkv
          clear hbl p0 p1 hfv hkv
          go_wp2_with fail
          go_region_with (first | (go_at_call 55; refine (between_any _ _ m A B (v : Int) (k : Int) (hEk.kept (by repeat (first | assumption | exact Kept.refl _ | apply Kept.drew | apply Kept.drewN | apply Kept.alloc | refine Kept.trans ?_ (by assumption)))) (by omega)).mono ?_; rw [← HBV.out]; rintro e w' ⟨rfl, rfl⟩))
          all_goals
            have hO4 := (hO.stored (k - 1) (.int .i64 (f (k - 1) + t * (bv : Int)))).1
            rw [ints_set, topR_step HBV.out hk1 HKV.out] at hO4
            clear u1 u2 s1 s2 s3 s4 s5 s6
            go_wp2_with fail
            go_roundg (n - (k + 1))
            case measure => omega
            case rel => exact ⟨k + 1, by omega, by omega, rfl, by go_num, (hK.setCell (p := ⟨b, k - 1, none⟩) hbb _).drew, hO4.drew⟩
      · obtain rfl : k = n := by omega
        go_wp2_with fail
        go_ret
        exact ⟨b, cap, rfl, hO, hK, hbb⟩
end Go.Proofs.Ytapfiokijapomaa
