/-
  The law's spots.
-/
import Derived.Test.YtlgpclnmonpkjaaWj
namespace Go.Proofs.Ytlgpclnmonpkjaa
open Go.RowKit Go.Deep

def prL (A B : Nat → Int) : Nat → List Value
  | 0 => []
  | k + 1 => prL A B k ++ [.int .i64 (A k), .int .i64 (B k)]
theorem prL_len (A B : Nat → Int) (k : Nat) : (prL A B k).length = k * 2 := by
  induction k with
  | zero => rfl
  | succ k ih => simp only [prL, List.length_append, ih, List.length_cons, List.length_nil]; omega
theorem prL_get (A B : Nat → Int) : ∀ k i, i < k → (prL A B k)[i * 2]? = some (.int .i64 (A i)) ∧ (prL A B k)[i * 2 + 1]? = some (.int .i64 (B i)) := by
  intro k
  induction k with
  | zero => intro i hi; omega
  | succ k ih =>
    intro i hi
    simp only [prL]
    have hl := prL_len A B k
    by_cases e : i = k
    · subst e
      rw [List.getElem?_append_right (by omega), List.getElem?_append_right (by omega), hl, show i * 2 - i * 2 = 0 by omega, show i * 2 + 1 - i * 2 = 1 by omega]
      exact ⟨rfl, rfl⟩
    · rw [List.getElem?_append_left (by omega), List.getElem?_append_left (by omega)]
      exact ih i (by omega)
theorem prL_one (A B : Nat → Int) (k : Nat) : ∀ u ∈ prL A B k, u.oneCell' = true := by
  induction k with
  | zero => intro u hu; simp [prL] at hu
  | succ k ih =>
    intro u hu
    simp only [prL, List.mem_append, List.mem_cons, List.not_mem_nil, or_false] at hu
    rcases hu with h | rfl | rfl
    · exact ih u h
    · rfl
    · rfl
theorem prL_cells {w : World} {b o k : Nat} {A B : Nat → Int} (h : ∀ i, i < k → w.cell? ⟨b, o + i * 2, none⟩ = some (.int .i64 (A i)) ∧ w.cell? ⟨b, o + i * 2 + 1, none⟩ = some (.int .i64 (B i))) :
    ∀ (j : Nat) (u : Value), (prL A B k)[j]? = some u → w.cell? ((⟨b, o, none⟩ : Addr).add j) = some u := fun j u hj => by
  have hlt : j < k * 2 := by
    rcases Nat.lt_or_ge j (k * 2) with h1 | h1
    · exact h1
    · rw [List.getElem?_eq_none (by rw [prL_len]; exact h1)] at hj; cases hj
  rw [add_at]
  have hd : j = j / 2 * 2 ∨ j = j / 2 * 2 + 1 := by omega
  have h2 : j / 2 < k := by omega
  generalize j / 2 = i at *
  rcases hd with rfl | rfl
  · rw [(prL_get A B k i h2).1] at hj
    cases hj
    exact (h i h2).1
  · rw [(prL_get A B k i h2).2] at hj
    cases hj
    rw [← Nat.add_assoc]
    exact (h i h2).2
theorem PairsAt.of_prL {w : World} {base : Nat} {v : Value} {k : Nat} {A B : Nat → Int} (h : w.ownsRow base 26 2 v k (prL A B k)) : PairsAt w v k A B := by
  obtain ⟨hl, h0⟩ := h
  rcases h0 with ⟨rfl, h1⟩ | ⟨g, cap, cur, rfl, h2⟩
  · have hk : k = 0 := by rw [h1] at hl; simp at hl; omega
    subst hk
    exact ⟨none, 0, 0, 0, rfl, fun h => by omega, fun i hi => by omega⟩
  · have h : w.ownsRow base 26 2 (.slice (some ⟨g, 0, none⟩) k cap) k (prL A B k) := ⟨hl, .inr ⟨g, cap, cur, rfl, h2⟩⟩
    refine ⟨_, g, 0, cap, rfl, fun _ => rfl, fun i hi => ?_⟩
    obtain ⟨e1, e2⟩ := prL_get A B k i hi
    exact ⟨by rw [Nat.zero_add, h.cellAt _ (by omega), e1], by rw [Nat.zero_add, h.cellAt _ (by omega), e2]⟩
def SpotsPost (w : World) (k : Nat) (A B : Nat → Int) (e : Ending) (w' : World) : Prop := ∃ v, e = .returned v ∧ w'.ownsRow w.heap.size 26 2 v k (prL A B k) ∧ Kept w w'
set_option maxRecDepth 100000 in
set_option maxHeartbeats 2000000 in
theorem spots_any (w : World) (a : Option Addr) (l cap : Nat) (A B : Nat → Int) (hL : PairsAt w (.slice a l cap) l A B) (hl : l ≤ cap) (hnil : a = none → cap = 0) (hcap : cap ≤ maxLen) :
    Calls Try.prog 21 #[.slice a l cap] w (SpotsPost w (min l 4) A B) := by
  obtain ⟨a', b, o, cap', e, ha, hc⟩ := hL
  cases e
  unfold maxLen at hcap
  obtain ⟨i1, hi, hz0, hz1, hz2⟩ := info_parts Try.infoSpot
  have hO := own_zeroT w w.heap.size 26 2 (Nat.le_refl _)
  have hk0 : Kept w (w.alloc (.cells #[] 26)) := (Kept.refl w).alloc _
  have hs0 : w.heap.size ≤ (w.alloc (.cells #[] 26)).heap.size := by simp
  cases a with
  | none =>
    obtain rfl := hnil rfl
    obtain rfl : l = 0 := by omega
    have m9 : min 0 4 = 0 := by omega
    rw [m9]
    have g1 : ¬ (4 : Int) < 0 := by omega
    go_enter Try.func21, Try.ntmps21
    go_wp2_with (first | (at_builtin; refine wpList_append_own_none rfl _ _ 36 rfl w.heap.size 26 i1 2 Try.underlying36 hi _ _ _ rfl hO rfl ?_))
    go_ret
    exact ⟨_, rfl, hO, hk0⟩
  | some ad =>
    have hsrc : ∀ m, m ≤ l → ∀ j u, (prL A B m)[j]? = some u → (w.alloc (.cells #[] 26)).cell? (ad.add j) = some u := fun m hm j u h => by
      have hm0 : 0 < l := by
        rcases Nat.eq_zero_or_pos m with e | e
        · subst e; simp [prL] at h
        · omega
      have e := ha hm0
      cases e
      exact prL_cells (fun i hi => ⟨hk0.cellSome (hc i (by omega)).1, hk0.cellSome (hc i (by omega)).2⟩) j u h
    have HS := Lib.hid hsrc
    clear hsrc hc ha
    by_cases h9 : 4 < l
    · have m9 : min l 4 = 4 := by omega
      rw [m9]
      have g1 : (4 : Int) < l := by omega
      have g2 : (4 : Int) ≤ cap := by omega
      go_enter Try.func21, Try.ntmps21
      go_wp2_with (first | (at_builtin; refine wpList_append_own _ rfl _ _ 36 rfl w.heap.size 26 i1 (.agg #[.int .i64 0, .int .i64 0]) 2 16 Try.underlying36 hi hz0 hz1 hz2 rfl (by decide) _ _ _ rfl hO ad 4 cap (prL A B 4) rfl (prL_len _ _ _) (HS.out 4 (by omega)) (prL_one _ _ _) (by unfold maxLen; omega) (by omega) hs0 ?_))
      intro v' w2 hO2 hgr _
      go_wp2_with fail
      go_ret
      exact ⟨_, rfl, by simpa using hO2, hk0.step (grew_X hgr hO) (fun i hi => by omega)⟩
    · have m9 : min l 4 = l := by omega
      rw [m9]
      have g1 : ¬ (4 : Int) < l := by omega
      have g2 : (l : Int) ≤ cap := by omega
      go_enter Try.func21, Try.ntmps21
      go_wp2_with (first | (at_builtin; refine wpList_append_own _ rfl _ _ 36 rfl w.heap.size 26 i1 (.agg #[.int .i64 0, .int .i64 0]) 2 16 Try.underlying36 hi hz0 hz1 hz2 rfl (by decide) _ _ _ rfl hO ad l cap (prL A B l) rfl (prL_len _ _ _) (HS.out l (by omega)) (prL_one _ _ _) (by unfold maxLen; omega) (by omega) hs0 ?_))
      intro v' w2 hO2 hgr _
      go_wp2_with fail
      go_ret
      exact ⟨_, rfl, by simpa using hO2, hk0.step (grew_X hgr hO) (fun i hi => by omega)⟩
end Go.Proofs.Ytlgpclnmonpkjaa
