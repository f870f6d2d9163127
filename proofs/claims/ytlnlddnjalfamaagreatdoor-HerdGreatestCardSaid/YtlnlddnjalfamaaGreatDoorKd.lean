/-
  The law's few: a copy of a herd.
-/
import Derived.Test.YtlnlddnjalfamaaGreatDoorJc
import Derived.Deep.RegionHeld3
import Derived.Deep.AppendLies
namespace Go.Proofs.YtlnlddnjalfamaaGreatDoor
open Go.RowKit Go.Deep

/-- pairs that lie one after the other, as values -/
def pairs (A B : Nat → Int) (k : Nat) : List Value := (List.range (k * 2)).map (fun j => .int .i64 (if j % 2 = 0 then A (j / 2) else B (j / 2)))
theorem pairs_len (A B : Nat → Int) (k : Nat) : (pairs A B k).length = k * 2 := by simp [pairs]
theorem pairs_at {A B : Nat → Int} {k j : Nat} (h : j < k * 2) : (pairs A B k)[j]? = some (.int .i64 (if j % 2 = 0 then A (j / 2) else B (j / 2))) := by
  unfold pairs; rw [List.getElem?_map, List.getElem?_range h]; rfl
theorem pairs_own {w : World} {base g cap k : Nat} {t : TypeId} {A B : Nat → Int} (h : w.ownsRow base t 2 (.slice (some ⟨g, 0, none⟩) k cap) k (pairs A B k)) : PairsAt w (.slice (some ⟨g, 0, none⟩) k cap) k A B := by
  refine ⟨_, g, 0, cap, rfl, fun _ => rfl, fun i hi => ⟨?_, ?_⟩⟩
  · rw [show 0 + i * 2 = i * 2 by omega, h.cellAt _ (by omega), pairs_at (by omega), if_pos (by omega), show i * 2 / 2 = i by omega]
  · rw [show 0 + i * 2 + 1 = i * 2 + 1 by omega, h.cellAt _ (by omega), pairs_at (by omega), if_neg (by omega), show (i * 2 + 1) / 2 = i by omega]
def FewPost (w : World) (n : Int) (A B : Nat → Int) (k : Nat) (e : Ending) (w' : World) : Prop := ∃ a cap, e = .returned (.tuple #[.int .i64 n, .slice a k cap]) ∧ PairsAt w' (.slice a k cap) k A B ∧ Kept w w'
set_option maxRecDepth 100000 in
set_option maxHeartbeats 4000000 in
theorem few_any (w : World) (n : Int) (a : Option Addr) (l cap k : Nat) (A B : Nat → Int) (hk : k = min l 101) (hE : PairsAt w (.slice a l cap) l A B) (hl : l ≤ cap) (hnil : a = none → cap = 0) (hcap : cap ≤ maxLen) :
    Calls Tryz.prog 9 #[.agg #[.int .i64 n, .slice a l cap]] w (FewPost w n A B k) := by
  obtain ⟨a', b, o, cap', e, ha, hc⟩ := hE
  cases e
  unfold maxLen at hcap
  obtain ⟨i1, hi, hz0, hz1, hz2⟩ := info_parts Tryz.infoPair
  have d0 : (w.alloc (.cells #[.int .i64 n, .slice a l cap] 24)).cell? ⟨w.heap.size, 0, none⟩ = some (.int .i64 n) := by unfold World.cell?; dsimp only; rw [blk_alloc_new]; rfl
  have d1 : (w.alloc (.cells #[.int .i64 n, .slice a l cap] 24)).cell? ⟨w.heap.size, 1, none⟩ = some (.slice a l cap) := by unfold World.cell?; dsimp only; rw [blk_alloc_new]; rfl
  have hkA : Kept w (w.alloc (.cells #[.int .i64 n, .slice a l cap] 24)) := (Kept.refl w).alloc _
  have hsA : w.heap.size + 1 ≤ (w.alloc (.cells #[.int .i64 n, .slice a l cap] 24)).heap.size := by simp
  go_enter Tryz.func9, Tryz.ntmps9
  go_wp2_with fail
  generalize w.alloc (.cells #[.int .i64 n, .slice a l cap] 24) = W at *
  have hW0 : w.heap.size < W.heap.size := hsA
  by_cases hl0 : l = 0
  · subst hl0
    obtain rfl : k = 0 := by omega
    clear hk
    cases a with
    | none =>
      obtain rfl := hnil rfl
      go_region_held3 (fun w' => w'.cell? ⟨w.heap.size, 0, none⟩ = some (.int .i64 n) ∧ w'.cell? ⟨w.heap.size, 1, none⟩ = some (.slice none 0 0) ∧ Kept W w')
        (exact keep2 d0 d1 (by repeat (first | assumption | exact Kept.refl _ | apply Kept.drew | apply Kept.drewN | apply Kept.alloc | refine Kept.trans ?_ (by assumption)))) (fail)
      all_goals
        go_wp2_with fail
        go_ret2
        exact ⟨_, _, rfl, ⟨_, 0, 0, _, rfl, fun h => absurd h (by decide), fun i hi => absurd hi (by omega)⟩, (by repeat (first | assumption | exact Kept.refl _ | apply Kept.drew | apply Kept.drewN | apply Kept.alloc | refine Kept.trans ?_ (by assumption)))⟩
    | some ad =>
      have g2 : (0 : Int) ≤ cap := by omega
      go_region_held3 (fun w' => w'.cell? ⟨w.heap.size, 0, none⟩ = some (.int .i64 n) ∧ w'.cell? ⟨w.heap.size, 1, none⟩ = some (.slice (some ad) 0 cap) ∧ Kept W w')
        (exact keep2 d0 d1 (by repeat (first | assumption | exact Kept.refl _ | apply Kept.drew | apply Kept.drewN | apply Kept.alloc | refine Kept.trans ?_ (by assumption)))) (fail)
      all_goals
        go_wp2_with fail
        go_ret2
        exact ⟨_, _, rfl, ⟨_, 0, 0, _, rfl, fun h => absurd h (by decide), fun i hi => absurd hi (by omega)⟩, (by repeat (first | assumption | exact Kept.refl _ | apply Kept.drew | apply Kept.drewN | apply Kept.alloc | refine Kept.trans ?_ (by assumption)))⟩
  · have hl1 : 0 < l := by omega
    obtain rfl := ha hl1
    have hsrc : ∀ j, j < l * 2 → W.cell? ((⟨b, o, none⟩ : Addr).add j) = some (.int .i64 (if j % 2 = 0 then A (j / 2) else B (j / 2))) := fun j hj => by
      obtain ⟨p1, p2⟩ := hc (j / 2) (by omega)
      rw [add_at]
      by_cases e : j % 2 = 0
      · rw [if_pos e, show o + j = o + j / 2 * 2 by omega]; exact hkA.cellSome p1
      · rw [if_neg e, show o + j = o + j / 2 * 2 + 1 by omega]; exact hkA.cellSome p2
    have hone : ∀ k, ∀ u ∈ pairs A B k, u.oneCell' = true := fun k u hu => by
      simp only [pairs, List.mem_map] at hu
      obtain ⟨i, _, rfl⟩ := hu; rfl
    have hnews : ∀ k, k ≤ l → ∀ j u, (pairs A B k)[j]? = some u → ((W.alloc (.cells #[] 94)).drew).cell? ((⟨b, o, none⟩ : Addr).add j) = some u := fun k hk j u h => by
      have hj : j < k * 2 := by
        rcases Nat.lt_or_ge j (k * 2) with e | e
        · exact e
        · rw [List.getElem?_eq_none (by rw [pairs_len]; omega)] at h; cases h
      rw [pairs_at hj] at h
      cases h
      exact (((Kept.refl W).alloc _).drew).cellSome (hsrc j (by omega))
    have HOW := Lib.hid (own_zeroT W W.heap.size 94 2 (Nat.le_refl _))
    clear hsrc hc ha
    by_cases h21 : 101 < l
    · obtain rfl : k = 101 := by omega
      clear hk
      have g1 : (101 : Int) < l := by omega
      have g2 : (101 : Int) ≤ cap := by omega
      have HSRC := Lib.hid (hnews 101 (by omega))
      have HONE := Lib.hid (hone 101)
      clear hnews hone
      go_region_held3 (fun w' => w'.cell? ⟨w.heap.size, 0, none⟩ = some (.int .i64 n) ∧ w'.cell? ⟨w.heap.size, 1, none⟩ = some (.slice (some ⟨b, o, none⟩) l cap) ∧ Kept W w')
        (first | exact keep2 d0 d1 (by repeat (first | assumption | exact Kept.refl _ | apply Kept.drew | apply Kept.drewN | apply Kept.alloc | refine Kept.trans ?_ (by assumption))) | exact keep2 d0 d1 HKG.out)
        ((refine step_append_lies _ (by rfl) _ _ _ (by rfl) W.heap.size 94 i1 (.agg #[.int .i64 0, .int .i64 0]) 2 16 (by kernel_rfl) hi hz0 hz1 hz2 rfl (by omega) (.slice (some ⟨W.heap.size, 0, none⟩) 0 0) 0 [] (by rfl) (HOW.out.drew) ⟨b, o, none⟩ 101 cap (pairs A B 101) (by rfl) (pairs_len A B 101) (HSRC.out) HONE.out (by omega) (by unfold maxLen; omega) (by omega) (by simp <;> omega) (W.heap.size + 1) (by simp) ?_; intro g gcap w2 hO3 hgr hgl hgs; have HKG := Lib.hid (Kept.step (((Kept.refl W).alloc (.cells #[] 94)).drew) (grew_X hgr HOW.out.drew) (fun i hi => hi))))
      all_goals
        go_wp2_with fail
        go_ret2
        exact ⟨_, _, rfl, pairs_own (by simpa using hO3), hkA.trans HKG.out⟩
    · obtain rfl : l = k := by omega
      clear hk
      have g1 : ¬ (101 : Int) < l := by omega
      have g2 : (l : Int) ≤ cap := by omega
      have HSRC := Lib.hid (hnews l (by omega))
      have HONE := Lib.hid (hone l)
      clear hnews hone
      go_region_held3 (fun w' => w'.cell? ⟨w.heap.size, 0, none⟩ = some (.int .i64 n) ∧ w'.cell? ⟨w.heap.size, 1, none⟩ = some (.slice (some ⟨b, o, none⟩) l cap) ∧ Kept W w')
        (first | exact keep2 d0 d1 (by repeat (first | assumption | exact Kept.refl _ | apply Kept.drew | apply Kept.drewN | apply Kept.alloc | refine Kept.trans ?_ (by assumption))) | exact keep2 d0 d1 HKG.out)
        ((refine step_append_lies _ (by rfl) _ _ _ (by rfl) W.heap.size 94 i1 (.agg #[.int .i64 0, .int .i64 0]) 2 16 (by kernel_rfl) hi hz0 hz1 hz2 rfl (by omega) (.slice (some ⟨W.heap.size, 0, none⟩) 0 0) 0 [] (by rfl) (HOW.out.drew) ⟨b, o, none⟩ l cap (pairs A B l) (by rfl) (pairs_len A B l) (HSRC.out) HONE.out (by omega) (by unfold maxLen; omega) (by omega) (by simp <;> omega) (W.heap.size + 1) (by simp) ?_; intro g gcap w2 hO3 hgr hgl hgs; have HKG := Lib.hid (Kept.step (((Kept.refl W).alloc (.cells #[] 94)).drew) (grew_X hgr HOW.out.drew) (fun i hi => hi))))
      all_goals
        go_wp2_with fail
        go_ret2
        exact ⟨_, _, rfl, pairs_own (by simpa using hO3), hkA.trans HKG.out⟩
end Go.Proofs.YtlnlddnjalfamaaGreatDoor
