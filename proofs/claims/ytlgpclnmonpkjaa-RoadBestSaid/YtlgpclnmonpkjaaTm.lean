/-
  Package road: a copy of a list of spots (slices.Clone).
-/
import Derived.Test.YtlgpclnmonpkjaaTh
import Derived.Laws.OwnMore
import Derived.OwnWalk
namespace Go.Proofs.Ytlgpclnmonpkjaa
open Go.RowKit Go.Deep

theorem Try.infoSpot : (Try.prog.info? 26).map (fun i => (i.zero, i.size, i.bytes)) = some (some (.agg #[.int .i64 0, .int .i64 0]), 2, 16) := by kernel_rfl
theorem own_shape {w : World} {base e size : Nat} {v : Value} {n : Nat} {xs : List Value} (h : w.ownsRow base e size v n xs) : ∃ a cap, v = .slice a n cap := by
  rcases h.2 with ⟨rfl, rfl⟩ | ⟨g, cap, cur, rfl, _⟩
  · exact ⟨none, 0, rfl⟩
  · exact ⟨_, cap, rfl⟩
theorem own_some {w : World} {base e size : Nat} {v : Value} {n : Nat} {xs : List Value} (h : w.ownsRow base e size v n xs) (hn : 1 ≤ n) : ∃ g cap, v = .slice (some ⟨g, 0, none⟩) n cap := by
  rcases h.2 with ⟨_, h0⟩ | ⟨g, cap, cur, rfl, _⟩
  · omega
  · exact ⟨g, cap, rfl⟩
theorem own_keptY {S : Nat → Prop} {w w' : World} {base e size : Nat} {v : Value} {n : Nat} {xs : List Value} (h : w.ownsRow base e size v n xs) (k : KeptX S w w') (hS : ∀ b c f, w.heap[b]? = some (.cells c e f) → base ≤ b → ¬ S b) : w'.ownsRow base e size v n xs := by
  obtain ⟨h1, h⟩ := h
  refine ⟨h1, ?_⟩
  rcases h with h | ⟨g, cap, cur, e1, e2, e3, rest⟩
  · exact .inl h
  · have hlt : g < w.heap.size := (Array.getElem?_eq_some_iff.1 e3).1
    exact .inr ⟨g, cap, cur, e1, e2, (k.block g hlt (hS g _ _ e3 e2)).trans e3, rest⟩
/-- k spots in memory -/
def spsL (H : Nat → Sp) : Nat → List Value
  | 0 => []
  | k + 1 => spsL H k ++ [.int .i64 (((H k).1 : Nat) : Int), .int .i64 (((H k).2 : Nat) : Int)]
theorem spsL_len (H : Nat → Sp) (k : Nat) : (spsL H k).length = k * 2 := by
  induction k with
  | zero => rfl
  | succ k ih => simp only [spsL, List.length_append, ih, List.length_cons, List.length_nil]; omega
theorem spsL_get (H : Nat → Sp) : ∀ k i, i < k → (spsL H k)[i * 2]? = some (.int .i64 (((H i).1 : Nat) : Int)) ∧ (spsL H k)[i * 2 + 1]? = some (.int .i64 (((H i).2 : Nat) : Int)) := by
  intro k
  induction k with
  | zero => intro i hi; omega
  | succ k ih =>
    intro i hi
    simp only [spsL]
    have hl := spsL_len H k
    by_cases e : i = k
    · subst e
      rw [List.getElem?_append_right (by omega), List.getElem?_append_right (by omega), hl, show i * 2 - i * 2 = 0 by omega, show i * 2 + 1 - i * 2 = 1 by omega]
      exact ⟨rfl, rfl⟩
    · rw [List.getElem?_append_left (by omega), List.getElem?_append_left (by omega)]
      exact ih i (by omega)
theorem spsL_congr {H G : Nat → Sp} : ∀ k, (∀ i, i < k → H i = G i) → spsL H k = spsL G k := by
  intro k
  induction k with
  | zero => intro _; rfl
  | succ k ih => intro h; simp only [spsL]; rw [ih (fun i hi => h i (by omega)), h k (by omega)]
theorem spsL_one (H : Nat → Sp) (k : Nat) : ∀ u ∈ spsL H k, u.oneCell' = true := by
  induction k with
  | zero => intro u hu; simp [spsL] at hu
  | succ k ih =>
    intro u hu
    simp only [spsL, List.mem_append, List.mem_cons, List.not_mem_nil, or_false] at hu
    rcases hu with h | rfl | rfl
    · exact ih u h
    · rfl
    · rfl
theorem spsL_cells {w : World} {b o k : Nat} {H : Nat → Sp} (h : ∀ i, i < k → w.cell? ⟨b, o + i * 2, none⟩ = some (.int .i64 (((H i).1 : Nat) : Int)) ∧ w.cell? ⟨b, o + i * 2 + 1, none⟩ = some (.int .i64 (((H i).2 : Nat) : Int))) :
    ∀ (j : Nat) (u : Value), (spsL H k)[j]? = some u → w.cell? ((⟨b, o, none⟩ : Addr).add j) = some u := fun j u hj => by
  have hlt : j < k * 2 := by
    rcases Nat.lt_or_ge j (k * 2) with h1 | h1
    · exact h1
    · rw [List.getElem?_eq_none (by rw [spsL_len]; exact h1)] at hj; cases hj
  rw [add_at]
  have hd : j = j / 2 * 2 ∨ j = j / 2 * 2 + 1 := by omega
  have h2 : j / 2 < k := by omega
  generalize j / 2 = i at *
  rcases hd with rfl | rfl
  · rw [(spsL_get H k i h2).1] at hj
    cases hj
    exact (h i h2).1
  · rw [(spsL_get H k i h2).2] at hj
    cases hj
    rw [← Nat.add_assoc]
    exact (h i h2).2
theorem SpsAt.of_own {w : World} {base : Nat} {v : Value} {k : Nat} {H : Nat → Sp} (h : w.ownsRow base 26 2 v k (spsL H k)) : SpsAt w v k H := by
  obtain ⟨hl, h0⟩ := h
  rcases h0 with ⟨rfl, h1⟩ | ⟨g, cap, cur, rfl, h2⟩
  · have hk : k = 0 := by rw [h1] at hl; simp at hl; omega
    subst hk
    exact ⟨none, 0, 0, 0, rfl, fun h => by omega, fun i hi => by omega⟩
  · have h : w.ownsRow base 26 2 (.slice (some ⟨g, 0, none⟩) k cap) k (spsL H k) := ⟨hl, .inr ⟨g, cap, cur, rfl, h2⟩⟩
    refine ⟨_, g, 0, cap, rfl, fun _ => rfl, fun i hi => ?_⟩
    obtain ⟨e1, e2⟩ := spsL_get H k i hi
    exact ⟨by rw [Nat.zero_add, h.cellAt _ (by omega), e1], by rw [Nat.zero_add, h.cellAt _ (by omega), e2]⟩
theorem spsL_set (H : Nat → Sp) (x : Sp) (i : Nat) : ∀ k, i < k → ((spsL H k).set (i * 2) (.int .i64 ((x.1 : Nat) : Int))).set (i * 2 + 1) (.int .i64 ((x.2 : Nat) : Int)) = spsL (fun j => if j = i then x else H j) k := by
  intro k
  induction k with
  | zero => intro h; omega
  | succ k ih =>
    intro h
    have hl := spsL_len H k
    simp only [spsL]
    by_cases e : i = k
    · subst e
      rw [List.set_append_right _ _ (by omega), List.set_append_right _ _ (by omega), hl, show i * 2 - i * 2 = 0 by omega, show i * 2 + 1 - i * 2 = 1 by omega, if_pos rfl, spsL_congr (G := fun j => if j = i then x else H j) i (fun j hj => by simp only [show ¬ j = i by omega, if_false])]
      rfl
    · rw [List.set_append_left _ _ (by omega), List.set_append_left _ _ (by rw [List.length_set]; omega), ih (by omega), if_neg (fun h => e h.symm)]
def ClonePost (w : World) (H : Nat → Sp) (k : Nat) (e : Ending) (w' : World) : Prop := ∃ v, e = .returned v ∧ w'.ownsRow w.heap.size 26 2 v k (spsL H k) ∧ Kept w w'
set_option maxRecDepth 100000 in
set_option maxHeartbeats 2000000 in
theorem clone_any (w : World) (v : Value) (k : Nat) (H : Nat → Sp) (hS : SpsAt w v k H) (hk1 : 1 ≤ k) (hk : k ≤ 100) :
    Calls Try.prog 77 #[v] w (ClonePost w H k) := by
  obtain ⟨a, b, o, cap, rfl, ha, hc⟩ := hS
  obtain rfl := ha (by omega)
  obtain ⟨i0, hi, hz0, hz1, hz2⟩ := info_parts Try.infoSpot
  have he : ∀ W : World, (binOp .eql 36 (.slice (some ⟨b, o, none⟩) k cap) (.slice none 0 0)).run Try.prog W = .ok (.bool false) W := fun _ => rfl
  go_enter Try.func77, Try.ntmps77
  go_wp2_with (first | (at_builtin; refine wpList_append_own _ rfl _ _ 36 rfl w.heap.size 26 i0 (.agg #[.int .i64 0, .int .i64 0]) 2 16 Try.underlying36 hi hz0 hz1 hz2 rfl (by decide) _ 0 [] rfl (World.ownsRow_made (base := w.heap.size) (e := 26) (size := 2) w #[] 0 (Nat.le_refl _) (Nat.zero_le _) rfl) ⟨b, o, none⟩ k cap (spsL H k) rfl (spsL_len H k) (spsL_cells (fun i hi => ⟨((Kept.refl w).alloc _).cellSome (hc i hi).1, ((Kept.refl w).alloc _).cellSome (hc i hi).2⟩)) (spsL_one H k) (by unfold maxLen; omega) (by omega) (by simp) ?_))
  intro ov' w2 hO3 hgr _
  have hK2 : Kept w w2 := ((Kept.refl w).alloc _).grew hgr (World.ownsRow_made (base := w.heap.size) (e := 26) (size := 2) w #[] 0 (Nat.le_refl _) (Nat.zero_le _) rfl) (Nat.le_refl _)
  have hO4 : w2.ownsRow w.heap.size 26 2 ov' k (spsL H k) := by simpa using hO3
  obtain ⟨va, vcap, rfl⟩ := own_shape hO4
  clear hO3 hgr
  go_wp2_with fail
  go_ret
  exact ⟨_, rfl, hO4, hK2⟩
end Go.Proofs.Ytlgpclnmonpkjaa
