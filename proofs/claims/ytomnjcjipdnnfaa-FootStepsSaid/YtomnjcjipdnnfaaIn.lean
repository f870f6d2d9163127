/-
  Rows of numbers that a call makes by append.
-/
import Derived.Test.YtomnjcjipdnnfaaK
namespace Go.Proofs.Ytomnjcjipdnnfaa
open Go.RowKit Go.Deep

def ints (f : Nat → Int) (k : Nat) : List Value := (List.range k).map (fun i => .int .i64 (f i))
theorem ints_get {f : Nat → Int} {k j : Nat} {u : Value} (h : (ints f k)[j]? = some u) : j < k ∧ u = .int .i64 (f j) := by
  unfold ints at h
  rw [List.getElem?_map] at h
  by_cases e : j < k
  · rw [List.getElem?_range e] at h
    exact ⟨e, by simpa using h.symm⟩
  · rw [List.getElem?_eq_none (by simpa using e)] at h; cases h
theorem ints_at {w : World} {base : Nat} {v : Value} {k : Nat} {f : Nat → Int} (h : w.ownsRow base 3 1 v k (ints f k)) : IntsAt w v k f := by
  have h1 := CellsAt.of_own h
  obtain ⟨a, b, o, cap, e, h2, h3⟩ := h1
  refine ⟨a, b, o, cap, e, h2, fun i hi => ?_⟩
  rw [h3 i hi]
  simp [ints, hi]
theorem ints_congr {f g : Nat → Int} {k : Nat} (h : ∀ i, i < k → f i = g i) : ints f k = ints g k := by
  unfold ints
  apply List.map_congr_left
  intro j hj
  rw [h j (List.mem_range.1 hj)]
/-- one number more -/
def snI (f : Nat → Int) (L : Nat) (x : Int) : Nat → Int := fun k => if k = L then x else f k
theorem ints_sn (f : Nat → Int) (L : Nat) (x : Int) : ints (snI f L x) (L + 1) = ints f L ++ [.int .i64 x] := by
  unfold ints
  rw [List.range_succ, List.map_append]
  congr 1
  · apply List.map_congr_left
    intro j hj
    have := List.mem_range.1 hj
    unfold snI
    rw [if_neg (by omega)]
  · simp [snI]
theorem ints_cell {w : World} {base g cap : Nat} {k : Nat} {f : Nat → Int} (h : w.ownsRow base 3 1 (.slice (some ⟨g, 0, none⟩) k cap) k (ints f k)) {i : Nat} (hi : i < k) : w.cell? ⟨g, i, none⟩ = some (.int .i64 (f i)) := by
  obtain ⟨a, b, o, c, e, h2, h3⟩ := ints_at h
  injection e with e1 e2 e3
  have := h2 (by omega)
  rw [← e1] at this
  injection this with this
  injection this with t1 t2
  subst t1
  subst t2
  have := h3 i hi
  rwa [Nat.zero_add] at this
theorem news_one (W : World) (x : Value) (t : TypeId) : ∀ (j : Nat) (u : Value), [x][j]? = some u → (W.alloc (.cells #[x] t)).cell? ((⟨W.heap.size, 0, none⟩ : Addr).add j) = some u := fun j u h => by
  have : j = 0 := by
    rcases Nat.lt_or_ge j 1 with e | e
    · omega
    · rw [List.getElem?_eq_none (by simp; omega)] at h; cases h
  subst this
  cases h
  rw [add_at]
  unfold World.cell?
  dsimp only
  rw [blk_alloc_new]
  rfl
end Go.Proofs.Ytomnjcjipdnnfaa
