/-
  The reference's Rest: its first rows of zeros.
-/
import Derived.Test.YtfmcjbddbomohaaRa
namespace Go.Proofs.Ytfmcjbddbomohaa
open Go.RowKit Go.Deep

def rowsL (br : Nat → Nat) (n k : Nat) : List Value := (List.range k).map (fun t => .slice (some ⟨br t, 0, none⟩) n n)
theorem rowsL_len (br : Nat → Nat) (n k : Nat) : (rowsL br n k).length = k := by simp [rowsL]
theorem rowsL_at {br : Nat → Nat} {n k j : Nat} (h : j < k) : (rowsL br n k)[j]? = some (.slice (some ⟨br j, 0, none⟩) n n) := by
  unfold rowsL; rw [List.getElem?_map, List.getElem?_range h]; rfl
/-- rows of zeros, so far k of them, in a slice that was made by append -/
structure Zeros (base : Nat) (w : World) (n k : Nat) (v : Value) (br : Nat → Nat) : Prop where
  own : w.ownsRow base 27 1 v k (rowsL br n k)
  row : ∀ t, t < k → w.rowIs (br t) 3 n (fun _ => .int .i64 0)
  br0 : ∀ t, t < k → base ≤ br t
  inj : ∀ t u, t < k → u < k → t ≠ u → br t ≠ br u
theorem rowIs_ne_own {w : World} {base b n k g cap : Nat} {f : Nat → Value} {xs : List Value} (h : w.rowIs b 3 n f) (ho : w.ownsRow base 27 1 (.slice (some ⟨g, 0, none⟩) k cap) k xs) : b ≠ g := by
  rintro rfl
  obtain ⟨c, hc, _⟩ := h
  rcases ho.2 with ⟨h1, _⟩ | ⟨g', cap', cur, h1, _, hg, _⟩
  · cases h1
  · cases h1
    rw [hc] at hg
    have : (3 : TypeId) = 27 := by injection hg with hg; injection hg
    exact absurd this (by decide)
theorem Zeros.tab {base : Nat} {w : World} {n m : Nat} {v : Value} {br : Nat → Nat} (h : Zeros base w n m v br) (hm : 0 < m) : ∃ g cap, v = .slice (some ⟨g, 0, none⟩) m cap ∧ RTab base w m n g br (fun _ _ => 0) := by
  obtain ⟨g, cap, rfl, _⟩ := h.own.form hm
  exact ⟨g, cap, rfl, fun k hk => by rw [h.own.cellAt k (by omega), rowsL_at hk], h.row, h.br0, fun k hk => rowIs_ne_own (h.row k hk) h.own, fun k l hk hl => h.inj k l hk hl⟩
theorem own_grown_row {w w' : World} {base b n k : Nat} {v : Value} {f : Nat → Value} {xs : List Value} (h : w.rowIs b 3 n f) (ho : w.ownsRow base 27 1 v k xs) (hg : w.grownBy w' v.ownBlock) : w'.rowIs b 3 n f := by
  refine h.of_block (hg.block b h.lt (fun e => ?_))
  rcases ho.2 with ⟨h1, _⟩ | ⟨g', cap', cur, h1, _⟩
  · subst h1; cases e
  · subst h1
    have : b = g' := by simpa [Value.ownBlock] using e
    exact rowIs_ne_own h ho this
theorem Zeros.grow {base : Nat} {w w1 w2 : World} {n k : Nat} {v v' : Value} {br : Nat → Nat} (h : Zeros base w n k v br) (hb : base ≤ w.heap.size) (hk1 : Kept w w1) (b : Nat) (hbw : b = w.heap.size) (hrow : w1.rowIs b 3 n (fun _ => .int .i64 0)) (ho1 : w1.ownsRow base 27 1 v k (rowsL br n k))
    (hg : w1.grownBy w2 v.ownBlock) (ho : w2.ownsRow base 27 1 v' (k + 1) (rowsL br n k ++ [.slice (some ⟨b, 0, none⟩) n n])) : Zeros base w2 n (k + 1) v' (fun t => if t = k then b else br t) := by
  refine ⟨?_, fun t ht => ?_, fun t ht => ?_, fun t u ht hu hne => ?_⟩
  · have e : rowsL (fun t => if t = k then b else br t) n (k + 1) = rowsL br n k ++ [.slice (some ⟨b, 0, none⟩) n n] := by
      unfold rowsL
      rw [List.range_succ, List.map_append]
      congr 1
      · exact List.map_congr_left (fun t ht => by have h1 := List.mem_range.1 ht; simp only; rw [if_neg (by omega)])
      · simp
    rw [e]; exact ho
  · by_cases e : t = k
    · subst e; rw [if_pos rfl]; exact own_grown_row hrow ho1 hg
    · rw [if_neg e]; exact own_grown_row (hk1.row (h.row t (by omega))) ho1 hg
  · by_cases e : t = k
    · rw [if_pos e]; omega
    · rw [if_neg e]; exact h.br0 t (by omega)
  · by_cases e : t = k
    · rw [if_pos e, if_neg (by omega)]
      have := (h.row u (by omega)).lt; omega
    · rw [if_neg e]
      by_cases e2 : u = k
      · rw [if_pos e2]; have := (h.row t (by omega)).lt; omega
      · rw [if_neg e2]; exact h.inj t u (by omega) (by omega) hne
/-- what the next candidate turns -/
theorem cells6 (W : World) (i j : Nat) (t : TypeId) (c : Nat) (hc : c < 3) : (W.alloc (.cells #[.int .i64 i, .int .i64 ((j : Int) + 1), .int .i64 ((i : Int) + 1), .int .i64 j, .int .i64 ((i : Int) + 1), .int .i64 ((j : Int) + 1)] t)).cell? ⟨W.heap.size, c * 2, none⟩ = some (.int .i64 (cand i j c).1) ∧ (W.alloc (.cells #[.int .i64 i, .int .i64 ((j : Int) + 1), .int .i64 ((i : Int) + 1), .int .i64 j, .int .i64 ((i : Int) + 1), .int .i64 ((j : Int) + 1)] t)).cell? ⟨W.heap.size, c * 2 + 1, none⟩ = some (.int .i64 (cand i j c).2) := by
  have : c = 0 ∨ c = 1 ∨ c = 2 := by omega
  rcases this with rfl | rfl | rfl <;> (constructor <;> (unfold World.cell?; dsimp only; rw [blk_alloc_new]; rfl))
theorem cand_le (i j c : Nat) (hc : c < 3) : (cand i j c).1 ≤ i + 1 ∧ (cand i j c).2 ≤ j + 1 ∧ i ≤ (cand i j c).1 ∧ j ≤ (cand i j c).2 ∧ i + j < (cand i j c).1 + (cand i j c).2 := by
  have : c = 0 ∨ c = 1 ∨ c = 2 := by omega
  rcases this with rfl | rfl | rfl
  · rw [cand0]; simp only; omega
  · rw [cand1]; simp only; omega
  · rw [cand2]; simp only; omega
theorem rb_bd {m n i j : Nat} {L : Nat → Nat → Int} {B : Int} (hB : 0 ≤ B) (hL : ∀ p q, p < m → q < n → i ≤ p → j ≤ q → i + j < p + q → 0 ≤ L p q ∧ L p q ≤ B) (c : Nat) (hc : c ≤ 3) : 0 ≤ (rb m n L i j c).2 ∧ (rb m n L i j c).2 ≤ B := by
  induction c with
  | zero => exact ⟨Int.le_refl _, hB⟩
  | succ c ih =>
    have h1 := cand_le i j c (by omega)
    rw [rb]
    split
    · rename_i h
      exact hL _ _ h.1 h.2.1 h1.2.2.1 h1.2.2.2.1 h1.2.2.2.2
    · exact ih (by omega)
end Go.Proofs.Ytfmcjbddbomohaa
