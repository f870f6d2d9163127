/-
  The law's few: a copy of a yard.
-/
import Derived.Test.YtlnpipkhofhlnaaLa
import Derived.Laws.OwnMore
import Derived.Deep.RegionLaw
import Derived.Deep.AppendLies
import Derived.BigRegion
import Derived.RegionTactic
namespace Go.Proofs.Ytlnpipkhofhlnaa
open Go.RowKit Go.Deep

theorem Try.infoPair : (Try.prog.info? 71).map (fun i => (i.zero, i.size, i.bytes)) = some (some (.agg #[.int .i64 0, .int .i64 0]), 2, 16) := by kernel_rfl
def pairs (A B : Nat → Int) (k : Nat) : List Value := (List.range (k * 2)).map (fun j => .int .i64 (if j % 2 = 0 then A (j / 2) else B (j / 2)))
theorem pairs_len (A B : Nat → Int) (k : Nat) : (pairs A B k).length = k * 2 := by simp [pairs]
theorem pairs_at {A B : Nat → Int} {k j : Nat} (h : j < k * 2) : (pairs A B k)[j]? = some (.int .i64 (if j % 2 = 0 then A (j / 2) else B (j / 2))) := by
  unfold pairs; rw [List.getElem?_map, List.getElem?_range h]; rfl
theorem pairs_own {w : World} {base g cap k : Nat} {t : TypeId} {A B : Nat → Int} (h : w.ownsRow base t 2 (.slice (some ⟨g, 0, none⟩) k cap) k (pairs A B k)) : PairsAt w (.slice (some ⟨g, 0, none⟩) k cap) k A B := by
  refine ⟨_, g, 0, cap, rfl, fun _ => rfl, fun i hi => ⟨?_, ?_⟩⟩
  · rw [show 0 + i * 2 = i * 2 by omega, h.cellAt _ (by omega), pairs_at (by omega), if_pos (by omega), show i * 2 / 2 = i by omega]
  · rw [show 0 + i * 2 + 1 = i * 2 + 1 by omega, h.cellAt _ (by omega), pairs_at (by omega), if_neg (by omega), show (i * 2 + 1) / 2 = i by omega]
theorem own_zeroT (W : World) (base : Nat) (t : TypeId) (s : Nat) (hb : base ≤ W.heap.size) : (W.alloc (.cells #[] t)).ownsRow base t s (.slice (some ⟨W.heap.size, 0, none⟩) 0 0) 0 [] := by
  refine ⟨by simp, .inr ⟨W.heap.size, 0, #[], rfl, hb, ?_, Nat.le_refl _, Nat.zero_le _, by simp, by simp⟩⟩
  rw [blk_alloc_new]

end Go.Proofs.Ytlnpipkhofhlnaa
