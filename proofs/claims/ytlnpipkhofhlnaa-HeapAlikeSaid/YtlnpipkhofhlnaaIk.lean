/-
  Rows of ints: one number changed.
-/
import Derived.Test.YtlnpipkhofhlnaaLa
import Derived.Test.YtlnpipkhofhlnaaA
namespace Go.Proofs.Ytlnpipkhofhlnaa
open Go.RowKit Go.Deep

theorem ints_set (f : Nat → Int) (N j : Nat) (x : Int) : (ints f N).set j (.int .i64 x) = ints (fun i => if i = j then x else f i) N := by
  apply List.ext_getElem?
  intro i
  rw [List.getElem?_set]
  simp only [ints, List.length_map, List.length_range, List.getElem?_map]
  by_cases e : j = i
  · subst e
    by_cases h : j < N <;> simp [h]
  · have e' : ¬ i = j := fun h => e h.symm
    by_cases h : i < N <;> simp [e, e', h]
theorem ints_congr {f g : Nat → Int} {N : Nat} (h : ∀ i, i < N → f i = g i) : ints f N = ints g N := by
  unfold ints
  apply List.map_congr_left
  intro i hi
  rw [h i (by simpa using hi)]
theorem ints_some (f : Nat → Int) {N j : Nat} (h : j < N) : (ints f N)[j]? = some (.int .i64 (f j)) := by simp [ints, h]
theorem ints_len (f : Nat → Int) (N : Nat) : (ints f N).length = N := by simp [ints]
theorem degree_w (w : World) (ev : Value) (n : Nat) (A B : Nat → Int) (v : Int) (d : Nat) (hd : d = deg A B n v) (hE : PairsAt w ev n A B) (hn : n ≤ 1000000) :
    Calls Try.prog 25 #[ev, .int .i64 v] w fun e w' => e = .returned (.int .i64 d) ∧ w = w' := by rw [hd]; exact degree_any w ev n A B v hE hn
theorem between_w (w : World) (ev : Value) (n : Nat) (A B : Nat → Int) (v u : Int) (d : Nat) (hd : d = btw A B n v u) (hE : PairsAt w ev n A B) (hn : n ≤ 1000000) :
    Calls Try.prog 58 #[ev, .int .i64 v, .int .i64 u] w fun e w' => e = .returned (.int .i64 d) ∧ w = w' := by rw [hd]; exact between_any w ev n A B v u hE hn
theorem ints_succ (f : Nat → Int) (t : Nat) : ints f (t + 1) = ints f t ++ [.int .i64 (f t)] := by simp [ints, List.range_succ]
end Go.Proofs.Ytlnpipkhofhlnaa
