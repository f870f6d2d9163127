/-
  The reference of gait: Sign.
-/
import Derived.Test.YthigeafojekclaaDoorGi
namespace Go.Proofs.YthigeafojekclaaDoor
open Go.RowKit Go.Deep Go.Shelf

/-- what a sign of a string means -/
def sgS (s : ByteArray) (i : Nat) : Int := if chr s i = 43 then 1 else -1
theorem sgS_row {n : Nat} {p : Nat → Bool} {i : Nat} (h : i < n) : sgS (rowS n p) i = sg (p i) := by
  unfold sgS
  rw [chr_rowS h]
  cases p i <;> rfl
theorem sgS_cases (s : ByteArray) (i : Nat) : sgS s i = 1 ∨ sgS s i = -1 := by unfold sgS; split <;> simp
theorem Sign_any (w : World) (s : ByteArray) (i : Nat) (hi : i < s.size) : Calls Tryd.prog 30 #[.string s, .int .i64 i] w fun e w' => e = .returned (.int .i64 (sgS s i)) ∧ w = w' := by
  have s2 : (i : Int) < (s.size : Int) := by omega
  have s3 : (0 : Int) ≤ (i : Int) := by omega
  have hat := chr_at hi
  by_cases h : chr s i = 43
  · have e0 : sgS s i = 1 := by unfold sgS; rw [if_pos h]
    rw [e0]
    have e1 : (chr s i == 43) = true := by simp [h]
    generalize chr s i = c at *
    clear h e0
    go_enter Tryd.func30, Tryd.ntmps30
    go_wp2_with fail
    go_ret
    exact ⟨rfl, rfl⟩
  · have e0 : sgS s i = -1 := by unfold sgS; rw [if_neg h]
    rw [e0]
    have e1 : (chr s i == 43) = false := by simpa using h
    generalize chr s i = c at *
    clear h e0
    go_enter Tryd.func30, Tryd.ntmps30
    go_wp2_with fail
    go_ret
    exact ⟨rfl, rfl⟩
def ints (f : Nat → Int) (k : Nat) : List Value := (List.range k).map fun i => Value.int .i64 (f i)
theorem ints_succ (f : Nat → Int) (k : Nat) : ints f (k + 1) = ints f k ++ [.int .i64 (f k)] := by simp [ints, List.range_succ]
theorem ints_get {f : Nat → Int} {k i : Nat} (h : i < k) : (ints f k)[i]? = some (.int .i64 (f i)) := by simp [ints, h]
theorem ints_own {w : World} {base : Nat} {v : Value} {k : Nat} {f : Nat → Int} (h : w.ownsRow base 3 1 v k (ints f k)) : IntsAt w v k f :=
  (CellsAt.of_own h).congr fun i hi => by rw [List.getD_eq_getElem?_getD, ints_get hi]; rfl
theorem own_zero (W : World) (base : Nat) (t : TypeId) (hb : base ≤ W.heap.size) : (W.alloc (.cells #[] t)).ownsRow base t 1 (.slice (some ⟨W.heap.size, 0, none⟩) 0 0) 0 [] := by
  have h := World.ownsRow_lit (base := base) (e := t) (size := 1) W #[] 0 hb (by decide) rfl
  exact h
end Go.Proofs.YthigeafojekclaaDoor
