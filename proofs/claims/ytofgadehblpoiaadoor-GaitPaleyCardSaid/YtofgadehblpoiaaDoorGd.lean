/-
  Package gait: changed, product, isPrime, legendre.
-/
import Derived.Test.YtofgadehblpoiaaDoorGc
import Derived.RegionTactic
import Derived.BigRegion
namespace Go.Proofs.YtofgadehblpoiaaDoor
open Go.RowKit Go.Deep Go.Shelf

theorem box_cell (W : World) (v : Value) (t : TypeId) : (W.alloc (.cells #[v] t)).cell? ⟨W.heap.size, 0, none⟩ = some v := by unfold World.cell?; dsimp only; rw [blk_alloc_new]; rfl
set_option maxRecDepth 100000 in
theorem changed1_any (W : World) (s : ByteArray) (b i : Nat) (hi : i < s.size) (hb : W.cell? ⟨b, 0, none⟩ = some (.string s)) :
    Calls Tryd.prog 102 #[.int .i64 (i : Int), .pointer (some ⟨b, 0, none⟩)] W fun e w' => e = .returned (.bool (chr s i == 43)) ∧ Quiet W w' := by
  have s2 : (i : Int) < (s.size : Int) := by omega
  have s3 : (0 : Int) ≤ (i : Int) := by omega
  have hat := chr_at hi
  generalize chr s i = c at *
  go_enter Tryd.func102, Tryd.ntmps102
  go_wp2_with fail
  go_ret
  exact ⟨rfl, Quiet.refl _⟩
set_option maxRecDepth 100000 in
theorem changed_any (w : World) (s : ByteArray) (hs : s.size ≤ 1000) :
    Calls Tryd.prog 78 #[.string s] w (RowOfPost w s.size (fun i => chr s i == 43)) := by
  have hb := box_cell w (.string s) 9
  have hK0 : Kept w (w.alloc (.cells #[.string s] 9)) := (Kept.refl w).alloc _
  have RO := Lib.hid (rowOf_any (w.alloc (.cells #[.string s] 9)) s.size 102 #[.pointer (some ⟨w.heap.size, 0, none⟩)] (fun i => chr s i == 43) hs (enters_of Tryd.func102 (by kernel_rfl) rfl) (fun W i hi hk => changed1_any W s _ i hi (hk.cellSome hb)))
  go_enter Tryd.func78, Tryd.ntmps78
  go_wp2_with (first | (go_at_call 91; refine RO.out.mono ?_; rintro e w1 ⟨rfl, hk1⟩))
  go_ret
  exact ⟨rfl, hK0.trans hk1⟩
set_option maxRecDepth 100000 in
theorem product1_any (W : World) (s t : ByteArray) (b c i : Nat) (hi : i < s.size) (hi2 : i < t.size) (hb : W.cell? ⟨b, 0, none⟩ = some (.string s)) (hc : W.cell? ⟨c, 0, none⟩ = some (.string t)) :
    Calls Tryd.prog 120 #[.int .i64 (i : Int), .pointer (some ⟨b, 0, none⟩), .pointer (some ⟨c, 0, none⟩)] W fun e w' => e = .returned (.bool (chr s i != chr t i)) ∧ Quiet W w' := by
  have s2 : (i : Int) < (s.size : Int) := by omega
  have s3 : (0 : Int) ≤ (i : Int) := by omega
  have s4 : (i : Int) < (t.size : Int) := by omega
  have hat := chr_at hi
  have hat2 := chr_at hi2
  generalize chr s i = x at *
  generalize chr t i = y at *
  go_enter Tryd.func120, Tryd.ntmps120
  go_wp2_with fail
  go_quiet (fail)
  go_wp2_with fail
  go_ret
  exact ⟨rfl, (Quiet.refl W).drewN _⟩
set_option maxRecDepth 100000 in
theorem product_any (w : World) (s t : ByteArray) (hs : s.size ≤ 1000) (hst : s.size ≤ t.size) :
    Calls Tryd.prog 94 #[.string s, .string t] w (RowOfPost w s.size (fun i => chr s i != chr t i)) := by
  have hb : ((w.alloc (.cells #[.string s] 9)).alloc (.cells #[.string t] 9)).cell? ⟨w.heap.size, 0, none⟩ = some (.string s) := ((Kept.refl _).alloc _).cellSome (box_cell w (.string s) 9)
  have hc := box_cell (w.alloc (.cells #[.string s] 9)) (.string t) 9
  rw [World.size_alloc] at hc
  have hK0 : Kept w ((w.alloc (.cells #[.string s] 9)).alloc (.cells #[.string t] 9)) := ((Kept.refl w).alloc _).alloc _
  have RO := Lib.hid (rowOf_any ((w.alloc (.cells #[.string s] 9)).alloc (.cells #[.string t] 9)) s.size 120 #[.pointer (some ⟨w.heap.size, 0, none⟩), .pointer (some ⟨w.heap.size + 1, 0, none⟩)] (fun i => chr s i != chr t i) hs (enters_of Tryd.func120 (by kernel_rfl) rfl) (fun W i hi hk => product1_any W s t _ _ i hi (by omega) (hk.cellSome hb) (hk.cellSome hc)))
  go_enter Tryd.func94, Tryd.ntmps94
  go_wp2_with (first | (go_at_call 91; refine RO.out.mono ?_; rintro e w1 ⟨rfl, hk1⟩))
  go_ret
  exact ⟨rfl, hK0.trans hk1⟩
/-- no number from 2 up to k divides p -/
def noDiv (p : Nat) : Nat → Bool
  | 0 => true
  | k + 1 => noDiv p k && (decide (k < 2) || decide (p % k ≠ 0))
def primeB (p : Nat) : Bool := noDiv p p
theorem noDiv_false {p k n : Nat} (hk : 2 ≤ k) (hn : k < n) (h : p % k = 0) : noDiv p n = false := by
  induction n with
  | zero => omega
  | succ n ih =>
    simp only [noDiv]
    by_cases e : k = n
    · subst e; simp [h]; omega
    · rw [ih (by omega)]; rfl
set_option maxRecDepth 100000 in
set_option maxHeartbeats 4000000 in
theorem isPrime_any (w : World) (p : Nat) (hp2 : 2 ≤ p) (hp : p ≤ 1000) :
    Calls Tryd.prog 79 #[.int .i64 p] w fun e w' => e = .returned (.bool (primeB p)) ∧ w = w' := by
  go_enter Tryd.func79, Tryd.ntmps79
  go_wp2_with fail
  go_loopg [3] p (fun g s3 wr => ∃ d : Nat, 2 ≤ d ∧ d ≤ p ∧ g + d = p + 2 ∧ s3 = .int .i64 d ∧ w = wr ∧ Hid (noDiv p d = true))
  case atStart => exact ⟨2, by omega, by omega, by omega, rfl, rfl, by show _ = _; simp [noDiv]⟩
  case round =>
    obtain ⟨d, hd2, hd, hg, rfl, rfl, hA⟩ := hrel
    by_cases hlt : d < p
    · have s2 : (d : Int) < (p : Int) := by omega
      have s3 : ¬ (d : Int) = 0 := by omega
      obtain ⟨r, HR⟩ : ∃ r : Nat, Hid (r = p % d) := ⟨_, rfl⟩
      have e1 : Int.tmod (p : Int) (d : Int) = (r : Int) := by rw [HR.out]; exact (Int.ofNat_tmod p d).symm
      by_cases h0 : r = 0
      · have hno : Hid (primeB p = false) := by show _ = _; exact noDiv_false hd2 hlt (by rw [← HR.out]; exact h0)
        have e2 : ((r : Int) == 0) = true := by simp [h0]
        clear HR hA h0
        go_wp2_with fail
        go_ret
        exact ⟨ret_bool hno.out.symm, rfl⟩
      · have hA2 : Hid (noDiv p (d + 1) = true) := by
          show _ = _
          simp only [noDiv]
          rw [hA.out, ← HR.out]
          simp [h0]
        have e2 : ((r : Int) == 0) = false := by simp; omega
        clear HR hA h0
        go_wp2_with fail
        go_roundg (p + 2 - (d + 1))
        case measure => omega
        case rel => exact ⟨d + 1, by omega, by omega, by omega, by go_num, rfl, hA2.out⟩
    · obtain rfl : d = p := by omega
      go_wp2_with fail
      go_ret
      exact ⟨ret_bool hA.out.symm, rfl⟩
end Go.Proofs.YtofgadehblpoiaaDoor
