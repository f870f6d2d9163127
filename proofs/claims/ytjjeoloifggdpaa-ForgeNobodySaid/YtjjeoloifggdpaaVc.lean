/-
  Package forge: isReturned, has, check, Way, Asked, Sent, areNeighbours.
-/
import Derived.Test.YtjjeoloifggdpaaVb
import Derived.LaidEqlPtr
namespace Go.Proofs.Ytjjeoloifggdpaa
open Go.RowKit Go.Deep

def ptr (p : Nat) : Value := .pointer (some ⟨p, 0, none⟩)
def inV (n : Nat) (x : Int) : Bool := decide (0 ≤ x) && decide (x < (n : Int))
theorem inV_nat {n : Nat} {x : Int} (h : inV n x = true) : ∃ i : Nat, x = (i : Int) ∧ i < n := by
  unfold inV at h
  simp only [Bool.and_eq_true, decide_eq_true_eq] at h
  exact ⟨x.toNat, by omega, by omega⟩
section
variable {w : World} {p q : Nat} {vo vf : Value} {vl : Nat → Value} {cq : Nat} {V : Vil} {S : Nat → Prop}
theorem VilP.box0 (h : VilP w p q vo vf vl cq V S) : w.cell? ⟨p, 0, none⟩ = some (.pointer (some ⟨p, 0, none⟩)) := h.box.cell (show 0 < 5 by omega)
theorem VilP.box1 (h : VilP w p q vo vf vl cq V S) : w.cell? ⟨p, 1, none⟩ = some vo := h.box.cell (show 1 < 5 by omega)
theorem VilP.box2 (h : VilP w p q vo vf vl cq V S) : w.cell? ⟨p, 2, none⟩ = some (.slice (some ⟨q, 0, none⟩) V.n cq) := h.box.cell (show 2 < 5 by omega)
theorem VilP.box3 (h : VilP w p q vo vf vl cq V S) : w.cell? ⟨p, 3, none⟩ = some vf := h.box.cell (show 3 < 5 by omega)
theorem VilP.box4 (h : VilP w p q vo vf vl cq V S) : w.cell? ⟨p, 4, none⟩ = some (.int .i64 (V.sent : Int)) := h.box.cell (show 4 < 5 by omega)
theorem VilP.way (h : VilP w p q vo vf vl cq V S) {i : Nat} (hi : i < V.n) : w.cell? ⟨q, i * 4, none⟩ = some (.int .i64 (V.way i : Int)) := by
  have := (h.cell (show i * 4 < V.n * 4 by omega)).1
  rwa [stV0] at this
theorem VilP.list (h : VilP w p q vo vf vl cq V S) {i : Nat} (hi : i < V.n) : w.cell? ⟨q, i * 4 + 1, none⟩ = some (vl i) := by
  have := (h.cell (show i * 4 + 1 < V.n * 4 by omega)).1
  rwa [stV1] at this
theorem VilP.asked (h : VilP w p q vo vf vl cq V S) {i : Nat} (hi : i < V.n) : w.cell? ⟨q, i * 4 + 2, none⟩ = some (.bool (V.asked i)) := by
  have := (h.cell (show i * 4 + 2 < V.n * 4 by omega)).1
  rwa [stV2] at this
theorem VilP.forg (h : VilP w p q vo vf vl cq V S) {i : Nat} (hi : i < V.n) : w.cell? ⟨q, i * 4 + 3, none⟩ = some (.bool (V.forg i)) := by
  have := (h.cell (show i * 4 + 3 < V.n * 4 by omega)).1
  rwa [stV3] at this
end
theorem eq_self (w : World) (p : Nat) : (binOp .eql 24 (.pointer (some ⟨p, 0, none⟩)) (.pointer (some ⟨p, 0, none⟩))).run Try.prog w = .ok (.bool true) w :=
  by
  obtain ⟨j, hj⟩ : ∃ j, Try.prog.info? 69 = some j := Option.isSome_iff_exists.1 (by kernel_rfl)
  exact run_eql_ptr_same w ⟨p, 0, none⟩ Try.underlying24 hj
set_option maxRecDepth 100000 in
theorem isReturned_any (w : World) (p q : Nat) (V : Vil) (S : Nat → Prop) (h : VilAt w p q V S) : Calls Try.prog 50 #[ptr p] w fun e w' => e = .returned (.bool true) ∧ w = w' := by
  obtain ⟨vo, vf, vl, cq, h⟩ := h
  have c0 := h.box0
  have heq := fun w => eq_self w p
  unfold ptr
  clear h
  go_enter Try.func50, Try.ntmps50
  go_wp2_with fail
  go_ret
  exact ⟨rfl, rfl⟩
set_option maxRecDepth 100000 in
theorem has_any (w : World) (p q : Nat) (V : Vil) (S : Nat → Prop) (x : Int) (h : VilAt w p q V S) : Calls Try.prog 65 #[ptr p, .int .i64 x] w fun e w' => e = .returned (.bool (inV V.n x)) ∧ w = w' := by
  obtain ⟨vo, vf, vl, cq, h⟩ := h
  have c2 := h.box2
  unfold ptr inV
  obtain ⟨n, hn⟩ : ∃ n, n = V.n := ⟨_, rfl⟩
  rw [← hn] at c2 ⊢
  clear h hn
  by_cases h0 : x ≥ 0
  · have h1 : 0 ≤ x := h0
    by_cases h2 : x < (n : Int)
    · rw [decide_eq_true h1, decide_eq_true h2]
      go_enter Try.func65, Try.ntmps65
      go_wp2_with fail
      go_ret
      exact ⟨rfl, rfl⟩
    · rw [decide_eq_true h1, decide_eq_false h2]
      go_enter Try.func65, Try.ntmps65
      go_wp2_with fail
      go_ret
      exact ⟨rfl, rfl⟩
  · have h1 : ¬ 0 ≤ x := h0
    rw [decide_eq_false h1]
    go_enter Try.func65, Try.ntmps65
    go_wp2_with fail
    go_ret
    exact ⟨rfl, rfl⟩
set_option maxRecDepth 100000 in
theorem check_any (w : World) (p q : Nat) (V : Vil) (S : Nat → Prop) (x : Int) (h : VilAt w p q V S) : Calls Try.prog 45 #[ptr p, .int .i64 x] w fun e w' => e = .returned (.int .i64 (if inV V.n x then 0 else 1)) ∧ w = w' := by
  have IR := Lib.hid (isReturned_any w p q V S h)
  have HA := Lib.hid (has_any w p q V S x h)
  clear h
  obtain ⟨n, hn⟩ : ∃ n, n = V.n := ⟨_, rfl⟩
  rw [← hn] at HA ⊢
  cases hx : inV n x
  · rw [hx] at HA
    clear hx hn
    go_enter Try.func45, Try.ntmps45
    go_wp2_with (first
      | (go_at_call 50; refine IR.out.mono ?_; rintro e w1 ⟨rfl, rfl⟩)
      | (go_at_call 65; refine HA.out.mono ?_; rintro e w1 ⟨rfl, rfl⟩))
    go_ret
    exact ⟨rfl, rfl⟩
  · rw [hx] at HA
    clear hx hn
    go_enter Try.func45, Try.ntmps45
    go_wp2_with (first
      | (go_at_call 50; refine IR.out.mono ?_; rintro e w1 ⟨rfl, rfl⟩)
      | (go_at_call 65; refine HA.out.mono ?_; rintro e w1 ⟨rfl, rfl⟩))
    go_ret
    exact ⟨rfl, rfl⟩
/-- the codes of a village that was not returned are those of check -/
def chkC (n : Nat) (x : Int) : Int := if inV n x then 0 else 1
set_option maxRecDepth 100000 in
theorem Way_any (w : World) (p q : Nat) (V : Vil) (S : Nat → Prop) (x : Int) (h : VilAt w p q V S) : Calls Try.prog 27 #[ptr p, .int .i64 x] w fun e w' => e = .returned (.int .i64 (if inV V.n x then (V.way x.toNat : Int) else -1)) ∧ w = w' := by
  have CH := Lib.hid (check_any w p q V S x h)
  obtain ⟨vo, vf, vl, cq, h⟩ := h
  have c2 := h.box2
  cases hx : inV V.n x
  · rw [hx] at CH
    clear h c2 hx
    go_enter Try.func27, Try.ntmps27
    go_wp2_with (first | (go_at_call 45; refine CH.out.mono ?_; rintro e w1 ⟨rfl, rfl⟩))
    go_ret
    exact ⟨rfl, rfl⟩
  · rw [hx] at CH
    obtain ⟨i, rfl, hi⟩ := inV_nat hx
    have c := h.way hi
    have i1 : (i : Int) < (V.n : Int) := by omega
    have i0 : (0 : Int) ≤ (i : Int) := by omega
    rw [Int.toNat_natCast]
    generalize V.way i = y at *
    unfold ptr at *
    clear h hx
    go_enter Try.func27, Try.ntmps27
    go_wp2_with (first | (go_at_call 45; refine CH.out.mono ?_; rintro e w1 ⟨rfl, rfl⟩))
    go_ret
    exact ⟨rfl, rfl⟩
set_option maxRecDepth 100000 in
theorem Asked_any (w : World) (p q : Nat) (V : Vil) (S : Nat → Prop) (x : Int) (h : VilAt w p q V S) : Calls Try.prog 33 #[ptr p, .int .i64 x] w fun e w' => e = .returned (.bool (inV V.n x && V.asked x.toNat)) ∧ w = w' := by
  have CH := Lib.hid (check_any w p q V S x h)
  obtain ⟨vo, vf, vl, cq, h⟩ := h
  have c2 := h.box2
  cases hx : inV V.n x
  · rw [hx] at CH
    unfold ptr at *
    clear h c2 hx
    go_enter Try.func33, Try.ntmps33
    go_wp2_with (first | (go_at_call 45; refine CH.out.mono ?_; rintro e w1 ⟨rfl, rfl⟩))
    go_ret
    exact ⟨rfl, rfl⟩
  · rw [hx] at CH
    obtain ⟨i, rfl, hi⟩ := inV_nat hx
    have c := h.asked hi
    have i1 : (i : Int) < (V.n : Int) := by omega
    have i0 : (0 : Int) ≤ (i : Int) := by omega
    rw [Int.toNat_natCast, Bool.true_and]
    generalize V.asked i = y at *
    unfold ptr at *
    clear h hx
    go_enter Try.func33, Try.ntmps33
    go_wp2_with (first | (go_at_call 45; refine CH.out.mono ?_; rintro e w1 ⟨rfl, rfl⟩))
    go_ret
    exact ⟨rfl, rfl⟩
set_option maxRecDepth 100000 in
theorem Sent_any (w : World) (p q : Nat) (V : Vil) (S : Nat → Prop) (h : VilAt w p q V S) : Calls Try.prog 35 #[ptr p] w fun e w' => e = .returned (.int .i64 (V.sent : Int)) ∧ w = w' := by
  have IR := Lib.hid (isReturned_any w p q V S h)
  obtain ⟨vo, vf, vl, cq, h⟩ := h
  have c4 := h.box4
  generalize V.sent = y at *
  unfold ptr at *
  clear h
  go_enter Try.func35, Try.ntmps35
  go_wp2_with (first | (go_at_call 50; refine IR.out.mono ?_; rintro e w1 ⟨rfl, rfl⟩))
  go_ret
  exact ⟨rfl, rfl⟩
end Go.Proofs.Ytjjeoloifggdpaa
