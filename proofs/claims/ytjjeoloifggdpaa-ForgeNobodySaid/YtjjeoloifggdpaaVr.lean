/-
  Package forge: what is no village.
-/
import Derived.Test.YtjjeoloifggdpaaVq
namespace Go.Proofs.Ytjjeoloifggdpaa
open Go.RowKit Go.Deep Go.Sort

theorem nil_eq (w : World) (a : Addr) : (binOp .eql 24 (.pointer none) (.pointer (some a))).run Try.prog w = .ok (.bool false) w := by
  have h : ∀ d : Nat, (Op.equalIn (d + 1) 24 (.pointer none) (.pointer (some a))).run Try.prog w = .ok false w := fun d => by
    simp [Op.equalIn, run_underlying Try.underlying24, sizeOf, typeInfo]
  simp only [binOp]
  simp [Op.equal, Op.maxDepth, h 9999]
/-- v is no village: nil, or one whose pointer to itself is nil -/
def NoVil (w : World) (v : Value) : Prop := v = .pointer none ∨ ∃ p, v = .pointer (some ⟨p, 0, none⟩) ∧ w.cell? ⟨p, 0, none⟩ = some (.pointer none)
theorem NoVil.kept {w w' : World} {v : Value} (h : NoVil w v) (k : Kept w w') : NoVil w' v := by
  rcases h with h | ⟨p, h1, h2⟩
  · exact .inl h
  · exact .inr ⟨p, h1, k.cellSome h2⟩
set_option maxRecDepth 100000 in
theorem isReturned_no (w : World) (v : Value) (h : NoVil w v) : Calls Try.prog 50 #[v] w fun e w' => e = .returned (.bool false) ∧ w = w' := by
  rcases h with rfl | ⟨p, rfl, c0⟩
  · go_enter Try.func50, Try.ntmps50
    go_wp2_with fail
    go_ret
    exact ⟨rfl, rfl⟩
  · have he := fun w => nil_eq w ⟨p, 0, none⟩
    go_enter Try.func50, Try.ntmps50
    go_wp2_with fail
    go_ret
    exact ⟨rfl, rfl⟩
set_option maxRecDepth 100000 in
theorem check_no (w : World) (v : Value) (x : Int) (h : NoVil w v) : Calls Try.prog 45 #[v, .int .i64 x] w fun e w' => e = .returned (.int .i64 6) ∧ w = w' := by
  have IR := Lib.hid (isReturned_no w v h)
  clear h
  go_enter Try.func45, Try.ntmps45
  go_wp2_with (first | (go_at_call 50; refine IR.out.mono ?_; rintro e w1 ⟨rfl, rfl⟩))
  go_ret
  exact ⟨rfl, rfl⟩
set_option maxRecDepth 100000 in
theorem Want_no (w : World) (v : Value) (x : Int) (h : NoVil w v) : Calls Try.prog 18 #[v, .int .i64 x] w fun e w' => e = .returned (.int .i64 6) ∧ Kept w w' := by
  have CH := Lib.hid (check_no w v x h)
  clear h
  go_enter Try.func18, Try.ntmps18
  go_wp2_with (first | (go_at_call 45; refine CH.out.mono ?_; rintro e w1 ⟨rfl, rfl⟩))
  go_ret
  exact ⟨rfl, Kept.refl _⟩
set_option maxRecDepth 100000 in
theorem Leave_no (w : World) (v : Value) (x : Int) (h : NoVil w v) : Calls Try.prog 20 #[v, .int .i64 x] w fun e w' => e = .returned (.int .i64 6) ∧ Kept w w' := by
  have CH := Lib.hid (check_no w v x h)
  clear h
  go_enter Try.func20, Try.ntmps20
  go_wp2_with (first | (go_at_call 45; refine CH.out.mono ?_; rintro e w1 ⟨rfl, rfl⟩))
  go_ret
  exact ⟨rfl, Kept.refl _⟩
set_option maxRecDepth 100000 in
theorem Deliver_no (w : World) (v : Value) (x : Int) (y : Int) (h : NoVil w v) : Calls Try.prog 23 #[v, .int .i64 x, .int .i64 y] w fun e w' => e = .returned (.int .i64 6) ∧ Kept w w' := by
  have IR := Lib.hid (fun W (k : Kept w W) => isReturned_no W v (h.kept k))
  clear h
  go_enter Try.func23, Try.ntmps23
  go_wp2_with (first | (go_at_call 50; refine (IR.out _ (by first | exact Kept.refl _ | exact ((Kept.refl _).alloc _).alloc _)).mono ?_; rintro e w1 ⟨rfl, rfl⟩))
  go_ret
  exact ⟨rfl, by first | exact Kept.refl _ | exact ((Kept.refl _).alloc _).alloc _⟩
set_option maxRecDepth 100000 in
theorem At_no (w : World) (v : Value) (h : NoVil w v) : Calls Try.prog 29 #[v] w fun e w' => e = .returned (.int .i64 (-1)) ∧ Kept w w' := by
  have IR := Lib.hid (fun W (k : Kept w W) => isReturned_no W v (h.kept k))
  clear h
  go_enter Try.func29, Try.ntmps29
  go_wp2_with (first | (go_at_call 50; refine (IR.out _ (by first | exact Kept.refl _ | exact ((Kept.refl _).alloc _).alloc _)).mono ?_; rintro e w1 ⟨rfl, rfl⟩))
  go_ret
  exact ⟨rfl, by first | exact Kept.refl _ | exact ((Kept.refl _).alloc _).alloc _⟩
set_option maxRecDepth 100000 in
theorem Way_no (w : World) (v : Value) (x : Int) (h : NoVil w v) : Calls Try.prog 27 #[v, .int .i64 x] w fun e w' => e = .returned (.int .i64 (-1)) ∧ Kept w w' := by
  have CH := Lib.hid (check_no w v x h)
  clear h
  go_enter Try.func27, Try.ntmps27
  go_wp2_with (first | (go_at_call 45; refine CH.out.mono ?_; rintro e w1 ⟨rfl, rfl⟩))
  go_ret
  exact ⟨rfl, Kept.refl _⟩
set_option maxRecDepth 100000 in
theorem Asked_no (w : World) (v : Value) (x : Int) (h : NoVil w v) : Calls Try.prog 33 #[v, .int .i64 x] w fun e w' => e = .returned (.bool false) ∧ Kept w w' := by
  have CH := Lib.hid (check_no w v x h)
  clear h
  go_enter Try.func33, Try.ntmps33
  go_wp2_with (first | (go_at_call 45; refine CH.out.mono ?_; rintro e w1 ⟨rfl, rfl⟩))
  go_ret
  exact ⟨rfl, Kept.refl _⟩
set_option maxRecDepth 100000 in
theorem List_no (w : World) (v : Value) (x : Int) (h : NoVil w v) : Calls Try.prog 32 #[v, .int .i64 x] w fun e w' => e = .returned (.slice none 0 0) ∧ Kept w w' := by
  have CH := Lib.hid (check_no w v x h)
  clear h
  go_enter Try.func32, Try.ntmps32
  go_wp2_with (first | (go_at_call 45; refine CH.out.mono ?_; rintro e w1 ⟨rfl, rfl⟩))
  go_ret
  exact ⟨rfl, Kept.refl _⟩
set_option maxRecDepth 100000 in
theorem Flight_no (w : World) (v : Value) (h : NoVil w v) : Calls Try.prog 28 #[v] w fun e w' => e = .returned (.slice none 0 0) ∧ Kept w w' := by
  have IR := Lib.hid (fun W (k : Kept w W) => isReturned_no W v (h.kept k))
  clear h
  go_enter Try.func28, Try.ntmps28
  go_wp2_with (first | (go_at_call 50; refine (IR.out _ (by first | exact Kept.refl _ | exact ((Kept.refl _).alloc _).alloc _)).mono ?_; rintro e w1 ⟨rfl, rfl⟩))
  go_ret
  exact ⟨rfl, by first | exact Kept.refl _ | exact ((Kept.refl _).alloc _).alloc _⟩
set_option maxRecDepth 100000 in
theorem Sent_no (w : World) (v : Value) (h : NoVil w v) : Calls Try.prog 35 #[v] w fun e w' => e = .returned (.int .i64 0) ∧ Kept w w' := by
  have IR := Lib.hid (fun W (k : Kept w W) => isReturned_no W v (h.kept k))
  clear h
  go_enter Try.func35, Try.ntmps35
  go_wp2_with (first | (go_at_call 50; refine (IR.out _ (by first | exact Kept.refl _ | exact ((Kept.refl _).alloc _).alloc _)).mono ?_; rintro e w1 ⟨rfl, rfl⟩))
  go_ret
  exact ⟨rfl, by first | exact Kept.refl _ | exact ((Kept.refl _).alloc _).alloc _⟩
set_option maxRecDepth 100000 in
theorem Clone_no (w : World) (v : Value) (h : NoVil w v) : Calls Try.prog 22 #[v] w fun e w' => e = .returned (.pointer none) ∧ Kept w w' := by
  have IR := Lib.hid (fun W (k : Kept w W) => isReturned_no W v (h.kept k))
  clear h
  go_enter Try.func22, Try.ntmps22
  go_wp2_with (first | (go_at_call 50; refine (IR.out _ (by first | exact Kept.refl _ | exact ((Kept.refl _).alloc _).alloc _)).mono ?_; rintro e w1 ⟨rfl, rfl⟩))
  go_ret
  exact ⟨rfl, by first | exact Kept.refl _ | exact ((Kept.refl _).alloc _).alloc _⟩
end Go.Proofs.Ytjjeoloifggdpaa
