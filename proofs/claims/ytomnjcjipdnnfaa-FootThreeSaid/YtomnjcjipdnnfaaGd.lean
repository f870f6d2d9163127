/-
  The program's functions on two valid outlines.
-/
import Derived.Test.YtomnjcjipdnnfaaMd
import Derived.Test.YtomnjcjipdnnfaaJ
namespace Go.Proofs.Ytomnjcjipdnnfaa
open Go.RowKit Go.Deep

theorem inR_form {n : Nat} {X Y : Nat → Int} (h : InR n X Y) (hn : 1 ≤ n) : formB n X Y = true := by
  unfold formB
  rw [Bool.and_eq_true]
  refine ⟨allN_true.2 (fun i hi => ?_), by simp; omega⟩
  obtain ⟨h1, h2⟩ := h i hi
  unfold pl at h1 h2
  unfold placeB
  simp
  omega
theorem madeN_bd {q most : Nat} (h : 1 ≤ most) : 1 ≤ madeN q most ∧ madeN q most ≤ most := by
  unfold madeN
  split <;> omega
theorem code2_good {limit : Int} {m n : Nat} {X Y U V : Nat → Int} (h1 : InR m X Y) (h2 : InR n U V) (hm : 1 ≤ m) (hn : 1 ≤ n) (hm2 : m ≤ 30) (hn2 : n ≤ 30) : code2 limit m X Y n U V = if limit < 0 then 1 else 0 := by
  unfold code2
  rw [if_pos ⟨hm2, hn2⟩, if_pos ⟨inR_form h1 hm, inR_form h2 hn⟩]
/-- two outlines that are valid -/
structure Two (w : World) (m n : Nat) (av bv : Value) (X Y U V : Nat → Int) : Prop where
  a : PairsAt w av m X Y
  b : PairsAt w bv n U V
  i1 : InR m X Y
  i2 : InR n U V
  m1 : 1 ≤ m
  n1 : 1 ≤ n
  m2 : m ≤ 30
  n2 : n ≤ 30
theorem Two.kept {w w' : World} {m n : Nat} {av bv : Value} {X Y U V : Nat → Int} (h : Two w m n av bv X Y U V) (k : Kept w w') : Two w' m n av bv X Y U V := ⟨h.a.kept k, h.b.kept k, h.i1, h.i2, h.m1, h.n1, h.m2, h.n2⟩
theorem Frechet_good (w : World) (m n : Nat) (av bv : Value) (X Y U V : Nat → Int) (h : Two w m n av bv X Y U V) :
    Calls Try.prog 23 #[av, bv] w fun e w' => e = .returned (.tuple #[.int .i64 (fre m X Y n U V), .int .i64 0]) ∧ Kept w w' := by
  refine (Frechet_any w m n av bv X Y U V h.a h.b (by have := h.m2; omega) (by have := h.n2; omega)).mono ?_
  rintro e w' ⟨hk, hr, _⟩
  exact ⟨hr (by rw [code2_good h.i1 h.i2 h.m1 h.n1 h.m2 h.n2]; rfl), hk⟩
theorem Hausdorff_good (w : World) (m n : Nat) (av bv : Value) (X Y U V : Nat → Int) (h : Two w m n av bv X Y U V) :
    Calls Try.prog 16 #[av, bv] w fun e w' => e = .returned (.tuple #[.int .i64 (haus m X Y n U V), .int .i64 0]) ∧ Kept w w' := by
  refine (Hausdorff_any w m n av bv X Y U V h.a h.b (by have := h.m2; omega) (by have := h.n2; omega)).mono ?_
  rintro e w' ⟨hk, hr, _⟩
  exact ⟨hr (by rw [code2_good h.i1 h.i2 h.m1 h.n1 h.m2 h.n2]; rfl), hk⟩
theorem Within_good (w : World) (m n : Nat) (av bv : Value) (X Y U V : Nat → Int) (limit : Int) (hl : 0 ≤ limit) (r : Bool) (hr : decide (fre m X Y n U V ≤ limit) = r) (h : Two w m n av bv X Y U V) :
    Calls Try.prog 28 #[av, bv, .int .i64 limit] w fun e w' => e = .returned (.tuple #[.bool r, .int .i64 0]) ∧ Kept w w' := by
  refine (Within_any w m n av bv X Y U V limit h.a h.b (by have := h.m2; omega) (by have := h.n2; omega)).mono ?_
  rintro e w' ⟨hk, hr2, _⟩
  rw [hr] at hr2
  exact ⟨hr2 (by rw [code2_good h.i1 h.i2 h.m1 h.n1 h.m2 h.n2, if_neg (by omega)]), hk⟩
theorem Within_below (w : World) (m n : Nat) (av bv : Value) (X Y U V : Nat → Int) (limit : Int) (hl : limit < 0) (h : Two w m n av bv X Y U V) :
    Calls Try.prog 28 #[av, bv, .int .i64 limit] w fun e w' => e = .returned (.tuple #[.bool false, .int .i64 1]) ∧ Kept w w' := by
  refine (Within_any w m n av bv X Y U V limit h.a h.b (by have := h.m2; omega) (by have := h.n2; omega)).mono ?_
  rintro e w' ⟨hk, _, hr2⟩
  rw [code2_good h.i1 h.i2 h.m1 h.n1 h.m2 h.n2, if_pos hl] at hr2
  exact ⟨hr2 (by decide), hk⟩
end Go.Proofs.Ytomnjcjipdnnfaa
