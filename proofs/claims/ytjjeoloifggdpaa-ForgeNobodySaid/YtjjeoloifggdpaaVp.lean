/-
  Package forge: a village in memory of the call's own, and what each call makes of it.
-/
import Derived.Test.YtjjeoloifggdpaaSa
namespace Go.Proofs.Ytjjeoloifggdpaa
open Go.RowKit Go.Deep Go.Sort

/-- the village V lies at p, in memory that w0 had not, and all that w0 had is as it was -/
def LiveAt (w0 w : World) (p q : Nat) (V : Vil) : Prop := ∃ S, VilAt w p q V S ∧ (∀ b, S b → w0.heap.size ≤ b) ∧ Kept w0 w
theorem LiveAt.kept {w0 w w' : World} {p q : Nat} {V : Vil} (h : LiveAt w0 w p q V) (k : Kept w w') : LiveAt w0 w' p q V := by
  obtain ⟨S, h1, h2, h3⟩ := h
  exact ⟨S, h1.kept k, h2, h3.trans k⟩
theorem LiveAt.mem {w0 w : World} {p q : Nat} {V : Vil} (h : LiveAt w0 w p q V) : Kept w0 w := by
  obtain ⟨S, h1, h2, h3⟩ := h
  exact h3
theorem LiveAt.step {w0 w w' : World} {p q : Nat} {V' : Vil} {S : Nat → Prop} {e0 e : Ending} (hP : VPost w p q V' S e0 e w') (hS : ∀ b, S b → w0.heap.size ≤ b) (hk : Kept w0 w) : e = e0 ∧ LiveAt w0 w' p q V' := by
  obtain ⟨he, h1, h2⟩ := hP
  refine ⟨he, _, h1, fun b hb => ?_, hk.step h2 hS⟩
  rcases hb with hb | hb
  · exact hS b hb
  · exact Nat.le_trans hk.size hb.1
section
variable {w0 w : World} {p q : Nat} {V : Vil}
theorem New_live (w : World) (v : Value) (n : Nat) (X : Nat → Int) (h : Nat) (hV : IntsAt w v n X) (ht : treeB n X = true) (hh : h < n) :
    Calls Try.prog 13 #[v, .int .i64 (h : Int)] w fun e w' => ∃ p, e = .returned (.tuple #[.pointer (some ⟨p, 0, none⟩), .int .i64 0]) ∧ ∃ q, LiveAt w w' p q (Vil.new n (fun i => (X i).toNat) h) := by
  refine (New_good w v n X h hV ht hh).mono ?_
  rintro e w' ⟨p, q, rfl, hA, hk⟩
  exact ⟨p, rfl, q, _, hA, fun b hb => hb.1, hk⟩
theorem Want_live (h : LiveAt w0 w p q V) (hs : V.Small 999990) (x : Int) : Calls Try.prog 18 #[.pointer (some ⟨p, 0, none⟩), .int .i64 x] w fun e w' => e = .returned (.int .i64 (V.wantC x)) ∧ LiveAt w0 w' p q (if V.wantC x = 0 then V.want x.toNat else V) := by
  obtain ⟨S, h1, h2, h3⟩ := h
  exact (Want_any w p q V S x h1 hs).mono fun e w' hP => LiveAt.step hP h2 h3
theorem Leave_live (h : LiveAt w0 w p q V) (hs : V.Small 999990) (x : Int) : Calls Try.prog 20 #[.pointer (some ⟨p, 0, none⟩), .int .i64 x] w fun e w' => e = .returned (.int .i64 (V.leaveC x)) ∧ LiveAt w0 w' p q (if V.leaveC x = 0 then V.leave x.toNat else V) := by
  obtain ⟨S, h1, h2, h3⟩ := h
  exact (Leave_any w p q V S x h1 hs).mono fun e w' hP => LiveAt.step hP h2 h3
theorem Deliver_live (h : LiveAt w0 w p q V) (hs : V.Small 999990) (x y : Int) : Calls Try.prog 23 #[.pointer (some ⟨p, 0, none⟩), .int .i64 x, .int .i64 y] w fun e w' => e = .returned (.int .i64 (V.deliverC x y)) ∧ LiveAt w0 w' p q (if V.deliverC x y = 0 then V.deliver x.toNat y.toNat else V) := by
  obtain ⟨S, h1, h2, h3⟩ := h
  exact (Deliver_any w p q V S x y h1 hs).mono fun e w' hP => LiveAt.step hP h2 h3
theorem At_live (h : LiveAt w0 w p q V) (hn : V.n ≤ 8) : Calls Try.prog 29 #[.pointer (some ⟨p, 0, none⟩)] w fun e w' => e = .returned (.int .i64 V.at) ∧ LiveAt w0 w' p q V := by
  have hh := h
  obtain ⟨S, h1, h2, h3⟩ := h
  refine (At_any w p q V S h1 hn).mono ?_
  rintro e w' ⟨he, hk⟩
  exact ⟨he, hh.kept hk⟩
theorem Sent_live (h : LiveAt w0 w p q V) : Calls Try.prog 35 #[.pointer (some ⟨p, 0, none⟩)] w fun e w' => e = .returned (.int .i64 (V.sent : Int)) ∧ w = w' := by
  obtain ⟨S, h1, h2, h3⟩ := h
  exact Sent_any w p q V S h1
theorem Way_live (h : LiveAt w0 w p q V) (x : Int) : Calls Try.prog 27 #[.pointer (some ⟨p, 0, none⟩), .int .i64 x] w fun e w' => e = .returned (.int .i64 (if inV V.n x then (V.way x.toNat : Int) else -1)) ∧ w = w' := by
  obtain ⟨S, h1, h2, h3⟩ := h
  exact Way_any w p q V S x h1
theorem Asked_live (h : LiveAt w0 w p q V) (x : Int) : Calls Try.prog 33 #[.pointer (some ⟨p, 0, none⟩), .int .i64 x] w fun e w' => e = .returned (.bool (inV V.n x && V.asked x.toNat)) ∧ w = w' := by
  obtain ⟨S, h1, h2, h3⟩ := h
  exact Asked_any w p q V S x h1
/-- the list of smith x, if there is one -/
def Vil.listOf (V : Vil) (x : Int) : List Nat := if inV V.n x then V.lst x.toNat else []
theorem List_live (h : LiveAt w0 w p q V) (hs : V.Small 1000000) (x : Int) : Calls Try.prog 32 #[.pointer (some ⟨p, 0, none⟩), .int .i64 x] w fun e w' => ∃ v, e = .returned v ∧ w'.ownsRow w.heap.size 3 1 v (V.listOf x).length (natsV (V.listOf x)) ∧ LiveAt w0 w' p q V := by
  have hh := h
  obtain ⟨S, h1, h2, h3⟩ := h
  refine (List_any w p q V S x h1 hs).mono ?_
  rintro e w' ⟨v, he, hO, hk⟩
  exact ⟨v, he, hO, hh.kept hk⟩
end
/-- Same of two lists of numbers -/
theorem same_nat (w : World) (va vb : Value) (l m : List Nat) (ha : CellsAt w va l.length (fun i => .int .i64 ((l.getD i 0 : Nat) : Int))) (hb : CellsAt w vb m.length (fun i => .int .i64 ((m.getD i 0 : Nat) : Int))) (hl : l.length ≤ 1000000) (hm : m.length ≤ 1000000) :
    Calls Try.prog 40 #[va, vb] w fun e w' => e = .returned (.bool (decide (l = m))) ∧ Quiet w w' := by
  refine (same_any w va vb l.length m.length _ _ ha hb hl hm).mono ?_
  rintro e w' ⟨rfl, hq⟩
  refine ⟨ret_bool ?_, hq⟩
  rw [Bool.eq_iff_iff, decide_eq_true_iff]
  unfold same
  rw [Bool.and_eq_true, decide_eq_true_iff, allN_true]
  constructor
  · rintro ⟨h1, h2⟩
    apply List.ext_getElem h1
    intro i h3 h4
    have := h2 i h3
    simp only [List.getD_eq_getElem?_getD, List.getElem?_eq_getElem h3, List.getElem?_eq_getElem h4, Option.getD_some, beq_iff_eq] at this
    omega
  · rintro rfl
    exact ⟨rfl, fun i _ => by simp⟩
end Go.Proofs.Ytjjeoloifggdpaa
