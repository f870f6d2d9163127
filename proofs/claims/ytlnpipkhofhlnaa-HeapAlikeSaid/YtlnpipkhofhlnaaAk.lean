/-
  Equivalent heaps: what Settle, Again and Low return is equivalent to what came in; equivalent heaps have the same rests. No memory here.
-/
import Derived.Test.YtlnpipkhofhlnaaAj
import Derived.Test.YtlnpipkhofhlnaaLk
namespace Go.Proofs.Ytlnpipkhofhlnaa
open Go.RowKit

/-- one becomes the other by topplings, forwards or backwards -/
def Eqv (N : Nat) (D : Nat → Nat) (J : Nat → Nat → Nat) (f g : Nat → Int) : Prop := ∃ x : Nat → Int, ∀ i, i < N → f i = g i - lossX D J N x i
theorem loss_add {N : Nat} (D : Nat → Nat) (J : Nat → Nat → Nat) (x y : Nat → Int) (i : Nat) : lossX D J N (fun l => x l + y l) i = lossX D J N x i + lossX D J N y i := by
  unfold lossX
  rw [← sumZ_add]
  exact sumZ_congr (fun l _ => Int.mul_add _ _ _)
theorem Eqv.symm {N : Nat} {D : Nat → Nat} {J : Nat → Nat → Nat} {f g : Nat → Int} (h : Eqv N D J f g) : Eqv N D J g f := by
  obtain ⟨x, hx⟩ := h
  exact ⟨fun l => - x l, fun i hi => by rw [loss_neg, hx i hi]; omega⟩
theorem Eqv.trans {N : Nat} {D : Nat → Nat} {J : Nat → Nat → Nat} {f g h : Nat → Int} (a : Eqv N D J f g) (b : Eqv N D J g h) : Eqv N D J f h := by
  obtain ⟨x, hx⟩ := a
  obtain ⟨y, hy⟩ := b
  exact ⟨fun l => x l + y l, fun i hi => by rw [loss_add, hx i hi, hy i hi]; omega⟩
theorem fin_loss {N : Nat} {D : Nat → Nat} {J : Nat → Nat → Nat} {h x : Nat → Int} (ok : YardOk (N + 1) D J) (hx : x 0 = 0) {i : Nat} (hi : i < N) : fin (N + 1) D J (atV h) x (i + 1) = h i - lossX D J N (fun l => x (l + 1)) i := by
  rw [loss_row ok _ hi]
  unfold fin
  rw [sumZ_shift, hx]
  have e : sumZ (fun w => x (w + 1) * (J (w + 1) (i + 1) : Int)) N = sumZ (fun l => (J (i + 1) (l + 1) : Int) * x (l + 1)) N := sumZ_congr (fun w _ => by rw [ok.sym (w + 1) (i + 1), Int.mul_comm])
  have e2 : atV h (i + 1) = h i := if_neg (by omega)
  rw [e, e2, Int.mul_comm (x (i + 1))]
  simp
  omega
theorem fin_eqv {N : Nat} {D : Nat → Nat} {J : Nat → Nat → Nat} {h x f : Nat → Int} (ok : YardOk (N + 1) D J) (ho : Odo (N + 1) D J (atV h) x) (hf : ∀ u, u < N + 1 → f u = fin (N + 1) D J (atV h) x u) : Eqv N D J (fun i => f (i + 1)) h :=
  ⟨fun l => x (l + 1), fun i hi => by
    show f (i + 1) = _
    rw [hf (i + 1) (by omega)]; exact fin_loss ok ho.1.1 hi⟩
/-- bars at every vertex, a multiple of the count -/
theorem more_eqv {N : Nat} {D : Nat → Nat} {J : Nat → Nat → Nat} {p : Nat → Nat} (ok : YardOk (N + 1) D J) (hp : Ranked (N + 1) J p) (h : Nat → Int) : Eqv N D J (fun i => h i + moreN (countI (N + 1) D J)) h := by
  obtain ⟨t, ht⟩ : ∃ t, moreN (countI (N + 1) D J) = t * detR (lapM D J) N := ⟨(1020 + countI (N + 1) D J - 1) / countI (N + 1) D J, by rw [detR_DD, ← count_eq ok hp]; rfl⟩
  refine ⟨fun l => (-t) * sumZ (fun j => adj (lapM D J) N l j) N, fun i hi => ?_⟩
  rw [loss_all hi, ht]
  show h i + t * detR (lapM D J) N = h i - -t * detR (lapM D J) N
  rw [Int.neg_mul]; omega
theorem again_eqv {N : Nat} {D : Nat → Nat} {J : Nat → Nat → Nat} {p : Nat → Nat} {hp x f : Nat → Int} (ok : YardOk (N + 1) D J) (hr : Ranked (N + 1) J p) (ho : Odo (N + 1) D J (highF (N + 1) D J hp) x) (hf : ∀ u, u < N + 1 → f u = fin (N + 1) D J (highF (N + 1) D J hp) x u) : Eqv N D J (fun i => f (i + 1)) hp :=
  (fin_eqv ok ho hf).trans (more_eqv ok hr hp)
theorem lack_eqv {N : Nat} {D : Nat → Nat} {J : Nat → Nat → Nat} {p : Nat → Nat} {hp x f : Nat → Int} (ok : YardOk (N + 1) D J) (hr : Ranked (N + 1) J p) (ho : Odo (N + 1) D J (lackF (N + 1) D J hp) x) (hf : ∀ u, u < N + 1 → f u = fin (N + 1) D J (lackF (N + 1) D J hp) x u) : Eqv N D J (fun i => f (i + 1)) (fun i => topI D i - hp i) :=
  (fin_eqv ok ho hf).trans (more_eqv ok hr (fun i => topI D i - hp i))
/-- what heaps lack -/
theorem Eqv.lack {N : Nat} {D : Nat → Nat} {J : Nat → Nat → Nat} {f g : Nat → Int} (h : Eqv N D J f g) : Eqv N D J (fun i => topI D i - f i) (fun i => topI D i - g i) := by
  obtain ⟨x, hx⟩ := h
  exact ⟨fun l => - x l, fun i hi => by
    show topI D i - f i = topI D i - g i - _
    rw [loss_neg, hx i hi]; omega⟩
theorem Eqv.congr {N : Nat} {D : Nat → Nat} {J : Nat → Nat → Nat} {f g f' g' : Nat → Int} (h : Eqv N D J f g) (hf : ∀ i, i < N → f i = f' i) (hg : ∀ i, i < N → g i = g' i) : Eqv N D J f' g' := by
  obtain ⟨x, hx⟩ := h
  exact ⟨x, fun i hi => by rw [← hf i hi, ← hg i hi]; exact hx i hi⟩
theorem low_eqv {N : Nat} {D : Nat → Nat} {J : Nat → Nat → Nat} {p : Nat → Nat} {hp x f : Nat → Int} (ok : YardOk (N + 1) D J) (hr : Ranked (N + 1) J p) (ho : Odo (N + 1) D J (lackF (N + 1) D J hp) x) (hf : ∀ u, u < N + 1 → f u = fin (N + 1) D J (lackF (N + 1) D J hp) x u) : Eqv N D J (fun i => topI D i - f (i + 1)) hp :=
  (lack_eqv ok hr ho hf).lack.congr (fun _ _ => rfl) (fun i _ => by show topI D i - (topI D i - hp i) = hp i; omega)
/-- equivalent recurrent heaps are the same -/
theorem eqv_same {N : Nat} {D : Nat → Nat} {J : Nat → Nat → Nat} {f g : Nat → Int} (ok : YardOk (N + 1) D J) (hf : NF N J f) (hg : NF N J g) (hfs : ∀ i, i < N → f i < D (i + 1)) (hgs : ∀ i, i < N → g i < D (i + 1)) (h : Eqv N D J f g) : ∀ i, i < N → f i = g i := by
  obtain ⟨x, hx⟩ := h
  intro i hi
  have h0 := uniq ok hf hg hfs hgs hx
  have : lossX D J N x i = 0 := by
    unfold lossX
    rw [sumZ_congr (g := fun _ => 0) (fun l hl => by show _ * x l = 0; rw [h0 l hl]; simp)]
    have h := sumZ_mul (fun _ => (0 : Int)) 0 N
    simpa using h
  rw [hx i hi, this]; omega
theorem rest_eqv {N : Nat} {D : Nat → Nat} {J : Nat → Nat → Nat} {p : Nat → Nat} {f g : Nat → Int} (ok : YardOk (N + 1) D J) (hr : Ranked (N + 1) J p) (h : Eqv N D J f g) {i : Nat} (hi : i < N) : restE (adjE N (lapM D J)) N (detE N (lapM D J)) f i = restE (adjE N (lapM D J)) N (detE N (lapM D J)) g i := by
  obtain ⟨x, hx⟩ := h
  unfold restE
  have e0 : ∀ k : Nat → Int, sumZ (fun j => adjE N (lapM D J) i j * k j) N = sumZ (fun j => adj (lapM D J) N i j * k j) N := fun k => sumZ_congr (fun j hj => by show _ * _ = _; rw [adjE_adj hi hj])
  rw [e0, e0]
  have e1 : sumZ (fun j => adj (lapM D J) N i j * f j) N = sumZ (fun j => adj (lapM D J) N i j * g j) N + (-1) * sumZ (fun j => adj (lapM D J) N i j * lossX D J N x j) N := by
    rw [← sumZ_mul, ← sumZ_add]
    refine sumZ_congr (fun j hj => ?_)
    show _ * f j = _ * g j + -1 * (_ * _)
    rw [hx j hj, Int.mul_sub]; omega
  rw [e1, adj_loss ok hr x i hi, detE_FF]
  rw [show sumZ (fun j => adj (lapM D J) N i j * g j) N + -1 * (detR (lapM D J) N * x i) = sumZ (fun j => adj (lapM D J) N i j * g j) N + detR (lapM D J) N * (- x i) by grind]
  exact Int.add_mul_emod_self_left _ _ _
theorem lap_small {N : Nat} {D : Nat → Nat} {J : Nat → Nat → Nat} (ok : YardOk (N + 1) D J) : Small N (lapM D J) := fun i j hi hj => by
  unfold lapM
  have h1 := ok.D20 (i + 1) (by omega)
  have h2 := ok.J20 (i + 1) (j + 1) (by omega) (by omega)
  split <;> omega
theorem det_count {N : Nat} {D : Nat → Nat} {J : Nat → Nat → Nat} {p : Nat → Nat} (ok : YardOk (N + 1) D J) (hr : Ranked (N + 1) J p) : detE N (lapM D J) = countI (N + 1) D J := by
  rw [detE_FF, detR_DD, count_eq ok hr]
end Go.Proofs.Ytlnpipkhofhlnaa
