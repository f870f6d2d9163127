/-
  The count of a valid yard is from 1 on and below 250000; heaps to which a multiple of it is added have no forbidden set. No memory here.
-/
import Derived.Test.YtlnpipkhofhlnaaNf
import Derived.Test.YtlnpipkhofhlnaaE
namespace Go.Proofs.Ytlnpipkhofhlnaa
open Go.RowKit Go.Deep

theorem deg_sum {n : Nat} {A B : Nat → Int} : ∀ {m : Nat}, allN (fun i => edgeB n (A i) (B i)) m = true → sumN (degN A B m) n = 2 * m := by
  intro m
  induction m with
  | zero => intro _; exact sumN_zero (fun i _ => rfl)
  | succ m ih =>
    intro h
    have h1 : allN (fun i => edgeB n (A i) (B i)) m = true := allN_true.2 (fun i hi => allN_true.1 h i (by omega))
    obtain ⟨x, y, ha, hb, hx, hy, hxy⟩ := edgeB_true (allN_true.1 h m (by omega))
    rw [sumN_congr (g := fun v => (degN A B m v + (if v = x then 1 else 0)) + (if v = y then 1 else 0)) (fun v _ => by rw [degN_succ ha hb hxy]; rfl), sumN_add, sumN_add, ih h1,
      sumN_one (f := fun v => if v = x then 1 else 0) hx (fun i _ hne => if_neg hne), sumN_one (f := fun v => if v = y then 1 else 0) hy (fun i _ hne => if_neg hne)]
    simp; omega
theorem good_count {n : Int} {A B : Nat → Int} {m : Nat} (h : goodB n A B m = true) : 1 ≤ countI n.toNat (degN A B m) (btwN A B m) ∧ countI n.toNat (degN A B m) (btwN A B m) < 250000 := by
  obtain ⟨ok, ⟨p, hp⟩, hm, hE⟩ := good_ok h
  have hs := deg_sum hE
  obtain ⟨N, hN⟩ : ∃ N, n.toNat = N + 1 := ⟨n.toNat - 1, by have := ok.n2; omega⟩
  rw [hN] at ok hp hs ⊢
  rw [sumN_shift] at hs
  exact count_bd ok hp (by omega)
/-- heaps of so many bars are at least the greatest stable ones, and so no set is forbidden in what they settle to -/
theorem rec_nf {N : Nat} {D : Nat → Nat} {J : Nat → Nat → Nat} {p : Nat → Nat} {hp f x : Nat → Int} {c : Int} (ok : YardOk (N + 1) D J) (hr : Ranked (N + 1) J p) (hc : 1 ≤ c) (hh : ∀ i, i < N → -1000 ≤ hp i)
    (ho : Odo (N + 1) D J (atV (fun i => hp i + moreN c)) x) (hf : ∀ u, u < N + 1 → f u = fin (N + 1) D J (atV (fun i => hp i + moreN c)) x u) : NF N J (fun i => f (i + 1)) := by
  have h1 : NF N J (fun i => atV (fun i => hp i + moreN c) (i + 1)) := nf_top ok hr (fun i hi => by
    show (D (i + 1) : Int) - 1 ≤ hp i + moreN c
    have := moreN_bd hc
    have := hh i hi
    have := ok.D20 (i + 1) (by omega)
    omega)
  exact (nf_odo ok h1 ho).mono (fun i hi => by rw [hf (i + 1) (by omega)]; exact Int.le_refl _)
/-- bars that are added keep it so -/
theorem sum_nf {N : Nat} {D : Nat → Nat} {J : Nat → Nat → Nat} {fa fb f x : Nat → Int} (ok : YardOk (N + 1) D J) (hn : NF N J fa) (hb : ∀ i, i < N → 0 ≤ fb i)
    (ho : Odo (N + 1) D J (atV (fun i => fa i + fb i)) x) (hf : ∀ u, u < N + 1 → f u = fin (N + 1) D J (atV (fun i => fa i + fb i)) x u) : NF N J (fun i => f (i + 1)) := by
  have h1 : NF N J (fun i => atV (fun i => fa i + fb i) (i + 1)) := hn.mono (fun i hi => by
    show fa i ≤ fa i + fb i
    have := hb i hi
    omega)
  exact (nf_odo ok h1 ho).mono (fun i hi => by rw [hf (i + 1) (by omega)]; exact Int.le_refl _)
/-- where nothing is forbidden all burn -/
theorem nf_all {N : Nat} {J : Nat → Nat → Nat} {f : Nat → Int} (h : NF N J f) : decide ((burnAll (N + 1) J f).length = N) = true := by
  rw [nf_burn h]; simp
theorem odo_stable {N : Nat} {D : Nat → Nat} {J : Nat → Nat → Nat} {h x f : Nat → Int} (ho : Odo (N + 1) D J h x) (hf : ∀ u, u < N + 1 → f u = fin (N + 1) D J h x u) : stableB D (fun i => f (i + 1)) (N + 1) = true := by
  unfold stableB
  exact allN_true.2 (fun i hi => by
    have := ho.1.2.2 (i + 1) (by omega) (by omega)
    rw [← hf (i + 1) (by omega)] at this
    simpa using this)
end Go.Proofs.Ytlnpipkhofhlnaa
