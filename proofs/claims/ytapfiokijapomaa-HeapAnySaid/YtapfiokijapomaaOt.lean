/-
  The order of topplings: what becomes of the stable end when a vertex has toppled once already. No memory here.
-/
import Derived.Test.YtapfiokijapomaaE
namespace Go.Proofs.Ytapfiokijapomaa
open Go.RowKit Go.Deep

theorem fin_other {n : Nat} {D : Nat → Nat} {J : Nat → Nat → Nat} {h h' y : Nat → Int} {u : Nat} : fin n D J h' y u = fin n D J h y u + (h' u - h u) := by unfold fin; omega
theorem odo_topple {n : Nat} {D : Nat → Nat} {J : Nat → Nat → Nat} {h h' x : Nat → Int} {v : Nat} (ok : YardOk n D J) (hx : Odo n D J h x) (hv1 : 1 ≤ v) (hv : v < n) (hD : (D v : Int) ≤ h v)
    (hh : ∀ u, 1 ≤ u → u < n → h' u = (if u = v then h v - (D v : Int) else h u + (J v u : Int))) :
    Odo n D J h' (addAt x v (-1)) ∧ ∀ u, 1 ≤ u → u < n → fin n D J h' (addAt x v (-1)) u = fin n D J h x u := by
  have hrel : ∀ y u, 1 ≤ u → u < n → fin n D J h' y u = fin n D J h (addAt y v 1) u := fun y u h1 h2 => by
    rw [fin_other (h := h), fin_add n D J h y hv, hh u h1 h2]
    by_cases e : u = v
    · subst e; rw [if_pos rfl, if_pos rfl, ok.J0 u hv]; omega
    · rw [if_neg e, if_neg e]; omega
  have hback : ∀ u, u < n → addAt (addAt x v (-1)) v 1 u = x u := fun u _ => by unfold addAt; split <;> omega
  have hfin : ∀ u, 1 ≤ u → u < n → fin n D J h' (addAt x v (-1)) u = fin n D J h x u := fun u h1 h2 => by rw [hrel _ u h1 h2]; exact fin_congr hback h2
  obtain ⟨⟨x0, xp, xs⟩, hmin⟩ := hx
  have hxv : 1 ≤ x v := by
    have h1 := xp v hv
    rcases Int.lt_or_le (x v) 1 with h2 | h2
    · exfalso
      have e : x v = 0 := by omega
      have h3 := xs v hv1 hv
      unfold fin at h3
      rw [e] at h3
      have h4 : 0 ≤ sumZ (fun w => x w * (J w v : Int)) n := sumZ_nonneg (fun w hw => Int.mul_nonneg (xp w hw) (by omega))
      simp at h3
      omega
    · exact h2
  refine ⟨⟨⟨?_, fun u hu => ?_, fun u h1 h2 => ?_⟩, fun y hy u hu => ?_⟩, hfin⟩
  · unfold addAt; rw [if_neg (by omega)]; omega
  · unfold addAt
    have := xp u hu
    by_cases e : u = v
    · subst e; rw [if_pos rfl]; omega
    · rw [if_neg e]; omega
  · rw [hfin u h1 h2]; exact xs u h1 h2
  · have hs : Stab n D J h (addAt y v 1) := by
      refine ⟨?_, fun u hu => ?_, fun u h1 h2 => ?_⟩
      · unfold addAt; rw [if_neg (by omega), hy.1]; rfl
      · unfold addAt; have := hy.2.1 u hu; split <;> omega
      · rw [← hrel y u h1 h2]; exact hy.2.2 u h1 h2
    have := hmin _ hs u hu
    unfold addAt at this ⊢
    by_cases e : u = v
    · rw [if_pos e] at this ⊢; omega
    · rw [if_neg e] at this ⊢; omega
end Go.Proofs.Ytapfiokijapomaa
