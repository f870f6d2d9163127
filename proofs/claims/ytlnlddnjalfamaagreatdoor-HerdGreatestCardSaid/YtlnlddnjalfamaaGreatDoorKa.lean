/-
  The reference's colors, Colors.
-/
import Derived.Test.YtlnlddnjalfamaaGreatDoorJc
import Derived.Test.YtlnlddnjalfamaaGreatDoorJj
import Derived.Laws.AppendOwnNone
namespace Go.Proofs.YtlnlddnjalfamaaGreatDoor
open Go.RowKit Go.Deep

theorem allN_congr {p q : Nat → Bool} {n : Nat} (h : ∀ i, i < n → p i = q i) : allN p n = allN q n := by
  induction n with
  | zero => rfl
  | succ n ih => simp only [allN]; rw [ih (fun i hi => h i (by omega)), h n (by omega)]
theorem diffB_adj {H : Nat → Nat} {F : Nat → Nat → Bool} {n : Nat} {l : List Nat} (c : Nat) (hl : l.length < n) (hF : ∀ i j, i < n → j < n → F i j = (H j).testBit i) :
    allN (fun i => !(lget l i == c) || !F i l.length) l.length = diffB H (lget (l ++ [c])) l.length l.length := by
  unfold diffB
  refine allN_congr fun i hi => ?_
  rw [lget_app, if_pos hi, lget_app, if_neg (by omega), if_pos rfl, hF i _ (by omega) hl]
  cases (H l.length).testBit i <;> cases (lget l i == c) <;> rfl
theorem nats_len (l : List Nat) : (nats l).length = l.length := by simp [nats]
theorem nats_one (l : List Nat) : ∀ v ∈ nats l, v.oneCell' = true := by
  intro v hv
  simp only [nats, List.mem_map] at hv
  obtain ⟨i, _, rfl⟩ := hv
  rfl
theorem NatsAt.news {w : World} {ad : Addr} {n cap : Nat} {l : List Nat} (h : NatsAt w (.slice (some ad) n cap) l) : ∀ j u, (nats l)[j]? = some u → w.cell? (ad.add j) = some u := by
  intro j u hu
  have hj : j < l.length := by
    rcases Nat.lt_or_ge j l.length with e | e
    · exact e
    · rw [List.getElem?_eq_none (by rw [nats_len]; exact e)] at hu; cases hu
  rw [nats_get hj] at hu
  cases hu
  obtain ⟨a, b', o', cap', e, ha, hc⟩ := h
  cases e
  have := ha (by omega)
  cases this
  rw [add_at]
  exact hc j hj
/-- what colors returns -/
def RColPost (w : World) (r : Option (List Nat)) (e : Ending) (w' : World) : Prop :=
  Kept w w' ∧ match r with
    | none => e = .returned (.slice none 0 0)
    | some d => ∃ (a : Addr) (cap : Nat), e = .returned (.slice (some a) d.length cap) ∧ NatsAt w' (.slice (some a) d.length cap) d
theorem rcol_none {w w' : World} {e : Ending} (h : RColPost w none e w') : Kept w w' ∧ e = .returned (.slice none 0 0) := h
theorem rcol_some {w w' : World} {e : Ending} {d : List Nat} (h : RColPost w (some d) e w') : Kept w w' ∧ ∃ (a : Addr) (cap : Nat), e = .returned (.slice (some a) d.length cap) ∧ NatsAt w' (.slice (some a) d.length cap) d := h
end Go.Proofs.YtlnlddnjalfamaaGreatDoor
