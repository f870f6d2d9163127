/-
  The reference's numbers of any size: their digits lie in rows of numbers.
-/
import Derived.Test.YtomnjcjipdnnfaaNd
namespace Go.Proofs.Ytomnjcjipdnnfaa
open Go.RowKit Go.Deep

/-- the digits lie in a row of numbers -/
def ZTy (w : World) (v : Value) : Prop := ∃ (m : Bool) (a : Option Addr) (n c : Nat), v = .agg #[.bool m, .slice a n c] ∧ (0 < n → ∃ (g o N : Nat) (f : Nat → Value), a = some ⟨g, o, none⟩ ∧ w.rowIs g 3 N f)
theorem ZTy.kept {w w' : World} {v : Value} (h : ZTy w v) (k : Kept w w') : ZTy w' v := by
  obtain ⟨m, a, n, c, e, h1⟩ := h
  refine ⟨m, a, n, c, e, fun hn => ?_⟩
  obtain ⟨g, o, N, f, e2, h2⟩ := h1 hn
  exact ⟨g, o, N, f, e2, k.row h2⟩
theorem row_ty {w : World} {g : Nat} {t t' : TypeId} {N N' : Nat} {f f' : Nat → Value} (h : w.rowIs g t N f) (h' : w.rowIs g t' N' f') : t = t' := by
  obtain ⟨c, c1, _⟩ := h
  obtain ⟨c', c2, _⟩ := h'
  rw [c1] at c2
  injection c2 with c2
  injection c2
theorem ZTy.keptX {w w' : World} {v : Value} {r N : Nat} {t : TypeId} {f : Nat → Value} (h : ZTy w v) (k : KeptX (fun k => k = r) w w') (hr : w.rowIs r t N f) (ht : t ≠ 3) : ZTy w' v := by
  obtain ⟨m, a, n, c, e, h1⟩ := h
  refine ⟨m, a, n, c, e, fun hn => ?_⟩
  obtain ⟨g, o, N, f, e2, h2⟩ := h1 hn
  exact ⟨g, o, N, f, e2, k.row h2 (fun hg => by
    subst hg
    exact ht (row_ty hr h2))⟩
theorem ZAt.keptTy {w w' : World} {v : Value} {z : Int} {r N : Nat} {t : TypeId} {f : Nat → Value} (h : ZAt w v z) (hT : ZTy w v) (k : KeptX (fun k => k = r) w w') (hr : w.rowIs r t N f) (ht : t ≠ 3) : ZAt w' v z := by
  obtain ⟨m, s, n, D, h1, ⟨a, cap, e, h2, h3, h4, ⟨a2, g, o, cap2, e2, ha, hc⟩⟩, h5⟩ := h
  subst e
  cases e2
  obtain ⟨m', a', n', c', e3, h6⟩ := hT
  rw [h1] at e3
  injection e3 with e3
  injection e3 with e3
  injection e3 with _ e3
  injection e3 with e3 _
  injection e3 with e4 e5 e6
  refine ⟨m, _, n, D, h1, ⟨a, cap, rfl, h2, h3, h4, ⟨a, g, o, cap, rfl, ha, fun i hi => ?_⟩⟩, h5⟩
  refine KeptX.cellSome k (hc i hi) (fun hg => ?_)
  obtain ⟨g', o', N', f', e7, h7⟩ := h6 (by omega)
  have e8 := ha (by omega)
  rw [e4, e7] at e8
  injection e8 with e8
  injection e8 with e8 _
  subst e8
  subst hg
  exact ht (row_ty hr h7)
theorem own_rowIs {w : World} {base e size : Nat} {n g cap : Nat} {xs : List Value} (h : w.ownsRow base e size (.slice (some ⟨g, 0, none⟩) n cap) n xs) : ∃ N f, w.rowIs g e N f := by
  rcases h.2 with ⟨h1, _⟩ | ⟨g', cap', cur, h1, h2, h3, _⟩
  · cases h1
  · cases h1
    exact ⟨cur.size, fun i => cur.getD i undef, cur, h3, rfl, fun i hi => by simp [Array.getD, hi]⟩
def ZPostT (w : World) (z : Int) (e : Ending) (w' : World) : Prop := ∃ v, e = .returned v ∧ ZAt w' v z ∧ ZTy w' v ∧ Kept w w'
theorem lean_ty (w : World) (m : Bool) (s : Value) (l : Nat) (D : Nat → Int) (hS : SlAt w s l D) (hD : DigZ D l) (hl : l ≤ 100000) (hb : valZ D l < bigN) :
    Calls Try.prog 84 #[.agg #[.bool m, s]] w (ZPostT w (sgnZ m (valZ D l))) := by
  refine (lean_full w m s l D hS hD hl hb).mono ?_
  rintro e w' ⟨m2, s2, n, D2, rfl, h1, h2, h3, h4, h5, h6⟩
  obtain ⟨a, c, rfl, _, _, _, hg⟩ := own_form h1
  refine ⟨_, rfl, ⟨m2, _, n, D2, rfl, SlAt.of_own h1, h2, h3, h4, h5⟩, ⟨m2, a, n, c, rfl, fun hn => ?_⟩, h6⟩
  obtain ⟨g, rfl, _⟩ := hg hn
  obtain ⟨N, f, hr⟩ := own_rowIs h1
  exact ⟨g, 0, N, f, rfl, hr⟩
end Go.Proofs.Ytomnjcjipdnnfaa
