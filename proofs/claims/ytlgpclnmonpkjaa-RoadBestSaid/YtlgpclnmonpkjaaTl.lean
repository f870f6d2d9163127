/-
  Package road: maps of spots; gone.
-/
import Derived.Test.YtlgpclnmonpkjaaTk
import Derived.Test.YtlgpclnmonpkjaaTf
import Derived.Maps.RangeWalk
namespace Go.Proofs.Ytlgpclnmonpkjaa
open Go.RowKit Go.Deep

/-- how a spot in a map reads -/
def spD (p u : Int) : DataW Unit := .agg [.lit (.int .i64 p), .lit (.int .i64 u)]
def spR (v : Value) : Option (DataW Unit × List MemPlace) :=
  match v with
  | .agg xs => match xs.toList with
    | [.int .i64 p, .int .i64 u] => some (spD p u, [])
    | _ => none
  | _ => none
theorem spR_mk (p u : Int) : spR (.agg #[.int .i64 p, .int .i64 u]) = some (spD p u, []) := rfl
theorem spR_inv {v : Value} {y : DataW Unit × List MemPlace} (h : spR v = some y) : ∃ c : Int × Int, v = .agg #[.int .i64 c.1, .int .i64 c.2] ∧ y = (spD c.1 c.2, []) := by
  unfold spR at h
  split at h
  · next xs =>
    split at h
    · next p u e =>
      cases h
      refine ⟨(p, u), ?_, rfl⟩
      obtain ⟨l⟩ := xs
      simp only at e
      rw [e]
    · cases h
  · cases h
theorem spD_inj {p u q x : Int} (h : spD p u = spD q x) : p = q ∧ u = x := by
  unfold spD at h
  injection h with h
  injection h with h1 h
  injection h with h2 h
  injection h1 with h1
  injection h2 with h2
  injection h1 with _ h1
  injection h2 with _ h2
  exact ⟨h1, h2⟩
theorem Try.law3 : Go.Maps.Keyed Try.prog 3 := Go.Maps.int_keyed (q := .i64) Try.underlying3
theorem isKey_int (x : Int) : WideAt.IsKeyLit (.int .i64 x) := trivial
theorem lit_inj {x y : Int} (h : Lit.int .i64 x = Lit.int .i64 y) : x = y := by injection h
/-- the farriers that go, and where they are then -/
def goneD (R : Road) (H : Nat → Sp) (t k : Nat) : Nat → DataW Unit
  | 0 => .map []
  | j + 1 => if mayB R H t k j then (goneD R H t k j).put (.int .i64 (j : Int)) (spD (((R.to (H j) (t, 0)).1 : Nat) : Int) (((R.to (H j) (t, 0)).2 : Nat) : Int)) else goneD R H t k j
theorem goneD_succ (R : Road) (H : Nat → Sp) (t k j : Nat) : goneD R H t k (j + 1) = if mayB R H t k j then (goneD R H t k j).put (.int .i64 (j : Int)) (spD (((R.to (H j) (t, 0)).1 : Nat) : Int) (((R.to (H j) (t, 0)).2 : Nat) : Int)) else goneD R H t k j := rfl
theorem goneD_tidy (R : Road) (H : Nat → Sp) (t k : Nat) : ∀ j, Maps.Tidy (goneD R H t k j) := by
  intro j
  induction j with
  | zero => exact Maps.tidy_empty
  | succ j ih =>
    simp only [goneD]
    split
    · exact ih.put (isKey_int _) _
    · exact ih
theorem goneD_has (R : Road) (H : Nat → Sp) (t k : Nat) (x : Int) : ∀ j, Maps.has (goneD R H t k j) (.int .i64 x) = true ↔ ∃ i : Nat, i < j ∧ x = i ∧ mayB R H t k i = true := by
  intro j
  induction j with
  | zero => simp [goneD, Maps.has]
  | succ j ih =>
    simp only [goneD]
    by_cases e : x = (j : Int)
    · subst e
      by_cases hm : mayB R H t k j = true
      · rw [if_pos hm]
        simp only [Maps.has_put_same (goneD_tidy R H t k j).isMap (isKey_int _), true_iff]
        exact ⟨j, by omega, rfl, hm⟩
      · rw [if_neg hm, ih]
        constructor
        · rintro ⟨i, h1, h2, h3⟩; omega
        · rintro ⟨i, h1, h2, h3⟩
          obtain rfl : i = j := by omega
          exact absurd h3 hm
    · have hne : (Lit.int .i64 x) ≠ (.int .i64 (j : Int)) := fun h => e (lit_inj h)
      have hs : (∃ i : Nat, i < j ∧ x = i ∧ mayB R H t k i = true) ↔ ∃ i : Nat, i < j + 1 ∧ x = i ∧ mayB R H t k i = true := by
        constructor
        · rintro ⟨i, h1, h2, h3⟩; exact ⟨i, by omega, h2, h3⟩
        · rintro ⟨i, h1, h2, h3⟩
          have : i ≠ j := fun h => e (by omega)
          exact ⟨i, by omega, h2, h3⟩
      rw [← hs]
      split
      · rw [Maps.has_put_other hne, ih]
      · exact ih
theorem goneD_at (R : Road) (H : Nat → Sp) (t k : Nat) (i : Nat) (hm : mayB R H t k i = true) (zd : DataW Unit) : ∀ j, i < j → (goneD R H t k j).atKey (.int .i64 (i : Int)) zd = spD (((R.to (H i) (t, 0)).1 : Nat) : Int) (((R.to (H i) (t, 0)).2 : Nat) : Int) := by
  intro j
  induction j with
  | zero => intro h; omega
  | succ j ih =>
    intro h
    simp only [goneD]
    by_cases e : i = j
    · subst e
      rw [if_pos hm, Maps.atKey_put_same (goneD_tidy R H t k i).isMap (isKey_int _)]
    · have hne : (Lit.int .i64 (i : Int)) ≠ (.int .i64 (j : Int)) := fun h => e (by have := lit_inj h; omega)
      split
      · rw [Maps.atKey_put_other hne, ih (by omega)]
      · exact ih (by omega)
theorem goneD_size (R : Road) (H : Nat → Sp) (t k : Nat) : ∀ j, Maps.size (goneD R H t k j) = cnt (mayB R H t k) j := by
  intro j
  induction j with
  | zero => rfl
  | succ j ih =>
    simp only [goneD, cnt]
    by_cases hm : mayB R H t k j = true
    · have hh : ¬ Maps.has (goneD R H t k j) (.int .i64 (j : Int)) = true := by
        rw [goneD_has]
        rintro ⟨i, h1, h2, _⟩
        omega
      rw [if_pos hm, if_pos hm, Maps.size_put (goneD_tidy R H t k j), if_neg hh, ih]
    · rw [if_neg hm, if_neg hm, ih]
      rfl
theorem own_map_kept {P : Program} {kt : TypeId} {RR : Value → Option (DataW Unit × List MemPlace)} {w w' : World} {b n : Nat} {D : DataW Unit} (h : w.ownsMap P kt RR b n D) (k : Kept w w') : w'.ownsMap P kt RR b n D := by
  have hl := h.lt
  obtain ⟨es, clock, hb, F, hs, hD⟩ := h
  exact ⟨es, clock, (KeptX.block k b hl id).trans hb, F, hs, hD⟩
def GonePost (w : World) (R : Road) (H : Nat → Sp) (t k : Nat) (e : Ending) (w' : World) : Prop := ∃ M, e = .returned (.map (some M)) ∧ w.heap.size ≤ M ∧ w'.ownsMap Try.prog 3 spR M k (goneD R H t k k) ∧ Kept w w'
set_option maxRecDepth 100000 in
set_option maxHeartbeats 4000000 in
theorem gone_any (w : World) (v : Value) (R : Road) (ok : R.Ok) (k : Nat) (H : Nat → Sp) (t : Nat) (hG : GoingAt w v R k H t) (ht : t < R.n) (hk1 : 1 ≤ k) (hk : k ≤ 100) (hS : ∀ i, i < k → R.spot (H i)) (hne : ∀ i, i < k → H i ≠ (t, 0)) :
    Calls Try.prog 75 #[v, .func (.func 76) #[v] #[]] w (GonePost w R H t k) := by
  have hG0 := hG
  obtain ⟨b0, o0, c0, b1, o1, c1, b2, o2, c2, hb, ho, hcap, rfl, hT, _, hc⟩ := hG.open ok (by omega)
  have MG := Lib.hid (fun W (hW : GoingAt W (.agg #[.slice (some ⟨b0, o0, none⟩) R.n c0, .slice (some ⟨b1, o1, none⟩) R.n c1, .slice (some ⟨b2, o2, none⟩) R.n c2, .slice (some ⟨hb, ho, none⟩) k hcap, .int .i64 (t : Int)]) R k H t) (o : Nat) (hj : o < k) => mayGo_any W _ R ok k H t hW ht hk hS o hj)
  have TW := Lib.hid (fun W (hW : TreeAt W (Value.agg #[.slice (some ⟨b0, o0, none⟩) R.n c0, .slice (some ⟨b1, o1, none⟩) R.n c1, .slice (some ⟨b2, o2, none⟩) R.n c2]) R) (o : Nat) (hj : o < k) => towards_any W _ R ok hW (H o) (hS o hj) t ht (hne o hj))
  obtain ⟨n0, HN0⟩ : ∃ n0, w.heap.size = n0 := ⟨_, rfl⟩
  obtain ⟨W1, hW1, hsz, q0, q1, q2, q3, q4, hK⟩ := newbox5 w n0 HN0 (.slice (some ⟨b0, o0, none⟩) R.n c0) (.slice (some ⟨b1, o1, none⟩) R.n c1) (.slice (some ⟨b2, o2, none⟩) R.n c2) (.slice (some ⟨hb, ho, none⟩) k hcap) (.int .i64 (t : Int)) 98
  have hm0 := World.ownsMap_made W1 Try.prog 3 spR
  rw [hsz] at hm0
  have hK1 := (Kept.refl W1).alloc (.map #[] 0)
  obtain ⟨W2, hW2⟩ : ∃ W2, W1.alloc (.map #[] 0) = W2 := ⟨_, rfl⟩
  rw [hW2] at hm0 hK1
  have hmk := @run_makeMap Try.prog
  have hG1 := hG0.kept hK
  have hT1 := hT.kept hK
  have HC := Lib.hid (fun i hi => (⟨hK.cellSome (hc i hi).1, hK.cellSome (hc i hi).2⟩ : _ ∧ _))
  have hsz1 : W1.heap.size ≤ n0 + 1 := by omega
  have hn0 : w.heap.size ≤ n0 + 1 := by omega
  have q3' := hK1.cellSome q3
  clear hc hT hG hG0
  go_enter Try.func75, Try.ntmps75
  go_wp2_with fail
  clear hmk hW1 hW2 HN0 q3'
  go_loopg [12] k (fun g s12 wr => ∃ j : Nat, j ≤ k ∧ g = k - j ∧ s12 = .int .i64 j ∧ wr.ownsMap Try.prog 3 spR (n0 + 1) j (goneD R H t k j) ∧ Kept W1 wr)
  case atStart => exact ⟨0, Nat.zero_le _, rfl, rfl, hm0, hK1⟩
  case round =>
    clear hm0 hK1
    obtain ⟨j, hle, rfl, rfl, hO, hK2⟩ := hrel
    by_cases hlt : j < k
    · obtain ⟨c1', c2'⟩ := HC.out j hlt
      have h1 := hK2.cellSome c1'
      have h2 := hK2.cellSome c2'
      obtain ⟨z0, z1, z2, z3, z4, _⟩ := keep5 q0 q1 q2 q3 q4 hK2
      have n1 : (j : Int) < (k : Int) := by omega
      have n2 : (0 : Int) ≤ (j : Int) := by omega
      have MG2 := Lib.hid (fun W hW => MG.out W hW j hlt)
      have TW2 := Lib.hid (fun W hW => TW.out W hW j hlt)
      have hkey := Go.Maps.keyOf_int_mk (q := .i64) Try.underlying3 (a := (j : Int)) (WalkArith.wf_i64 (by omega))
      have hg := Lib.hid (goneD_succ R H t k j)
      obtain ⟨b, HB⟩ : ∃ b, Hid (b = mayB R H t k j) := ⟨_, rfl⟩
      rw [← HB.out] at MG2 hg
      obtain ⟨⟨x0, x1⟩, HX⟩ : ∃ x, Hid (x = R.to (H j) (t, 0)) := ⟨_, rfl⟩
      rw [← HX.out] at TW2 hg
      obtain ⟨⟨p, u⟩, HP⟩ : ∃ x, Hid (x = H j) := ⟨_, rfl⟩
      rw [← HP.out] at TW2 h1 h2
      unfold SpV at TW2
      simp only at TW2 hg h1 h2
      obtain ⟨W3, hW3, hsz3, y0, y1, hK3⟩ := newbox2 wr wr.heap.size rfl (.int .i64 (p : Int)) (.int .i64 (u : Int)) 26
      obtain ⟨v0, v1, v2, v3, v4, _⟩ := keep5 z0 z1 z2 z3 z4 hK3
      have hK4 := hK2.trans hK3
      have hG4 := hG1.kept hK4
      have hT4 := hT1.kept hK4
      have hO4 := own_map_kept hO hK3
      clear MG TW HC c1' c2' hG1 hT1 hO
      cases b with
      | true =>
        rw [if_pos rfl] at hg
        go_wp2_with (first | (go_at_call 76; refine (MG2.out _ hG4).mono ?_; rintro e w5 ⟨rfl, hk5⟩; obtain ⟨x0', x1', x2', x3', x4', _⟩ := keep5 v0 v1 v2 v3 v4 hk5; obtain ⟨y0', y1', _⟩ := keep2 y0 y1 hk5) | (go_at_call 82; refine (TW2.out _ (hT4.kept (by repeat (first | assumption | exact Kept.refl _ | apply Kept.drew | apply Kept.drewN | apply Kept.alloc | refine Kept.trans ?_ (by assumption))))).mono ?_; rintro e w6 ⟨rfl, hk6⟩) | (at_mapUpdate; refine wpList_mapUpdate_own _ rfl _ _ _ 121 rfl 3 26 Try.law3 Try.underlying121 spR (n0 + 1) j (goneD R H t k j) rfl (own_map_kept hO4 (show Kept W3 _ from (by repeat (first | assumption | exact Kept.refl _ | apply Kept.drew | apply Kept.drewN | apply Kept.alloc | refine Kept.trans ?_ (by assumption))))) (by unfold maxLen; omega) _ _ (.int .i64 (j : Int)) rfl rfl hkey (spD (x0 : Int) (x1 : Int)) [] (spR_mk _ _) ?_))
        intro w7 hO7 hg7
        have hK7 : Kept W1 w7 := (hK4.trans (show Kept W3 _ from (by repeat (first | assumption | exact Kept.refl _ | apply Kept.drew | apply Kept.drewN | apply Kept.alloc | refine Kept.trans ?_ (by assumption))))).grown hg7 (fun b hb => by injection hb with hb; omega)
        go_wp2_with fail
        go_roundg (k - (j + 1))
        case measure => omega
        case rel => exact ⟨j + 1, by omega, rfl, by go_num, by rw [hg.out]; exact hO7, hK7⟩
      | false =>
        rw [if_neg (by simp)] at hg
        go_wp2_with (first | (go_at_call 76; refine (MG2.out _ hG4).mono ?_; rintro e w5 ⟨rfl, hk5⟩))
        go_roundg (k - (j + 1))
        case measure => omega
        case rel => exact ⟨j + 1, by omega, rfl, by go_num, by rw [hg.out]; exact (own_map_kept hO4 hk5).mono (by omega), hK4.trans hk5⟩
    · obtain rfl : j = k := by omega
      go_wp2_with fail
      go_ret
      exact ⟨n0 + 1, rfl, by omega, hO, hK.trans hK2⟩
end Go.Proofs.Ytlgpclnmonpkjaa
