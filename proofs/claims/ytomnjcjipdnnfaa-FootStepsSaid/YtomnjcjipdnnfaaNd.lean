/-
  The reference's numbers of any size: how they lie in memory, and lean.
-/
import Derived.Test.YtomnjcjipdnnfaaNl
import Derived.Laws.AppendOwnNone
namespace Go.Proofs.Ytomnjcjipdnnfaa
open Go.RowKit Go.Deep

/-- a slice of digits -/
def SlAt (w : World) (v : Value) (n : Nat) (D : Nat → Int) : Prop := ∃ (a : Option Addr) (cap : Nat), v = .slice a n cap ∧ n ≤ cap ∧ (a = none → cap = 0) ∧ cap ≤ maxLen ∧ IntsAt w (.slice a n cap) n D
theorem SlAt.kept {w w' : World} {v : Value} {n : Nat} {D : Nat → Int} (h : SlAt w v n D) (k : Kept w w') : SlAt w' v n D := by
  obtain ⟨a, cap, h1, h2, h3, h4, h5⟩ := h
  exact ⟨a, cap, h1, h2, h3, h4, h5.kept k⟩
theorem SlAt.of_own {w : World} {base : Nat} {v : Value} {n : Nat} {D : Nat → Int} (h : w.ownsRow base 3 1 v n (ints D n)) : SlAt w v n D := by
  obtain ⟨a, cap, rfl, h1, h2, h3, _⟩ := own_form h
  exact ⟨a, cap, rfl, h1, h2, h3, ints_at h⟩
theorem SlAt.ints {w : World} {v : Value} {n : Nat} {D : Nat → Int} (h : SlAt w v n D) : IntsAt w v n D := by
  obtain ⟨a, cap, rfl, h1, h2, h3, h4⟩ := h
  exact h4
def bigN : Int := 10000 ^ 1000
/-- v is the number z -/
def ZAt (w : World) (v : Value) (z : Int) : Prop := ∃ (m : Bool) (s : Value) (n : Nat) (D : Nat → Int), v = .agg #[.bool m, s] ∧ SlAt w s n D ∧ LeanZ D n ∧ (m = true → 0 < n) ∧ z = sgnZ m (valZ D n) ∧ n ≤ 1000
theorem ZAt.kept {w w' : World} {v : Value} {z : Int} (h : ZAt w v z) (k : Kept w w') : ZAt w' v z := by
  obtain ⟨m, s, n, D, h1, h2, h3⟩ := h
  exact ⟨m, s, n, D, h1, h2.kept k, h3⟩
theorem ZAt.shape {w : World} {v : Value} {z : Int} (h : ZAt w v z) : ∃ m a n cap, v = .agg #[.bool m, .slice a n cap] := by
  obtain ⟨m, s, n, D, rfl, ⟨a, cap, rfl, _⟩, _⟩ := h
  exact ⟨m, a, n, cap, rfl⟩
/-- no digit lies in a box -/
theorem ZAt.keptBox {w w' : World} {v : Value} {z : Int} {r : Nat} {t : TypeId} {b : Bool} {a0 : Option Addr} {n0 c0 : Nat} (h : ZAt w v z) (k : KeptX (fun k => k = r) w w') (hr : w.rowIs r t 2 (fun i => if i = 0 then .bool b else .slice a0 n0 c0)) : ZAt w' v z := by
  obtain ⟨m, s, n, D, h1, ⟨a, cap, e, h2, h3, h4, ⟨a2, g, o, cap2, e2, ha, hc⟩⟩, h5⟩ := h
  refine ⟨m, s, n, D, h1, ⟨a, cap, e, h2, h3, h4, ⟨a2, g, o, cap2, e2, ha, fun i hi => ?_⟩⟩, h5⟩
  have h6 := hc i hi
  refine KeptX.cellSome k h6 (fun hg => ?_)
  simp only at hg
  subst hg
  by_cases h7 : o + i < 2
  · rw [hr.cell h7] at h6
    have h9 : (if o + i = 0 then Value.bool b else Value.slice a0 n0 c0) = Value.int .i64 (D i) := Option.some.inj h6
    by_cases h8 : o + i = 0
    · rw [if_pos h8] at h9; cases h9
    · rw [if_neg h8] at h9; cases h9
  · obtain ⟨c, c1, c2, _⟩ := hr
    unfold World.cell? at h6
    simp only [c1] at h6
    rw [Array.getElem?_eq_none (by omega)] at h6
    cases h6
def Big (z : Int) : Prop := -bigN < z ∧ z < bigN
def ZPost (w : World) (z : Int) (e : Ending) (w' : World) : Prop := ∃ v, e = .returned v ∧ ZAt w' v z ∧ Kept w w'
/-- where the zeros at the end begin -/
theorem lean_of {D : Nat → Int} {n l : Nat} (hD : DigZ D l) (hn : n ≤ l) (hz : ∀ i, n ≤ i → i < l → D i = 0) (ht : n = 0 ∨ D (n - 1) ≠ 0) : LeanZ D n ∧ valZ D n = valZ D l := by
  refine ⟨⟨fun i hi => hD i (by omega), fun h => by rcases ht with h2 | h2; omega; exact h2⟩, ?_⟩
  have := valZ_zeros (D := D) (n := n) (l - n) (fun i h1 h2 => hz i h1 (by omega))
  rw [show n + (l - n) = l by omega] at this
  exact this.symm
/-- a box of two cells -/
def bx (x y : Value) : Nat → Value := fun i => if i = 0 then x else y
theorem box_row (w : World) (x y : Value) (t : TypeId) (s : Nat) (hs : w.heap.size = s) : (w.alloc (.cells #[x, y] t)).rowIs s t 2 (bx x y) := by
  subst hs
  exact World.rowIs_alloc w #[x, y] t (bx x y) (fun j hj => by
    have : j = 0 ∨ j = 1 := by simp at hj; omega
    rcases this with rfl | rfl <;> rfl)
theorem bx_set0 {w : World} {b : Nat} {t : TypeId} {x y : Value} (h : w.rowIs b t 2 (bx x y)) (v : Value) : (w.setCell ⟨b, 0, none⟩ v).rowIs b t 2 (bx v y) :=
  (h.set 0 v).congr (fun j hj => by
    have : j = 0 ∨ j = 1 := by omega
    rcases this with rfl | rfl <;> simp [bx])
theorem bx_set1 {w : World} {b : Nat} {t : TypeId} {x y : Value} (h : w.rowIs b t 2 (bx x y)) (v : Value) : (w.setCell ⟨b, 1, none⟩ v).rowIs b t 2 (bx x v) :=
  (h.set 1 v).congr (fun j hj => by
    have : j = 0 ∨ j = 1 := by omega
    rcases this with rfl | rfl <;> simp [bx])
theorem bx_cells {w : World} {b : Nat} {t : TypeId} {x y : Value} (h : w.rowIs b t 2 (bx x y)) : w.cell? ⟨b, 0, none⟩ = some x ∧ w.cell? ⟨b, 1, none⟩ = some y ∧ w.frozen? ⟨b, 0, none⟩ = false ∧ w.frozen? ⟨b, 1, none⟩ = false :=
  ⟨h.cell (i := 0) (by omega), h.cell (i := 1) (by omega), h.frozen 0, h.frozen 1⟩
/-- what lean gives: its digits lie in memory of its own -/
def LPost (w : World) (z : Int) (e : Ending) (w' : World) : Prop := ∃ (m : Bool) (s : Value) (n : Nat) (D : Nat → Int), e = .returned (.agg #[.bool m, s]) ∧ w'.ownsRow w.heap.size 3 1 s n (ints D n) ∧ LeanZ D n ∧ (m = true → 0 < n) ∧ z = sgnZ m (valZ D n) ∧ n ≤ 1000 ∧ Kept w w'
set_option maxRecDepth 100000 in
set_option maxHeartbeats 4000000 in
theorem lean_full (w : World) (m : Bool) (s : Value) (l : Nat) (D : Nat → Int) (hS : SlAt w s l D) (hD : DigZ D l) (hl : l ≤ 100000) (hb : valZ D l < bigN) :
    Calls Try.prog 84 #[.agg #[.bool m, s]] w (LPost w (sgnZ m (valZ D l))) := by
  obtain ⟨a, cap, rfl, hcap, hnil, hmax, ⟨a2, b, o, cap2, eqa, ha, hc⟩⟩ := hS
  cases eqa
  obtain ⟨i0, hi, hz0, hz1, hz2⟩ := info_parts Try.info3
  have HD := Lib.hid hD
  have HC := Lib.hid hc
  have HB := Lib.hid hb
  clear hD hc hb
  go_enter Try.func84, Try.ntmps84
  go_wp2_with fail
  have hZ0 := box_row w (.bool m) (.slice a l cap) 60 w.heap.size rfl
  have hR1 := box_row (w.alloc (.cells #[.bool m, .slice a l cap] 60)) (.bool false) (.slice none 0 0) 60 (w.heap.size + 1) (by simp)
  have hZ1 := Kept.row ((Kept.refl _).alloc (.cells #[.bool false, .slice none 0 0] 60)) hZ0
  have hk1 : Kept w ((w.alloc (.cells #[.bool m, .slice a l cap] 60)).alloc (.cells #[.bool false, .slice none 0 0] 60)) := ((Kept.refl w).alloc _).alloc _
  generalize ((w.alloc (.cells #[.bool m, .slice a l cap] 60)).alloc (.cells #[.bool false, .slice none 0 0] 60)) = W at *
  clear hZ0
  obtain ⟨z0, HZ0⟩ : ∃ z0, Hid (z0 = w.heap.size) := ⟨_, rfl⟩
  obtain ⟨r0, HR0⟩ : ∃ r0, Hid (r0 = w.heap.size + 1) := ⟨_, rfl⟩
  rw [← HR0.out] at hR1 ⊢
  rw [← HZ0.out] at hZ1 ⊢
  have HZW : Hid (w.heap.size ≤ z0) := by show _ ≤ _; rw [HZ0.out]; exact Nat.le_refl _
  have HRW : Hid (w.heap.size ≤ r0) := by show _ ≤ _; rw [HR0.out]; omega
  have hzr : z0 ≠ r0 := by rw [HZ0.out, HR0.out]; omega
  have HZ1 := Lib.hid hZ1
  have HR1 := Lib.hid hR1
  obtain ⟨k0, k1, k2, k3⟩ := bx_cells hZ1
  obtain ⟨j0, j1, j2, j3⟩ := bx_cells hR1
  clear hZ1 hR1
  go_loopg [3] (l + 1) (fun g s3 wr => ∃ n : Nat, n ≤ l ∧ g = n + 1 ∧ s3 = .int .i64 n ∧ Hid (∀ i, n ≤ i → i < l → D i = 0) ∧ W = wr)
  case atStart => exact ⟨l, Nat.le_refl _, rfl, rfl, (fun i h1 h2 => by omega), rfl⟩
  case round =>
    obtain ⟨n, hn, rfl, rfl, hzs, rfl⟩ := hrel
    by_cases hgo : 0 < n ∧ D (n - 1) = 0
    · obtain ⟨g1, g2⟩ := hgo
      obtain rfl := ha (by omega)
      have x0 := hk1.cellSome (HC.out (n - 1) (by omega))
      rw [g2] at x0
      have e1 : (n : Int) - 1 = ((n - 1 : Nat) : Int) := by omega
      have s1 : (0 : Int) < (n : Int) := by omega
      have s2 : ((n - 1 : Nat) : Int) < (l : Int) := by omega
      have hz2 : Hid (∀ i, n - 1 ≤ i → i < l → D i = 0) := fun i h1 h2 => by
        by_cases e : i = n - 1
        · rw [e]; exact g2
        · exact hzs.out i (by omega) h2
      clear g2
      go_wp2_with fail
      go_roundg (n - 1 + 1)
      case measure => omega
      case rel => exact ⟨n - 1, by omega, rfl, rfl, hz2.out, rfl⟩
    · have hlz := lean_of HD.out hn hzs.out (by
        by_cases e : n = 0
        · exact Or.inl e
        · exact Or.inr (fun h => hgo ⟨by omega, h⟩))
      have HLZ := Lib.hid hlz
      have hn1000 : n ≤ 1000 := lean_le hlz.1 (by rw [hlz.2]; exact HB.out)
      have hO := own_zeroT W W.heap.size 3 1 (Nat.le_refl _)
      have hk2 : Kept W (W.alloc (.cells #[] 3)) := (Kept.refl W).alloc _
      have q0 := hk2.cellSome k0
      have q1 := hk2.cellSome k1
      have zlt : z0 < W.heap.size := HZ1.out.lt
      have rlt : r0 < W.heap.size := HR1.out.lt
      have g2 : (n : Int) ≤ (cap : Int) := by omega
      have g3 : (0 : Int) ≤ (n : Int) := by omega
      have hszA : W.heap.size ≤ (W.alloc (.cells #[] 3)).heap.size := hk2.size
      clear hlz
      by_cases hn0 : n = 0
      · have HN0 := Lib.hid hn0
        have HV0 : Hid (sgnZ m (valZ D l) = sgnZ false (valZ D n)) := by
          show _ = _
          rw [← HLZ.out.2, HN0.out]
          cases m <;> rfl
        have s1 : ¬ (0 : Int) < (n : Int) := by omega
        have s4 : ¬ 0 < n := by omega
        clear hgo hn0
        cases a with
        | none =>
          obtain rfl := hnil rfl
          obtain rfl : n = 0 := by omega
          obtain rfl : l = 0 := by omega
          have hZ2 := hk2.row HZ1.out
          have hR2 := hk2.row HR1.out
          have hK2 : Kept w (W.alloc (.cells #[] 3)) := hk1.trans hk2
          have hO3 : (W.alloc (.cells #[] 3)).ownsRow W.heap.size 3 1 (.slice (some ⟨W.heap.size, 0, none⟩) 0 0) 0 (ints D 0) := hO
          have HO3 := Lib.hid hO3
          obtain ⟨y0, y1, y2, y3⟩ := bx_cells hZ2
          obtain ⟨x4, x5, x6, x7⟩ := bx_cells hR2
          clear hO3 j0 j1 j2 j3 q0 q1
          cases m
          · go_wp2_with (first | (at_builtin; refine wpList_append_own_none rfl _ _ 27 rfl W.heap.size 3 i0 1 Try.underlying27 hi _ _ _ rfl hO rfl ?_; generalize W.alloc (.cells #[] 3) = W2 at *))
            have hzF := HZW.out
            have hrF := HRW.out
            have hR3 := ((hR2.setOther (a := ⟨z0, 1, none⟩) (Ne.symm hzr) (.slice (some ⟨W.heap.size, 0, none⟩) 0 0)).setOther (a := ⟨z0, 0, none⟩) (Ne.symm hzr) (.bool false))
            have hR4 := bx_set1 (bx_set0 hR3 (.bool false)) (.slice (some ⟨W.heap.size, 0, none⟩) 0 0)
            obtain ⟨f0, f1, _, _⟩ := bx_cells hR4
            have hKF : Kept w ((((W2.setCell ⟨z0, 1, none⟩ (.slice (some ⟨W.heap.size, 0, none⟩) 0 0)).setCell ⟨z0, 0, none⟩ (.bool false)).setCell ⟨r0, 0, none⟩ (.bool false)).setCell ⟨r0, 1, none⟩ (.slice (some ⟨W.heap.size, 0, none⟩) 0 0)) := (((hK2.setCell hzF _).setCell hzF _).setCell hrF _).setCell hrF _
            have hkX : KeptX (fun k => k = z0 ∨ k = r0) W2 ((((W2.setCell ⟨z0, 1, none⟩ (.slice (some ⟨W.heap.size, 0, none⟩) 0 0)).setCell ⟨z0, 0, none⟩ (.bool false)).setCell ⟨r0, 0, none⟩ (.bool false)).setCell ⟨r0, 1, none⟩ (.slice (some ⟨W.heap.size, 0, none⟩) 0 0)) := ((((KeptX.refl _ W2).setCell (Or.inl (Or.inl rfl)) _).setCell (Or.inl (Or.inl rfl)) _).setCell (Or.inl (Or.inr rfl)) _).setCell (Or.inl (Or.inr rfl)) _
            have hO5 := own_keptX HO3.out hkX (fun b h => by rcases h with h | h <;> omega)
            generalize ((((W2.setCell ⟨z0, 1, none⟩ (.slice (some ⟨W.heap.size, 0, none⟩) 0 0)).setCell ⟨z0, 0, none⟩ (.bool false)).setCell ⟨r0, 0, none⟩ (.bool false)).setCell ⟨r0, 1, none⟩ (.slice (some ⟨W.heap.size, 0, none⟩) 0 0)) = WF at *
            exact bodyPost_ret (v := .agg #[.bool false, .slice (some ⟨W.heap.size, 0, none⟩) 0 0]) (by simp [results, Try.results84, go_sem, f0, f1]) rfl ⟨false, _, 0, D, rfl, own_base hO5 hk1.size, HLZ.out.1, (fun h => by cases h), (by first | exact HV0.out | rfl), hn1000, hKF⟩
          · go_wp2_with (first | (at_builtin; refine wpList_append_own_none rfl _ _ 27 rfl W.heap.size 3 i0 1 Try.underlying27 hi _ _ _ rfl hO rfl ?_; generalize W.alloc (.cells #[] 3) = W2 at *))
            have hzF := HZW.out
            have hrF := HRW.out
            have hR3 := ((hR2.setOther (a := ⟨z0, 1, none⟩) (Ne.symm hzr) (.slice (some ⟨W.heap.size, 0, none⟩) 0 0)).setOther (a := ⟨z0, 0, none⟩) (Ne.symm hzr) (.bool false))
            have hR4 := bx_set1 (bx_set0 hR3 (.bool false)) (.slice (some ⟨W.heap.size, 0, none⟩) 0 0)
            obtain ⟨f0, f1, _, _⟩ := bx_cells hR4
            have hKF : Kept w ((((W2.setCell ⟨z0, 1, none⟩ (.slice (some ⟨W.heap.size, 0, none⟩) 0 0)).setCell ⟨z0, 0, none⟩ (.bool false)).setCell ⟨r0, 0, none⟩ (.bool false)).setCell ⟨r0, 1, none⟩ (.slice (some ⟨W.heap.size, 0, none⟩) 0 0)) := (((hK2.setCell hzF _).setCell hzF _).setCell hrF _).setCell hrF _
            have hkX : KeptX (fun k => k = z0 ∨ k = r0) W2 ((((W2.setCell ⟨z0, 1, none⟩ (.slice (some ⟨W.heap.size, 0, none⟩) 0 0)).setCell ⟨z0, 0, none⟩ (.bool false)).setCell ⟨r0, 0, none⟩ (.bool false)).setCell ⟨r0, 1, none⟩ (.slice (some ⟨W.heap.size, 0, none⟩) 0 0)) := ((((KeptX.refl _ W2).setCell (Or.inl (Or.inl rfl)) _).setCell (Or.inl (Or.inl rfl)) _).setCell (Or.inl (Or.inr rfl)) _).setCell (Or.inl (Or.inr rfl)) _
            have hO5 := own_keptX HO3.out hkX (fun b h => by rcases h with h | h <;> omega)
            generalize ((((W2.setCell ⟨z0, 1, none⟩ (.slice (some ⟨W.heap.size, 0, none⟩) 0 0)).setCell ⟨z0, 0, none⟩ (.bool false)).setCell ⟨r0, 0, none⟩ (.bool false)).setCell ⟨r0, 1, none⟩ (.slice (some ⟨W.heap.size, 0, none⟩) 0 0)) = WF at *
            exact bodyPost_ret (v := .agg #[.bool false, .slice (some ⟨W.heap.size, 0, none⟩) 0 0]) (by simp [results, Try.results84, go_sem, f0, f1]) rfl ⟨false, _, 0, D, rfl, own_base hO5 hk1.size, HLZ.out.1, (fun h => by cases h), (by first | exact HV0.out | rfl), hn1000, hKF⟩
        | some ad =>
          go_wp2_with (first | (at_builtin; refine wpList_append_own _ rfl _ _ 27 rfl W.heap.size 3 i0 (.int .i64 0) 1 8 Try.underlying27 hi hz0 hz1 hz2 rfl (by decide) _ _ _ rfl hO ad n cap (ints D n) rfl (by simp [ints]) ?c1 ?c2 ?c3 ?c4 ?c5 ?_))
          case c1 => exact fun j u h => by obtain ⟨h1, rfl⟩ := ints_get h; exact absurd h1 (by have := HN0.out; omega)
          case c2 => intro u hu; simp [ints] at hu; obtain ⟨i, _, rfl⟩ := hu; rfl
          case c3 => unfold maxLen; omega
          case c4 => omega
          intro v' w2 hO2 hgr _
          have hX := grew_X hgr hO
          have hZ2 := hX.row (hk2.row HZ1.out) (by omega)
          have hR2 := hX.row (hk2.row HR1.out) (by omega)
          have hK2 : Kept w w2 := (hk1.trans hk2).step hX (fun i hi => Nat.le_trans hk1.size hi)
          have hO3 : w2.ownsRow W.heap.size 3 1 v' n (ints D n) := by simpa using hO2
          obtain ⟨va, vc, rfl, _⟩ := own_form hO3
          have HO3 := Lib.hid hO3
          obtain ⟨y0, y1, y2, y3⟩ := bx_cells hZ2
          obtain ⟨x4, x5, x6, x7⟩ := bx_cells hR2
          clear hO3 hO hO2 hgr k0 k1 k2 k3 j0 j1 j2 j3 q0 q1
          cases m
          · go_wp2_with fail
            have hzF := HZW.out
            have hrF := HRW.out
            have hR3 := ((hR2.setOther (a := ⟨z0, 1, none⟩) (Ne.symm hzr) (.slice va n vc)).setOther (a := ⟨z0, 0, none⟩) (Ne.symm hzr) (.bool false))
            have hR4 := bx_set1 (bx_set0 hR3 (.bool false)) (.slice va n vc)
            obtain ⟨f0, f1, _, _⟩ := bx_cells hR4
            have hKF : Kept w ((((w2.setCell ⟨z0, 1, none⟩ (.slice va n vc)).setCell ⟨z0, 0, none⟩ (.bool false)).setCell ⟨r0, 0, none⟩ (.bool false)).setCell ⟨r0, 1, none⟩ (.slice va n vc)) := (((hK2.setCell hzF _).setCell hzF _).setCell hrF _).setCell hrF _
            have hkX : KeptX (fun k => k = z0 ∨ k = r0) w2 ((((w2.setCell ⟨z0, 1, none⟩ (.slice va n vc)).setCell ⟨z0, 0, none⟩ (.bool false)).setCell ⟨r0, 0, none⟩ (.bool false)).setCell ⟨r0, 1, none⟩ (.slice va n vc)) := ((((KeptX.refl _ w2).setCell (Or.inl (Or.inl rfl)) _).setCell (Or.inl (Or.inl rfl)) _).setCell (Or.inl (Or.inr rfl)) _).setCell (Or.inl (Or.inr rfl)) _
            have hO5 := own_keptX HO3.out hkX (fun b h => by rcases h with h | h <;> omega)
            generalize ((((w2.setCell ⟨z0, 1, none⟩ (.slice va n vc)).setCell ⟨z0, 0, none⟩ (.bool false)).setCell ⟨r0, 0, none⟩ (.bool false)).setCell ⟨r0, 1, none⟩ (.slice va n vc)) = WF at *
            exact bodyPost_ret (v := .agg #[.bool false, .slice va n vc]) (by simp [results, Try.results84, go_sem, f0, f1]) rfl ⟨false, _, n, D, rfl, own_base hO5 hk1.size, HLZ.out.1, (fun h => by cases h), (by first | exact HV0.out | rfl), hn1000, hKF⟩
          · go_wp2_with fail
            have hzF := HZW.out
            have hrF := HRW.out
            have hR3 := ((hR2.setOther (a := ⟨z0, 1, none⟩) (Ne.symm hzr) (.slice va n vc)).setOther (a := ⟨z0, 0, none⟩) (Ne.symm hzr) (.bool false))
            have hR4 := bx_set1 (bx_set0 hR3 (.bool false)) (.slice va n vc)
            obtain ⟨f0, f1, _, _⟩ := bx_cells hR4
            have hKF : Kept w ((((w2.setCell ⟨z0, 1, none⟩ (.slice va n vc)).setCell ⟨z0, 0, none⟩ (.bool false)).setCell ⟨r0, 0, none⟩ (.bool false)).setCell ⟨r0, 1, none⟩ (.slice va n vc)) := (((hK2.setCell hzF _).setCell hzF _).setCell hrF _).setCell hrF _
            have hkX : KeptX (fun k => k = z0 ∨ k = r0) w2 ((((w2.setCell ⟨z0, 1, none⟩ (.slice va n vc)).setCell ⟨z0, 0, none⟩ (.bool false)).setCell ⟨r0, 0, none⟩ (.bool false)).setCell ⟨r0, 1, none⟩ (.slice va n vc)) := ((((KeptX.refl _ w2).setCell (Or.inl (Or.inl rfl)) _).setCell (Or.inl (Or.inl rfl)) _).setCell (Or.inl (Or.inr rfl)) _).setCell (Or.inl (Or.inr rfl)) _
            have hO5 := own_keptX HO3.out hkX (fun b h => by rcases h with h | h <;> omega)
            generalize ((((w2.setCell ⟨z0, 1, none⟩ (.slice va n vc)).setCell ⟨z0, 0, none⟩ (.bool false)).setCell ⟨r0, 0, none⟩ (.bool false)).setCell ⟨r0, 1, none⟩ (.slice va n vc)) = WF at *
            exact bodyPost_ret (v := .agg #[.bool false, .slice va n vc]) (by simp [results, Try.results84, go_sem, f0, f1]) rfl ⟨false, _, n, D, rfl, own_base hO5 hk1.size, HLZ.out.1, (fun h => by cases h), (by first | exact HV0.out | rfl), hn1000, hKF⟩
      · have s1 : (0 : Int) < (n : Int) := by omega
        have hne : D (n - 1) ≠ 0 := fun h => hgo ⟨by omega, h⟩
        obtain rfl := ha (by omega)
        have x0 := hk1.cellSome (HC.out (n - 1) (by omega))
        have e1 : (n : Int) - 1 = ((n - 1 : Nat) : Int) := by omega
        have s2 : ((n - 1 : Nat) : Int) < (l : Int) := by omega
        have hz1' : (D (n - 1) == 0) = false := by simpa using hne
        obtain ⟨dd, HDD⟩ : ∃ dd, Hid (dd = D (n - 1)) := ⟨_, rfl⟩
        rw [← HDD.out] at x0 hz1' hne
        have s4 : 0 < n := by omega
        clear hgo
        go_wp2_with (first | (at_builtin; refine wpList_append_own _ rfl _ _ 27 rfl W.heap.size 3 i0 (.int .i64 0) 1 8 Try.underlying27 hi hz0 hz1 hz2 rfl (by decide) _ _ _ rfl hO ⟨b, o, none⟩ n cap (ints D n) rfl (by simp [ints]) ?c1 ?c2 ?c3 ?c4 ?c5 ?_))
        case c1 => exact fun j u h => by obtain ⟨h1, rfl⟩ := ints_get h; exact hk2.cellSome (hk1.cellSome (HC.out j (by omega)))
        case c2 => intro u hu; simp [ints] at hu; obtain ⟨i, _, rfl⟩ := hu; rfl
        case c3 => unfold maxLen; omega
        case c4 => omega
        intro v' w2 hO2 hgr _
        have hX := grew_X hgr hO
        have hZ2 := hX.row (hk2.row HZ1.out) (by omega)
        have hR2 := hX.row (hk2.row HR1.out) (by omega)
        have hK2 : Kept w w2 := (hk1.trans hk2).step hX (fun i hi => Nat.le_trans hk1.size hi)
        have hO3 : w2.ownsRow W.heap.size 3 1 v' n (ints D n) := by simpa using hO2
        have hO3 : w2.ownsRow W.heap.size 3 1 v' n (ints D n) := by simpa using hO2
        obtain ⟨va, vc, rfl, _⟩ := own_form hO3
        have HO3 := Lib.hid hO3
        obtain ⟨y0, y1, y2, y3⟩ := bx_cells hZ2
        obtain ⟨x4, x5, x6, x7⟩ := bx_cells hR2
        clear hO3 hO hO2 hgr k0 k1 k2 k3 j0 j1 j2 j3 q0 q1 x0
        cases m
        · go_wp2_with fail
          have hzF := HZW.out
          have hrF := HRW.out
          have hR3 := ((hR2.setOther (a := ⟨z0, 1, none⟩) (Ne.symm hzr) (.slice va n vc)).setOther (a := ⟨z0, 0, none⟩) (Ne.symm hzr) (.bool false))
          have hR4 := bx_set1 (bx_set0 hR3 (.bool false)) (.slice va n vc)
          obtain ⟨f0, f1, _, _⟩ := bx_cells hR4
          have hKF : Kept w ((((w2.setCell ⟨z0, 1, none⟩ (.slice va n vc)).setCell ⟨z0, 0, none⟩ (.bool false)).setCell ⟨r0, 0, none⟩ (.bool false)).setCell ⟨r0, 1, none⟩ (.slice va n vc)) := (((hK2.setCell hzF _).setCell hzF _).setCell hrF _).setCell hrF _
          have hkX : KeptX (fun k => k = z0 ∨ k = r0) w2 ((((w2.setCell ⟨z0, 1, none⟩ (.slice va n vc)).setCell ⟨z0, 0, none⟩ (.bool false)).setCell ⟨r0, 0, none⟩ (.bool false)).setCell ⟨r0, 1, none⟩ (.slice va n vc)) := ((((KeptX.refl _ w2).setCell (Or.inl (Or.inl rfl)) _).setCell (Or.inl (Or.inl rfl)) _).setCell (Or.inl (Or.inr rfl)) _).setCell (Or.inl (Or.inr rfl)) _
          have hO5 := own_keptX HO3.out hkX (fun b h => by rcases h with h | h <;> omega)
          generalize ((((w2.setCell ⟨z0, 1, none⟩ (.slice va n vc)).setCell ⟨z0, 0, none⟩ (.bool false)).setCell ⟨r0, 0, none⟩ (.bool false)).setCell ⟨r0, 1, none⟩ (.slice va n vc)) = WF at *
          exact bodyPost_ret (v := .agg #[.bool false, .slice va n vc]) (by simp [results, Try.results84, go_sem, f0, f1]) rfl ⟨false, _, n, D, rfl, own_base hO5 hk1.size, HLZ.out.1, (fun h => by cases h), by rw [sgnZ, HLZ.out.2]; rfl, hn1000, hKF⟩
        · go_wp2_with fail
          have hzF := HZW.out
          have hrF := HRW.out
          have hR3 := ((hR2.setOther (a := ⟨z0, 1, none⟩) (Ne.symm hzr) (.slice va n vc)).setOther (a := ⟨z0, 0, none⟩) (Ne.symm hzr) (.bool true))
          have hR4 := bx_set1 (bx_set0 hR3 (.bool true)) (.slice va n vc)
          obtain ⟨f0, f1, _, _⟩ := bx_cells hR4
          have hKF : Kept w ((((w2.setCell ⟨z0, 1, none⟩ (.slice va n vc)).setCell ⟨z0, 0, none⟩ (.bool true)).setCell ⟨r0, 0, none⟩ (.bool true)).setCell ⟨r0, 1, none⟩ (.slice va n vc)) := (((hK2.setCell hzF _).setCell hzF _).setCell hrF _).setCell hrF _
          have hkX : KeptX (fun k => k = z0 ∨ k = r0) w2 ((((w2.setCell ⟨z0, 1, none⟩ (.slice va n vc)).setCell ⟨z0, 0, none⟩ (.bool true)).setCell ⟨r0, 0, none⟩ (.bool true)).setCell ⟨r0, 1, none⟩ (.slice va n vc)) := ((((KeptX.refl _ w2).setCell (Or.inl (Or.inl rfl)) _).setCell (Or.inl (Or.inl rfl)) _).setCell (Or.inl (Or.inr rfl)) _).setCell (Or.inl (Or.inr rfl)) _
          have hO5 := own_keptX HO3.out hkX (fun b h => by rcases h with h | h <;> omega)
          generalize ((((w2.setCell ⟨z0, 1, none⟩ (.slice va n vc)).setCell ⟨z0, 0, none⟩ (.bool true)).setCell ⟨r0, 0, none⟩ (.bool true)).setCell ⟨r0, 1, none⟩ (.slice va n vc)) = WF at *
          exact bodyPost_ret (v := .agg #[.bool true, .slice va n vc]) (by simp [results, Try.results84, go_sem, f0, f1]) rfl ⟨true, _, n, D, rfl, own_base hO5 hk1.size, HLZ.out.1, (fun _ => by omega), by rw [sgnZ, HLZ.out.2]; rfl, hn1000, hKF⟩
theorem lean_any (w : World) (m : Bool) (s : Value) (l : Nat) (D : Nat → Int) (hS : SlAt w s l D) (hD : DigZ D l) (hl : l ≤ 100000) (hb : valZ D l < bigN) :
    Calls Try.prog 84 #[.agg #[.bool m, s]] w (ZPost w (sgnZ m (valZ D l))) := by
  refine (lean_full w m s l D hS hD hl hb).mono ?_
  rintro e w' ⟨m2, s2, n, D2, rfl, h1, h2, h3, h4, h5, h6⟩
  exact ⟨_, rfl, ⟨m2, s2, n, D2, rfl, SlAt.of_own h1, h2, h3, h4, h5⟩, h6⟩
end Go.Proofs.Ytomnjcjipdnnfaa
