/-
  Package forge: goOn.
-/
import Derived.Test.YtjjeoloifggdpaaVf
namespace Go.Proofs.Ytjjeoloifggdpaa
open Go.RowKit Go.Deep Go.Sort

theorem VilAt.here {w : World} {p q : Nat} {V : Vil} {S : Nat → Prop} (h : VilAt w p q V S) {e : Ending} : VPost w p q V S e e w :=
  ⟨rfl, h.wide (fun b hb => .inl hb) (fun b hb => by rcases hb with hb | hb; exact h.fits b hb; omega), KeptX.refl _ _⟩
/-- a request sent, and noted -/
theorem ask_any (w : World) (p q : Nat) (V : Vil) (S : Nat → Prop) (i : Nat) (h : VilAt w p q V S) (hi : i < V.n) (hs : V.Small 1000000) :
    Calls Try.prog 68 #[.pointer (some ⟨p, 0, none⟩), .iface 96 (.agg #[.int .i64 (i : Int), .int .i64 (V.way i : Int)])] w fun e w' => e = .returned (.tuple #[]) ∧
      w'.cell? ⟨q, i * 4 + 2, none⟩ = some (.bool (V.asked i)) ∧ w'.frozen? ⟨q, i * 4 + 2, none⟩ = false ∧ VPost w p q (V.ask i) S e e (w'.setCell ⟨q, i * 4 + 2, none⟩ (.bool true)) := by
  refine Calls.mono (send_any w p q V S ⟨i, V.way i, false⟩ h hs) ?_
  rintro e w' ⟨rfl, ⟨vo, vf, vl, cq, h5⟩, hk⟩
  refine ⟨rfl, h5.asked hi, (h5.cell (show i * 4 + 2 < V.n * 4 by omega)).2, vpost_of ⟨vo, vf, vl, cq, ?_⟩ ?_⟩
  · rw [grow_set]
    exact h5.setAsked i true
  · obtain ⟨_, _, _, _, h0⟩ := h
    exact hk.setCell (p := ⟨q, i * 4 + 2, none⟩) (.inl h0.sq) _
/-- what a world must show of smith i for the walks of goOn -/
theorem smith_at {w : World} {p q : Nat} {V : Vil} {S : Nat → Prop} (h : VilAt w p q V S) {i : Nat} (hi : i < V.n) : ∃ a c cq,
    w.cell? ⟨p, 2, none⟩ = some (.slice (some ⟨q, 0, none⟩) V.n cq) ∧ w.cell? ⟨q, i * 4, none⟩ = some (.int .i64 (V.way i : Int)) ∧ w.cell? ⟨q, i * 4 + 1, none⟩ = some (.slice a (V.lst i).length c) ∧ w.cell? ⟨q, i * 4 + 2, none⟩ = some (.bool (V.asked i)) ∧ w.cell? ⟨q, i * 4 + 3, none⟩ = some (.bool (V.forg i)) := by
  obtain ⟨vo, vf, vl, cq, h⟩ := h
  obtain ⟨a, c, hv⟩ := own_shape (h.lst i hi)
  have h1 := h.list hi
  rw [hv] at h1
  exact ⟨a, c, cq, h.box2, h.way hi, h1, h.asked hi, h.forg hi⟩
set_option maxRecDepth 100000 in
set_option maxHeartbeats 2000000 in
theorem goOn_stay (w : World) (p q : Nat) (V : Vil) (S : Nat → Prop) (i : Nat) (h : VilAt w p q V S) (hi : i < V.n) (hs : V.Small 1000000) (hm : V.may i = false) :
    Calls Try.prog 47 #[ptr p, .int .i64 (i : Int)] w (VPost w p q (V.go i) S (.returned (.tuple #[]))) := by
  obtain ⟨a, c, cq, c2, cw, cl, ca, cf⟩ := smith_at h hi
  have AS := Lib.hid (ask_any w p q V S i h hi hs)
  have hgo : V.go i = if V.must i then V.ask i else V := by
    have hf : V.first i = V := by unfold Vil.first; rw [if_neg (by rw [hm]; simp)]
    unfold Vil.go; rw [hf]
  have hH := Lib.hid (h.here (e := .returned (.tuple #[])))
  have i1 : (i : Int) < (V.n : Int) := by omega
  have i0 : (0 : Int) ≤ (i : Int) := by omega
  rw [hgo]
  unfold Vil.may at hm
  have hmu : Hid (V.must i = (decide (V.way i ≠ i) && (decide (V.lst i ≠ []) && !V.asked i))) := rfl
  have hln : V.lst i ≠ [] ↔ 0 < (V.lst i).length := by rw [List.length_pos_iff]
  have hlnd : decide (V.lst i ≠ []) = decide (0 < (V.lst i).length) := decide_eq_decide.2 hln
  have hm2 : (decide (V.way i = i) && (!V.forg i && decide (0 < (V.lst i).length))) = false := by rw [← hlnd]; exact hm
  have hmu2 : Hid (V.must i = (decide (V.way i ≠ i) && (decide (0 < (V.lst i).length) && !V.asked i))) := by show _ = _; rw [hmu.out, decide_eq_decide.2 hln]
  clear hgo h hs hmu hln hlnd hm
  unfold ptr
  generalize V.must i = mu at *
  generalize (V.lst i).length = k at *
  generalize V.way i = y at *
  generalize V.forg i = fo at *
  generalize V.asked i = aq at *
  have hmu := hmu2.out
  clear hmu2
  by_cases hy : y = i
  · have e1 : ((y : Int) == (i : Int)) = true := by rw [hy]; simp
    have e2 : ((y : Int) != (i : Int)) = false := by rw [hy]; simp
    obtain rfl : mu = false := by rw [hmu, hy]; simp
    rw [decide_eq_true hy, Bool.true_and] at hm2
    clear hmu hy AS
    cases fo
    · have hk : ¬ ((k : Int) > 0) := by
        simp at hm2; omega
      clear hm2
      go_enter Try.func47, Try.ntmps47
      go_wp2_with fail
      go_end0
      exact hH.out
    · clear hm2
      go_enter Try.func47, Try.ntmps47
      go_wp2_with fail
      go_end0
      exact hH.out
  · have e1 : ((y : Int) == (i : Int)) = false := by simp only [beq_eq_false_iff_ne]; omega
    have e2 : ((y : Int) != (i : Int)) = true := by simp; omega
    rw [decide_eq_true hy, Bool.true_and] at hmu
    clear hm2 hy
    by_cases hk : (k : Int) > 0
    · rw [decide_eq_true (by omega), Bool.true_and] at hmu
      cases aq
      · obtain rfl : mu = true := hmu
        go_enter Try.func47, Try.ntmps47
        go_wp2_with (first | (go_at_call 68; refine AS.out.mono ?_; rintro e w5 ⟨rfl, d2, f2, hP⟩; have HP := Lib.hid hP; clear hP))
        go_end0
        exact HP.out
      · obtain rfl : mu = false := hmu
        clear AS
        go_enter Try.func47, Try.ntmps47
        go_wp2_with fail
        go_end0
        exact hH.out
    · rw [decide_eq_false (by omega), Bool.false_and] at hmu
      subst hmu
      clear AS
      go_enter Try.func47, Try.ntmps47
      go_wp2_with fail
      go_end0
      exact hH.out
set_option maxRecDepth 100000 in
set_option maxHeartbeats 2000000 in
theorem goOn_give (w : World) (p q : Nat) (V : Vil) (S : Nat → Prop) (i : Nat) (h : VilAt w p q V S) (hi : i < V.n) (hs : V.Small 999999) (hm : V.may i = true) :
    Calls Try.prog 47 #[ptr p, .int .i64 (i : Int)] w (VPost w p q (V.go i) S (.returned (.tuple #[]))) := by
  obtain ⟨a, c, cq, c2, cw, cl, ca, cf⟩ := smith_at h hi
  have hF := Lib.hid h.fits
  have hgo : V.go i = if (V.grant i).must i then (V.grant i).ask i else V.grant i := by
    have hf : V.first i = V.grant i := by unfold Vil.first; rw [if_pos hm]
    unfold Vil.go; rw [hf]
  have i1 : (i : Int) < (V.n : Int) := by omega
  have i0 : (0 : Int) ≤ (i : Int) := by omega
  rw [hgo]
  unfold Vil.may at hm
  simp only [Bool.and_eq_true, decide_eq_true_eq, Bool.not_eq_true'] at hm
  obtain ⟨hy, hfo, hl⟩ := hm
  obtain ⟨f, r, hfr⟩ : ∃ f r, V.lst i = f :: r := List.exists_cons_of_ne_nil hl
  have GR := Lib.hid (grant_any w p q V S i f r h hi hfr hs)
  have hn1 : (V.grant i).n = V.n := by unfold Vil.grant; rw [hfr]; dsimp only; split <;> rfl
  have hs1 := hs.grant i
  have hk : (((V.lst i).length : Nat) : Int) > 0 := by rw [hfr]; simp
  have e0 : ((V.way i : Int) == (i : Int)) = true := by rw [hy]; simp
  rw [hfo] at cf
  obtain ⟨V1, HV⟩ : ∃ V1, Hid (V1 = V.grant i) := ⟨_, rfl⟩
  rw [← HV.out] at GR hn1 hs1 ⊢
  have AS : Hid (∀ (W : World) (T : Nat → Prop), VilAt W p q V1 T → Calls Try.prog 68 #[.pointer (some ⟨p, 0, none⟩), .iface 96 (.agg #[.int .i64 (i : Int), .int .i64 (V1.way i : Int)])] W fun e w' => e = .returned (.tuple #[]) ∧
      w'.cell? ⟨q, i * 4 + 2, none⟩ = some (.bool (V1.asked i)) ∧ w'.frozen? ⟨q, i * 4 + 2, none⟩ = false ∧ VPost W p q (V1.ask i) T e e (w'.setCell ⟨q, i * 4 + 2, none⟩ (.bool true))) := Lib.hid (fun W T hW => ask_any W p q V1 T i hW (by omega) hs1)
  have SM : Hid (∀ (W : World) (T : Nat → Prop), VilAt W p q V1 T → ∃ a c cq, W.cell? ⟨p, 2, none⟩ = some (.slice (some ⟨q, 0, none⟩) V1.n cq) ∧ W.cell? ⟨q, i * 4, none⟩ = some (.int .i64 (V1.way i : Int)) ∧ W.cell? ⟨q, i * 4 + 1, none⟩ = some (.slice a (V1.lst i).length c) ∧ W.cell? ⟨q, i * 4 + 2, none⟩ = some (.bool (V1.asked i)) ∧ W.cell? ⟨q, i * 4 + 3, none⟩ = some (.bool (V1.forg i))) := Lib.hid (fun W T hW => smith_at hW (by omega))
  have hmu : V1.must i = (decide (V1.way i ≠ i) && (decide (0 < (V1.lst i).length) && !V1.asked i)) := by
    have hln : V1.lst i ≠ [] ↔ 0 < (V1.lst i).length := by rw [List.length_pos_iff]
    unfold Vil.must; rw [decide_eq_decide.2 hln]
  have hfin : Hid (∀ w1 w2, VilAt w1 p q V1 (grow S w w1) → KeptX S w w1 → VPost w1 p q (if V1.must i then V1.ask i else V1) (grow S w w1) (.returned (.tuple #[])) (.returned (.tuple #[])) w2 → VPost w p q (if V1.must i then V1.ask i else V1) S (.returned (.tuple #[])) (.returned (.tuple #[])) w2) := Lib.hid (fun w1 w2 _ k1 h2 => by
    obtain ⟨_, h3, k3⟩ := h2
    obtain ⟨h4, k4⟩ := VilAt.then h3 hF.out k1 k3
    exact vpost_of h4 k4)
  clear hgo h hs hn1 hs1 hfr hl hy hfo ca HV hF
  unfold ptr at *
  generalize V1.must i = mu at *
  generalize (V1.lst i).length = k1 at *
  generalize V1.way i = y at *
  generalize V1.asked i = aq at *
  by_cases hy : y = i
  · have e1 : ((y : Int) != (i : Int)) = false := by rw [hy]; simp
    obtain rfl : mu = false := by rw [hmu, hy]; simp
    clear hmu hy AS
    go_enter Try.func47, Try.ntmps47
    go_wp2_with (first | (go_at_call 67; refine GR.out.mono ?_; rintro e w1 ⟨rfl, hA1, hk1⟩; obtain ⟨a1, c1, cq1, z2, zw, zl, za, zf⟩ := SM.out _ _ hA1; have HA1 := Lib.hid hA1; have HK1 := Lib.hid hk1; clear hA1 hk1))
    go_end0
    exact hfin.out _ _ HA1.out HK1.out HA1.out.here
  · have e1 : ((y : Int) != (i : Int)) = true := by simp; omega
    rw [decide_eq_true hy, Bool.true_and] at hmu
    clear hy
    by_cases hk1 : (k1 : Int) > 0
    · rw [decide_eq_true (by omega), Bool.true_and] at hmu
      cases aq
      · obtain rfl : mu = true := hmu
        go_enter Try.func47, Try.ntmps47
        go_wp2_with (first
          | (go_at_call 67; refine GR.out.mono ?_; rintro e w1 ⟨rfl, hA1, hk1⟩; obtain ⟨a1, c1, cq1, z2, zw, zl, za, zf⟩ := SM.out _ _ hA1; have HA1 := Lib.hid hA1; have HK1 := Lib.hid hk1; clear hA1 hk1)
          | (go_at_call 68; refine (AS.out _ _ HA1.out).mono ?_; rintro e w5 ⟨rfl, d2, f2, hP⟩; have HP := Lib.hid hP; clear hP))
        go_end0
        exact hfin.out _ _ HA1.out HK1.out HP.out
      · obtain rfl : mu = false := hmu
        clear AS
        go_enter Try.func47, Try.ntmps47
        go_wp2_with (first | (go_at_call 67; refine GR.out.mono ?_; rintro e w1 ⟨rfl, hA1, hk1⟩; obtain ⟨a1, c1, cq1, z2, zw, zl, za, zf⟩ := SM.out _ _ hA1; have HA1 := Lib.hid hA1; have HK1 := Lib.hid hk1; clear hA1 hk1))
        go_end0
        exact hfin.out _ _ HA1.out HK1.out HA1.out.here
    · rw [decide_eq_false (by omega), Bool.false_and] at hmu
      subst hmu
      clear AS
      go_enter Try.func47, Try.ntmps47
      go_wp2_with (first | (go_at_call 67; refine GR.out.mono ?_; rintro e w1 ⟨rfl, hA1, hk1⟩; obtain ⟨a1, c1, cq1, z2, zw, zl, za, zf⟩ := SM.out _ _ hA1; have HA1 := Lib.hid hA1; have HK1 := Lib.hid hk1; clear hA1 hk1))
      go_end0
      exact hfin.out _ _ HA1.out HK1.out HA1.out.here
theorem goOn_any (w : World) (p q : Nat) (V : Vil) (S : Nat → Prop) (i : Nat) (h : VilAt w p q V S) (hi : i < V.n) (hs : V.Small 999999) :
    Calls Try.prog 47 #[ptr p, .int .i64 (i : Int)] w (VPost w p q (V.go i) S (.returned (.tuple #[]))) := by
  cases hm : V.may i
  · exact goOn_stay w p q V S i h hi (hs.mono (by omega)) hm
  · exact goOn_give w p q V S i h hi hs hm
end Go.Proofs.Ytjjeoloifggdpaa
