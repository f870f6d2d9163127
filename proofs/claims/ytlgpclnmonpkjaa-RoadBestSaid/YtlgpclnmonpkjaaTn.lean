/-
  Package road: step.
-/
import Derived.Test.YtlgpclnmonpkjaaTl
import Derived.Test.YtlgpclnmonpkjaaTm
namespace Go.Proofs.Ytlgpclnmonpkjaa
open Go.RowKit Go.Deep

/-- where the farriers are after one step -/
def stepH (R : Road) (H : Nat → Sp) (t k : Nat) : Nat → Sp := fun i => if mayB R H t k i then R.to (H i) (t, 0) else H i
/-- .. while those of left are still to go -/
def midH (R : Road) (H : Nat → Sp) (t k : Nat) (left : Lit → Bool) : Nat → Sp := fun i => if mayB R H t k i && !left (.int .i64 (i : Int)) then R.to (H i) (t, 0) else H i
theorem midH_start (R : Road) (H : Nat → Sp) (t k : Nat) : ∀ i, i < k → H i = midH R H t k (Maps.has (goneD R H t k k)) i := fun i hi => by
  unfold midH
  cases hm : mayB R H t k i with
  | false => simp
  | true => rw [(goneD_has R H t k (i : Int) k).2 ⟨i, hi, rfl, hm⟩]; simp
theorem midH_end (R : Road) (H : Nat → Sp) (t k : Nat) (left : Lit → Bool) (h : ∀ kl, left kl = false) : ∀ i, i < k → midH R H t k left i = stepH R H t k i := fun i _ => by
  unfold midH stepH
  rw [h]
  simp
theorem midH_step (R : Road) (H : Nat → Sp) (t k : Nat) (left : Lit → Bool) (j : Nat) (hm : mayB R H t k j = true) (hl : left (.int .i64 (j : Int)) = true) : ∀ i, i < k →
    midH R H t k (fun z => left z && !z.sameKey (.int .i64 (j : Int))) i = if i = j then R.to (H j) (t, 0) else midH R H t k left i := fun i _ => by
  unfold midH
  dsimp only
  by_cases e : i = j
  · subst e
    have hs := WideAt.sameKey_self (isKey_int (i : Int))
    simp [hs, hm]
  · have hs := Maps.sameKey_ne (show Lit.int .i64 (i : Int) ≠ Lit.int .i64 (j : Int) from fun h => e (by have := lit_inj h; omega))
    simp [hs, e]
def StepPost (w : World) (R : Road) (H : Nat → Sp) (t k : Nat) (e : Ending) (w' : World) : Prop := ∃ v B, e = .returned (.tuple #[v, .int .i64 ((cnt (mayB R H t k) k : Nat) : Int)]) ∧ w.heap.size ≤ B ∧ w'.ownsRow B 26 2 v k (spsL (stepH R H t k) k) ∧ Kept w w'
theorem KeptX.not_cells {w w' : World} {r : Nat} (hg : w.grownBy w' (some r)) : KeptX (fun k => k = r) w w' := (KeptX.refl _ w).grown hg (fun k hk => Or.inl (by injection hk with hk; exact hk.symm))
set_option maxRecDepth 100000 in
set_option maxHeartbeats 4000000 in
theorem step_any (w : World) (v : Value) (R : Road) (ok : R.Ok) (k : Nat) (H : Nat → Sp) (t : Nat) (hG : GoingAt w v R k H t) (ht : t < R.n) (hk1 : 1 ≤ k) (hk : k ≤ 100) (hS : ∀ i, i < k → R.spot (H i)) (hne : ∀ i, i < k → H i ≠ (t, 0)) :
    Calls Try.prog 54 #[v] w (StepPost w R H t k) := by
  have hG0 := hG
  obtain ⟨b0, o0, c0, b1, o1, c1, b2, o2, c2, hb, ho, hcap, rfl, _, hP, _⟩ := hG.open ok (by omega)
  have GN := Lib.hid (fun W (hW : GoingAt W (.agg #[.slice (some ⟨b0, o0, none⟩) R.n c0, .slice (some ⟨b1, o1, none⟩) R.n c1, .slice (some ⟨b2, o2, none⟩) R.n c2, .slice (some ⟨hb, ho, none⟩) k hcap, .int .i64 (t : Int)]) R k H t) => gone_any W _ R ok k H t hW ht hk1 hk hS hne)
  have CL := Lib.hid (fun W (hW : SpsAt W (.slice (some ⟨hb, ho, none⟩) k hcap) k H) => clone_any W _ k H hW hk1 hk)
  obtain ⟨n0, HN0⟩ : ∃ n0, w.heap.size = n0 := ⟨_, rfl⟩
  obtain ⟨W1, hW1, hsz, q0, q1, q2, q3, q4, hK⟩ := newbox5 w n0 HN0 (.slice (some ⟨b0, o0, none⟩) R.n c0) (.slice (some ⟨b1, o1, none⟩) R.n c1) (.slice (some ⟨b2, o2, none⟩) R.n c2) (.slice (some ⟨hb, ho, none⟩) k hcap) (.int .i64 (t : Int)) 98
  have hG1 := hG0.kept hK
  have hP1 := hP.kept hK
  have hmf : ∀ (fn : Fn) (first cap : Array Value) (w : World), (Instr.makeFunc fn first cap).run Try.prog w = .ok (.func fn first cap) w := fun _ _ _ _ => rfl
  clear hG hG0 hP
  go_enter Try.func54, Try.ntmps54
  go_wp2_with (first | (go_at_call 75; refine (GN.out _ hG1).mono ?_; rintro e w2 ⟨M, rfl, hM, hO2, hk2⟩; obtain ⟨q0', q1', q2', q3', q4', _⟩ := keep5 q0 q1 q2 q3 q4 hk2) | (go_at_call 77; refine (CL.out _ (hP1.kept (show Kept W1 _ from (by repeat (first | assumption | exact Kept.refl _ | apply Kept.drew | apply Kept.drewN | apply Kept.alloc | refine Kept.trans ?_ (by assumption)))))).mono ?_; rintro e w3 ⟨cv, rfl, hC3, hk3⟩; obtain ⟨cg, ccap, rfl⟩ := own_some hC3 hk1) | (at_range; refine wpList_range_own _ rfl _ 121 rfl 3 26 Try.law3 Try.underlying121 spR M k (goneD R H t k k) rfl (own_map_kept hO2 (show Kept w2 _ from (by repeat (first | assumption | exact Kept.refl _ | apply Kept.drew | apply Kept.drewN | apply Kept.alloc | refine Kept.trans ?_ (by assumption))))) ?_; intro w4 hrg4 hg4 hs4))
  go_frame
  obtain ⟨r0, HR0⟩ : ∃ r0, w3.heap.size = r0 := ⟨_, rfl⟩
  rw [HR0] at hrg4 ⊢
  have hKw3 : Kept w w3 := hK.trans (show Kept W1 w3 from (by repeat (first | assumption | exact Kept.refl _ | apply Kept.drew | apply Kept.drewN | apply Kept.alloc | refine Kept.trans ?_ (by assumption))))
  have hr0w : w.heap.size ≤ r0 := by have := hKw3.size; omega
  have hKw4 : Kept w w4 := hKw3.grown hg4 (fun k hk => by cases hk)
  have hC4 : w4.ownsRow w2.heap.size 26 2 (.slice (some ⟨cg, 0, none⟩) k ccap) k (spsL (midH R H t k (Maps.has (goneD R H t k k))) k) := by
    rw [← spsL_congr k (midH_start R H t k)]
    exact own_kept hC3 ((Kept.refl w3).grown hg4 (fun k hk => by cases hk))
  have hwb : w.heap.size ≤ w2.heap.size := (hK.trans (show Kept W1 w2 from (by repeat (first | assumption | exact Kept.refl _ | apply Kept.drew | apply Kept.drewN | apply Kept.alloc | refine Kept.trans ?_ (by assumption))))).size
  obtain ⟨B2, HB2⟩ : ∃ B2, w2.heap.size = B2 := ⟨_, rfl⟩
  rw [HB2] at hC4 hwb
  clear hC3 hk3 hk2 hO2 hG1 hP1 q0 q1 q2 q3 q4 q0' q1' q2' q3' q4' hW1 hsz HN0 hmf hKw3 hg4 hs4 HR0 HB2
  go_loopg [] (Maps.size (goneD R H t k k)) (fun g wr => ∃ left, wr.ranges Try.prog 3 spR M r0 k (goneD R H t k k) left g ∧ (∀ z, left z = true → Maps.has (goneD R H t k k) z = true) ∧ wr.ownsRow B2 26 2 (.slice (some ⟨cg, 0, none⟩) k ccap) k (spsL (midH R H t k left) k) ∧ Kept w wr)
  case atStart => exact ⟨_, hrg4, fun _ h => h, hC4, hKw4⟩
  case round =>
    clear hrg4 hC4 hKw4
    obtain ⟨left, hrg, hsub, hC, hKw⟩ := hrel
    go_wp2_with (first | (at_next; refine wpList_next_ranges _ rfl _ rfl 3 Try.law3 spR (Value.int .i64) (fun c : Int × Int => .agg #[.int .i64 c.1, .int .i64 c.2]) (fun key kl hkey => by obtain ⟨x, e, _, _⟩ := Go.Maps.keyOf_int_inv Try.underlying3 hkey; exact ⟨x, e⟩) (fun v y hv => by obtain ⟨c, e, _⟩ := spR_inv hv; exact ⟨c, e⟩) M r0 k _ left _ rfl hrg ?_ ?_))
    · intro hc0 hl0
      have hOM := hrg.owns
      have hfin := hC
      rw [spsL_congr k (midH_end R H t k left hl0)] at hfin
      have hsz := goneD_size R H t k k
      clear hrg hsub hC
      go_wp2_with (first | (at_len; refine wpList_len_own _ rfl _ 121 rfl 3 26 Try.underlying121 spR M k (goneD R H t k k) rfl hOM ?_))
      exact bodyPost_ret (v := .tuple #[.slice (some ⟨cg, 0, none⟩) k ccap, .int .i64 ((cnt (mayB R H t k) k : Nat) : Int)]) (by simp [results, Try.results54, go_sem]; try rfl) rfl ⟨_, B2, rfl, hwb, hfin, hKw⟩
    · intro x p u kl yd yl w5 cnt5 hkey hlk hv hat hrg5 hlt hg5 hs5 hen
      obtain ⟨x', ex, rfl, hwx⟩ := Go.Maps.keyOf_int_inv (q := .i64) Try.underlying3 hkey
      injection ex with _ ex
      subst ex
      obtain ⟨j, hj, rfl, hm⟩ := (goneD_has R H t k x k).1 (hsub _ hlk)
      have hat2 := (hat (.map [])).symm.trans (goneD_at R H t k j hm _ k hj)
      have e2 := (spR_mk p u).symm.trans hv
      injection e2 with e2
      injection e2 with e2 _
      rw [← e2] at hat2
      obtain ⟨e5, e6⟩ := spD_inj hat2
      clear e2 hat2 hv hat hkey hwx
      subst e5
      subst e6
      have hst := midH_step R H t k left j hm hlk
      obtain ⟨⟨x0, x1⟩, HX⟩ : ∃ x, Hid (x = R.to (H j) (t, 0)) := ⟨_, rfl⟩
      rw [← HX.out] at hst hen ⊢
      have HST := Lib.hid hst
      clear hst HX
      simp only at hen HST ⊢
      have hC5 : w5.ownsRow B2 26 2 (.slice (some ⟨cg, 0, none⟩) k ccap) k (spsL (midH R H t k left) k) := own_keptY hC (KeptX.not_cells hg5) (fun b c f hb _ hS => by
        subst hS
        obtain ⟨_, _, _, _, _, _, _, _, _, hri, _⟩ := hrg
        rw [hb] at hri
        cases hri)
      have hKw5 : Kept w w5 := hKw.grown hg5 (fun b hb => by injection hb with hb; omega)
      obtain ⟨W6, hW6, hsz6, y0, y1, hK6⟩ := newbox2 w5 wr.heap.size hs5 (.int .i64 (x0 : Int)) (.int .i64 (x1 : Int)) 26
      have hC6 := own_kept hC5 hK6
      have t0 : W6.cell? ⟨cg, j * 2, none⟩ = some (.int .i64 (((midH R H t k left j).1 : Nat) : Int)) := by rw [hC6.cellAt _ (by omega)]; exact (spsL_get _ k j hj).1
      have t1 : W6.cell? ⟨cg, j * 2 + 1, none⟩ = some (.int .i64 (((midH R H t k left j).2 : Nat) : Int)) := by rw [hC6.cellAt _ (by omega)]; exact (spsL_get _ k j hj).2
      have t2 := hC6.frozenAt (j * 2)
      have t3 := hC6.frozenAt (j * 2 + 1)
      have hS1 := hC6.stored (j * 2) (.int .i64 (x0 : Int))
      have hS2 := hS1.1.stored (j * 2 + 1) (.int .i64 (x1 : Int))
      have hgb : B2 ≤ cg ∧ cg < W6.heap.size := hC6.lt cg rfl
      have hKF := ((hKw5.trans hK6).setCell (p := ⟨cg, j * 2, none⟩) (by show _ ≤ cg; omega) (.int .i64 (x0 : Int))).setCell (p := ⟨cg, j * 2 + 1, none⟩) (by show _ ≤ cg; omega) (.int .i64 (x1 : Int))
      have hOF := hS2.1
      rw [spsL_set (midH R H t k left) (x0, x1) j k hj, ← spsL_congr k HST.out] at hOF
      have hrM := hrg.owns.lt
      have hr6 := hrg5.alloc (.cells #[.int .i64 (x0 : Int), .int .i64 (x1 : Int)] 26)
      rw [hW6] at hr6
      have hneM : M ≠ cg ∧ r0 ≠ cg := by
        obtain ⟨_, hcur⟩ := hC6
        rcases hcur with ⟨h, _⟩ | ⟨g', cap', cur', h, _, hcell, _⟩
        · cases h
        · injection h with h1 _ _
          injection h1 with h1
          injection h1 with h1 _ _
          subst h1
          obtain ⟨_, _, _, _, _, hbM, _, _, _, hri, _⟩ := hr6
          constructor
          · intro e; rw [e, hcell] at hbM; cases hbM
          · intro e; rw [e, hcell] at hri; cases hri
      have hrF := (hr6.kept hS1.2 (fun e => hneM.1 (by injection e)) (fun e => hneM.2 (by injection e))).kept hS2.2 (fun e => hneM.1 (by injection e)) (fun e => hneM.2 (by injection e))
      have n1 : (j : Int) < (k : Int) := by omega
      have n2 : (0 : Int) ≤ (j : Int) := by omega
      have hsub2 : ∀ z, (left z && !z.sameKey (.int .i64 (j : Int))) = true → Maps.has (goneD R H t k k) z = true := fun z hz => hsub z (by simp only [Bool.and_eq_true] at hz; exact hz.1)
      have HSUB := Lib.hid hsub2
      have HRF := Lib.hid hrF
      have HOF := Lib.hid hOF
      clear hC hC5 hC6 hS1 hS2 hrM hneM hgb hsub hsub2 hrF hOF hrg hrg5 hr6 HST
      go_wp2_with fail
      go_roundg cnt5
      case measure => exact hlt
      case rel => exact ⟨_, HRF.out, HSUB.out, HOF.out, hKF⟩
end Go.Proofs.Ytlgpclnmonpkjaa
