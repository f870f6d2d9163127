/-
  What Map.made makes is valid; calls served in two parts.
-/
import Derived.Test.YtlgpclnmonpkjaaWq
namespace Go.Proofs.Ytlgpclnmonpkjaa
open Go.RowKit Go.Deep

theorem isSp_of {R : Road} {s : Sp} (h : R.spot s) : R.isSp ((s.1 : Nat) : Int) ((s.2 : Nat) : Int) = true := by
  obtain ⟨h1, h2⟩ := h
  unfold Road.isSp
  simp only [Bool.and_eq_true, Bool.or_eq_true, decide_eq_true_eq, Int.toNat_natCast]
  refine ⟨⟨by omega, by omega⟩, ?_⟩
  rcases h2 with h2 | h2
  · left; omega
  · by_cases h0 : s.2 = 0
    · left; omega
    · right; exact ⟨by omega, by omega⟩
def natI (f : Nat → Nat) : Nat → Int := fun i => ((f i : Nat) : Int)
def fstI (H : Nat → Sp) : Nat → Int := fun i => (((H i).1 : Nat) : Int)
def sndI (H : Nat → Sp) : Nat → Int := fun i => (((H i).2 : Nat) : Int)
theorem handsN_nat (H : Nat → Sp) : handsN (fstI H) (sndI H) = H := funext fun i => by unfold handsN fstI sndI; simp
theorem callsN_nat (C : Nat → Nat) : callsN (natI C) = C := funext fun i => by unfold callsN natI; simp
theorem mO_lt (p0 : Nat → Nat) (i : Nat) (h : 1 ≤ i) : mO p0 i < i := by
  unfold mO
  rw [if_neg (by omega)]
  exact Nat.mod_lt _ h
theorem mL_le (p1 : Nat → Nat) (i : Nat) (h : 1 ≤ i) : 1 ≤ mL p1 i ∧ mL p1 i ≤ 20 := by
  unfold mL
  rw [if_neg (by omega)]
  have := Nat.mod_lt (p1 (i - 1)) (show 0 < 20 by omega)
  omega
theorem mN_le (nP : Nat) : 1 ≤ mN nP ∧ mN nP ≤ 10 := by unfold mN; omega
theorem mK_le (nH : Nat) : 1 ≤ mK nH ∧ mK nH ≤ 3 := by unfold mK; omega
theorem made_road (nP : Nat) (p0 p1 : Nat → Nat) : roadOk (mN nP) (mN nP) (natI (mO p0)) (natI (mL p1)) = true := by
  have hn := mN_le nP
  refine roadOk_iff.2 ⟨hn.1, hn.2, rfl, rfl, rfl, fun i h1 hi => ?_⟩
  have h2 := mO_lt p0 i h1
  have h3 := mL_le p1 i h1
  unfold natI
  exact ⟨by omega, by omega, by omega, by omega⟩
def mR (nP : Nat) (p0 p1 : Nat → Nat) : Road := roadR (mN nP) (natI (mO p0)) (natI (mL p1))
theorem mR_len (nP : Nat) (p0 p1 : Nat → Nat) (i : Nat) : (mR nP p0 p1).len i = mL p1 i := by show ((natI (mL p1) i).toNat : Nat) = _; unfold natI; simp
theorem mR_n (nP : Nat) (p0 p1 : Nat → Nat) : (mR nP p0 p1).n = mN nP := rfl
theorem made_spot (nP : Nat) (p0 p1 h0 h1 : Nat → Nat) (nH : Nat) (whole : Bool) (i : Nat) : (mR nP p0 p1).spot (mH (mN nP) p1 h0 h1 nH whole i) := by
  have hn := mN_le nP
  have hA : mA (mN nP) h0 nH i < mN nP := by
    unfold mA
    split
    · omega
    · exact Nat.mod_lt _ hn.1
  refine ⟨hA, ?_⟩
  unfold mH
  simp only
  split
  · next h =>
    right
    rw [mR_len]
    exact Nat.mod_lt _ (mL_le p1 _ h.1).1
  · exact .inl rfl
theorem made_with (nP nH nC : Nat) (p0 p1 h0 h1 c0 : Nat → Nat) (whole : Bool) : withOk (mN nP) (mN nP) (natI (mO p0)) (natI (mL p1)) (mK nH) (fstI (mH (mN nP) p1 h0 h1 nH whole)) (sndI (mH (mN nP) p1 h0 h1 nH whole)) (min nC 12) (natI (mC (mN nP) c0)) = true := by
  have hn := mN_le nP
  have hk := mK_le nH
  unfold withOk handsOk callsOk
  rw [made_road]
  simp only [Bool.true_and, Bool.and_eq_true, decide_eq_true_eq]
  refine ⟨⟨allN_true.2 fun i _ => isSp_of (made_spot nP p0 p1 h0 h1 nH whole i), hk.1, hk.2⟩, allN_true.2 fun i _ => ?_, by omega⟩
  have : mC (mN nP) c0 i < mN nP := Nat.mod_lt _ hn.1
  unfold natI
  simp only [Bool.and_eq_true, decide_eq_true_eq]
  exact ⟨by omega, by show ((mC (mN nP) c0 i : Nat) : Int) < ((mN nP : Nat) : Int); omega⟩
theorem servH_add (R : Road) (k : Nat) (C : Nat → Nat) (H : Nat → Sp) (i : Nat) : ∀ j, servH R k (fun t => C (i + t)) (servH R k C H i) j = servH R k C H (i + j)
  | 0 => rfl
  | j + 1 => by
    show (goR R (C (i + j)) k (servH R k (fun t => C (i + t)) (servH R k C H i) j)).1 = (goR R (C (i + j)) k (servH R k C H (i + j))).1
    rw [servH_add R k C H i j]
theorem servC_add (R : Road) (k : Nat) (C : Nat → Nat) (H : Nat → Sp) (i j : Nat) : servC R k (fun t => C (i + t)) (servH R k C H i) j = servC R k C H (i + j) := by
  unfold servC
  rw [servH_add]
theorem sumN_add (f : Nat → Nat) (i : Nat) : ∀ j, sumN f i + sumN (fun t => f (i + t)) j = sumN f (i + j)
  | 0 => rfl
  | j + 1 => by
    rw [sumN_succ]
    have := sumN_add f i j
    show sumN f i + (sumN (fun t => f (i + t)) j + f (i + j)) = sumN f (i + j + 1)
    rw [sumN_succ]
    omega
theorem IntsAt.pre {w : World} {a : Option Addr} {m cap : Nat} {f : Nat → Int} (h : IntsAt w (.slice a m cap) m f) (i : Nat) (hi : i ≤ m) : IntsAt w (.slice a i cap) i f := by
  obtain ⟨a', b, o, c, e, ha, hc⟩ := h
  cases e
  exact ⟨a, b, o, cap, rfl, fun h => ha (by omega), fun j hj => hc j (by omega)⟩
/-- what made returns, as its callers read it -/
theorem MadePost.open {w w' : World} {nP nH nC : Nat} {p0 p1 h0 h1 c0 : Nat → Nat} {whole : Bool} {e : Ending} (h : MadePost w nP nH nC p0 p1 h0 h1 c0 whole e w') :
    ∃ oa oc la lc ha hc ca cc, e = .returned (.tuple #[.agg #[.slice oa (mN nP) oc, .slice la (mN nP) lc], .slice (some ⟨ha, 0, none⟩) (mK nH) hc, .slice (some ⟨ca, 0, none⟩) (min nC 12) cc]) ∧ RoadIn w' (.agg #[.slice oa (mN nP) oc, .slice la (mN nP) lc]) (mN nP) (mN nP) (natI (mO p0)) (natI (mL p1)) ∧
      PairsAt w' (.slice (some ⟨ha, 0, none⟩) (mK nH) hc) (mK nH) (fstI (mH (mN nP) p1 h0 h1 nH whole)) (sndI (mH (mN nP) p1 h0 h1 nH whole)) ∧ IntsAt w' (.slice (some ⟨ca, 0, none⟩) (min nC 12) cc) (min nC 12) (natI (mC (mN nP) c0)) ∧ w'.ownsRow w.heap.size 3 1 (.slice (some ⟨ca, 0, none⟩) (min nC 12) cc) (min nC 12) (natsL (mC (mN nP) c0) (min nC 12)) ∧ w'.ownsRow w.heap.size 26 2 (.slice (some ⟨ha, 0, none⟩) (mK nH) hc) (mK nH) (spsL (mH (mN nP) p1 h0 h1 nH whole) (mK nH)) ∧ Kept w w' := by
  obtain ⟨ov, lv, hv, cv, rfl, ⟨hO, hL, _⟩, hH, hC, _, ⟨ca, cc, rfl⟩, hK⟩ := h
  obtain ⟨oa, oc, rfl⟩ := own_shape hO
  obtain ⟨la, lc, rfl⟩ := own_shape hL
  obtain ⟨ha, hc, rfl⟩ := own_some hH (mK_le nH).1
  exact ⟨oa, oc, la, lc, ha, hc, ca, cc, rfl, ⟨_, _, rfl, IntsAt.of_natsL hO, IntsAt.of_natsL hL⟩, SpsAt.of_own hH, IntsAt.of_natsL hC, hC, hH, hK⟩
theorem with_nat {nP : Nat} {p0 p1 : Nat → Nat} {k m : Nat} {G : Nat → Sp} {C : Nat → Nat} (hk1 : 1 ≤ k) (hk3 : k ≤ 3) (hm : m ≤ 12) (hG : ∀ i, i < k → (mR nP p0 p1).spot (G i)) (hC : ∀ i, i < m → C i < mN nP) : withOk (mN nP) (mN nP) (natI (mO p0)) (natI (mL p1)) k (fstI G) (sndI G) m (natI C) = true := by
  unfold withOk handsOk callsOk
  rw [made_road]
  simp only [Bool.true_and, Bool.and_eq_true, decide_eq_true_eq]
  refine ⟨⟨allN_true.2 fun i hi => isSp_of (hG i hi), hk1, hk3⟩, allN_true.2 fun i hi => ?_, hm⟩
  have := hC i hi
  unfold natI
  simp only [Bool.and_eq_true, decide_eq_true_eq]
  exact ⟨by omega, by show ((C i : Nat) : Int) < ((mN nP : Nat) : Int); omega⟩
theorem Serve_nat (w : World) (v hv cv : Value) {nP : Nat} {p0 p1 : Nat → Nat} (hR : RoadIn w v (mN nP) (mN nP) (natI (mO p0)) (natI (mL p1))) (k m : Nat) (G : Nat → Sp) (C : Nat → Nat) (hP : SpsAt w hv k G) (hCv : IntsAt w cv m (natI C)) (hk1 : 1 ≤ k) (hk3 : k ≤ 3) (hm : m ≤ 12) (hG : ∀ i, i < k → (mR nP p0 p1).spot (G i)) (hC : ∀ i, i < m → C i < mN nP) :
    Calls Try.prog 29 #[v, hv, cv] w fun e w' => ∃ a o c, e = .returned (.tuple #[.slice (some ⟨a, o, none⟩) k c, .int .i64 ((sumN (servC (mR nP p0 p1) k C G) m : Nat) : Int), .int .i64 0]) ∧ SpsAt w' (.slice (some ⟨a, o, none⟩) k c) k (servH (mR nP p0 p1) k C G m) ∧ Kept w w' := by
  have hn := mN_le nP
  refine (Serve_any w v hv cv (mN nP) (mN nP) _ _ hR (by omega) (by omega) k (fstI G) (sndI G) hP (by omega) m (natI C) hCv (by omega)).mono fun e w' h => ?_
  obtain ⟨h1, _, hk⟩ := h
  obtain ⟨sv, rfl, hS⟩ := h1 (with_nat hk1 hk3 hm hG hC)
  rw [handsN_nat, callsN_nat] at hS ⊢
  obtain ⟨a, b, o, c, rfl, ha, hc⟩ := id hS
  obtain rfl := ha (by omega)
  exact ⟨b, o, c, rfl, hS, hk⟩
theorem Costs_nat (w : World) (v hv cv : Value) {nP : Nat} {p0 p1 : Nat → Nat} (hR : RoadIn w v (mN nP) (mN nP) (natI (mO p0)) (natI (mL p1))) (k m : Nat) (G : Nat → Sp) (C : Nat → Nat) (hP : SpsAt w hv k G) (hCv : IntsAt w cv m (natI C)) (hk1 : 1 ≤ k) (hk3 : k ≤ 3) (hm : m ≤ 12) (hG : ∀ i, i < k → (mR nP p0 p1).spot (G i)) (hC : ∀ i, i < m → C i < mN nP) :
    Calls Try.prog 30 #[v, hv, cv] w fun e w' => ∃ a c, e = .returned (.tuple #[.slice a m c, .int .i64 0]) ∧ IntsAt w' (.slice a m c) m (natI (servC (mR nP p0 p1) k C G)) ∧ Kept w w' := by
  have hn := mN_le nP
  refine (Costs_any w v hv cv (mN nP) (mN nP) _ _ hR (by omega) (by omega) k (fstI G) (sndI G) hP (by omega) m (natI C) hCv (by omega)).mono fun e w' h => ?_
  obtain ⟨h1, _, hk⟩ := h
  obtain ⟨sv, rfl, hS⟩ := h1 (with_nat hk1 hk3 hm hG hC)
  rw [handsN_nat, callsN_nat] at hS
  obtain ⟨a, b, o, c, rfl, ha, hc⟩ := id hS
  exact ⟨a, c, rfl, hS, hk⟩
theorem rHands_nat (w : World) (v hv : Value) {nP : Nat} {p0 p1 : Nat → Nat} (hR : RoadIn w v (mN nP) (mN nP) (natI (mO p0)) (natI (mL p1))) (k : Nat) (G : Nat → Sp) (hP : SpsAt w hv k G) (hk1 : 1 ≤ k) (hk3 : k ≤ 3) (hG : ∀ i, i < k → (mR nP p0 p1).spot (G i)) :
    Calls Try.prog 23 #[v, hv] w fun e w' => e = .returned (.bool true) ∧ Kept w w' := by
  have hn := mN_le nP
  refine (rHands_any w v hv (mR nP p0 p1) (roadR_ok (made_road nP p0 p1)) (RefAt.of_in hR (made_road nP p0 p1)) k (fstI G) (sndI G) hP (by omega)).mono fun e w' h => ?_
  obtain ⟨rfl, hk⟩ := h
  refine ⟨?_, hk⟩
  have : handsOk (mR nP p0 p1) k (fstI G) (sndI G) = true := by
    unfold handsOk
    simp only [Bool.and_eq_true, decide_eq_true_eq]
    exact ⟨allN_true.2 fun i hi => isSp_of (hG i hi), hk1, hk3⟩
  rw [this]
theorem road_parts {w : World} {x y : Value} {nO nL : Nat} {fO fL : Nat → Int} (h : RoadIn w (.agg #[x, y]) nO nL fO fL) : IntsAt w x nO fO ∧ IntsAt w y nL fL := by
  obtain ⟨x', y', e, h1, h2⟩ := h
  simp only [Value.agg.injEq, Array.mk.injEq, List.cons.injEq, and_true] at e
  obtain ⟨rfl, rfl⟩ := e
  exact ⟨h1, h2⟩
theorem pairs_off2 {w : World} {np n : Nat} {t : TypeId} {v : Value} {f g : Nat → Int} (h : PairsAt w v n f g) (hr : w.rowIs np t 2 (bx2 (.slice none 0 0) (.slice none 0 0))) (a b : Value) : PairsAt ((w.setCell ⟨np, 0, none⟩ a).setCell ⟨np, 1, none⟩ b) v n f g := by
  obtain ⟨a0, k, o, cap, e, ha, hc⟩ := h
  refine ⟨a0, k, o, cap, e, ha, fun i hi => ?_⟩
  obtain ⟨h1, h2⟩ := hc i hi
  have hne := cell_notbox2 hr h1
  have hx : ∀ j l, (⟨np, j, none⟩ : Addr) ≠ ⟨k, l, none⟩ := fun j l h => hne (congrArg Addr.block h).symm
  rw [World.cell?_setCell_other _ _ _ _ (hx 1 _), World.cell?_setCell_other _ _ _ _ (hx 0 _), World.cell?_setCell_other _ _ _ _ (hx 1 _), World.cell?_setCell_other _ _ _ _ (hx 0 _)]
  exact ⟨h1, h2⟩
end Go.Proofs.Ytlgpclnmonpkjaa
