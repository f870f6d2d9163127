/-
  Package forge: Deliver.
-/
import Derived.Test.YtjjeoloifggdpaaVk
namespace Go.Proofs.Ytjjeoloifggdpaa
open Go.RowKit Go.Deep Go.Sort

def Vil.drop (V : Vil) (k : Nat) : Vil := { V with fl := V.fl.eraseIdx k }
def Vil.deliver (V : Vil) (f t : Nat) : Vil := match V.fl.findIdx? (betw f t) with
  | none => V
  | some k => (V.drop k).recv (V.fl.getD k ⟨0, 0, false⟩)
def Vil.deliverC (V : Vil) (x y : Int) : Int := if V.nei x y then (if (V.fl.findIdx? (betw x.toNat y.toNat)).isSome then 0 else 5) else 1
theorem Vil.Small.drop {V : Vil} {b : Nat} (h : V.Small b) (k : Nat) : (V.drop k).Small b :=
  ⟨h.n, h.lst, Nat.le_trans (List.length_eraseIdx_le _ _) h.fl, h.sent⟩
/-- what is known of memory behind a message struck out -/
theorem drop_end {w w1 : World} {p q : Nat} {vo vf : Value} {vl : Nat → Value} {cq : Nat} {V : Vil} {S : Nat → Prop} (h : VilP w p q vo vf vl cq V S) {k : Nat} (hk : k < V.fl.length) (k1 : Kept w w1) :
    Calls Try.prog 55 #[vf, .int .i64 (k : Int), .int .i64 ((k : Int) + 1)] w1 fun e w2 => ∃ a c, e = .returned (.slice a (V.fl.length - 1) c) ∧
      w2.cell? ⟨p, 3, none⟩ = some vf ∧ w2.frozen? ⟨p, 3, none⟩ = false ∧ VilAt (w2.setCell ⟨p, 3, none⟩ (.slice a (V.fl.length - 1) c)) p q (V.drop k) (grow S w (w2.setCell ⟨p, 3, none⟩ (.slice a (V.fl.length - 1) c))) ∧ KeptX S w (w2.setCell ⟨p, 3, none⟩ (.slice a (V.fl.length - 1) c)) := by
  have hP1 := h.kept k1
  refine Calls.mono (show Calls Try.prog 55 _ _ _ from del_msg w1 0 vf V.fl k hP1.fl hk) ?_
  rintro e w2 ⟨v', rfl, hb, hO, kx⟩
  obtain ⟨a, c, rfl⟩ := own_shape hO
  have hbx := kx.row hP1.box (row_own hP1.box hP1.fl (by decide))
  have hl : (V.fl.eraseIdx k).length = V.fl.length - 1 := List.length_eraseIdx_of_lt hk
  have hP2 := hP1.setFl kx _ (V.fl.eraseIdx k) (by rw [hl]; exact hO) (fun b h1 => .inl (by rw [← hb]; exact h1))
  have hs1 := k1.size
  have hs2 := kx.size
  refine ⟨a, c, rfl, hbx.cell (show 3 < 5 by omega), hbx.frozen 3, ⟨vo, _, vl, cq, hP2.wide (fun b hb => ?_) (fun b hb => ?_)⟩, ?_⟩
  · unfold grow at *
    rw [nblk_setCell]
    rcases hb with hb | hb
    · exact .inl hb
    · exact .inr ⟨by omega, hb.2⟩
  · unfold grow at hb
    rw [nblk_setCell] at hb ⊢
    rcases hb with hb | hb
    · have := h.fits b hb; omega
    · exact hb.2
  · exact ((k1.weaken fun b hb => hb.elim).trans (kx.weaken fun b hb => hP1.sf b hb)).setCell (p := ⟨p, 3, none⟩) (.inl h.sp) _
theorem box1 (w : World) (a : Value) (t : TypeId) : (w.alloc (.cells #[a] t)).cell? ⟨w.heap.size, 0, none⟩ = some a := by
  unfold World.cell?; dsimp only; rw [blk_alloc_new]; rfl
theorem newbox1 (w : World) (n : Nat) (hn : w.heap.size = n) (a : Value) (t : TypeId) : ∃ W, w.alloc (.cells #[a] t) = W ∧ W.heap.size = n + 1 ∧ W.cell? ⟨n, 0, none⟩ = some a ∧ Kept w W := by
  subst hn
  exact ⟨_, rfl, by simp, box1 w a t, (Kept.refl w).alloc _⟩
set_option maxRecDepth 100000 in
set_option maxHeartbeats 2000000 in
theorem Deliver_any (w : World) (p q : Nat) (V : Vil) (S : Nat → Prop) (x y : Int) (h : VilAt w p q V S) (hs : V.Small 999990) :
    Calls Try.prog 23 #[ptr p, .int .i64 x, .int .i64 y] w (VPost w p q (if V.deliverC x y = 0 then V.deliver x.toNat y.toNat else V) S (.returned (.int .i64 (V.deliverC x y)))) := by
  have hF := Lib.hid h.fits
  obtain ⟨W1, hW1, hz1, a0, hk1⟩ := newbox1 w w.heap.size rfl (.int .i64 x) 3
  obtain ⟨W2, hW2, hz2, b0, hk2⟩ := newbox1 W1 (w.heap.size + 1) hz1 (.int .i64 y) 3
  have a1 := hk2.cellSome a0
  have hk12 := hk1.trans hk2
  have IR := Lib.hid (isReturned_any W2 p q V S (h.kept hk12))
  have NE := Lib.hid (areNeighbours_any W2 p q V S x y (h.kept hk12))
  have HH := Lib.hid h
  have hfin : Hid (∀ (W : World) (c : Int), Kept W2 W → VPost w p q V S (.returned (.int .i64 c)) (.returned (.int .i64 c)) W) := Lib.hid (fun W c k => by
    have k2 := hk12.trans k
    refine ⟨rfl, (HH.out.kept k2).wide (fun b hb => .inl hb) (fun b hb => ?_), k2.weaken fun b hb => hb.elim⟩
    rcases hb with hb | hb
    · exact Nat.lt_of_lt_of_le (HH.out.fits b hb) k2.size
    · exact hb.2)
  unfold ptr at *
  cases hn : V.nei x y
  · rw [show V.deliverC x y = 1 by unfold Vil.deliverC; rw [hn]; rfl, if_neg (by decide)]
    rw [hn] at NE
    clear h hs hn
    go_enter Try.func23, Try.ntmps23
    go_wp2_with (first
      | (go_at_call 50; refine IR.out.mono ?_; rintro e w1 ⟨rfl, rfl⟩)
      | (go_at_call 52; refine NE.out.mono ?_; rintro e w1 ⟨rfl, rfl⟩))
    go_ret
    exact hfin.out _ _ (Kept.refl _)
  · rw [hn] at NE
    have hxy : inV V.n x = true ∧ inV V.n y = true := by
      unfold Vil.nei at hn
      simp only [Bool.and_eq_true] at hn
      exact ⟨hn.1, hn.2.1⟩
    obtain ⟨f, rfl, hf⟩ := inV_nat hxy.1
    obtain ⟨t, rfl, ht⟩ := inV_nat hxy.2
    obtain ⟨vo, vf, vl, cq, hP⟩ := h.kept hk12
    have c3 := hP.box3
    have hfl := hs.fl
    have IX := Lib.hid (idxMsg_any W2 vf V.fl f t w.heap.size (w.heap.size + 1) (msgs_at hP.fl) (by omega) a1 b0)
    obtain ⟨vb, vcap, hvf⟩ := own_shape hP.fl
    have HP := Lib.hid hP
    have hat := msgs_at hP.fl
    clear hxy hP
    rw [hvf] at c3 IX
    cases hi : V.fl.findIdx? (betw f t) with
    | none =>
      rw [show V.deliverC (f : Int) (t : Int) = 5 by unfold Vil.deliverC; rw [hn, Int.toNat_natCast, Int.toNat_natCast, hi]; rfl, if_neg (by decide)]
      rw [hi] at IX
      clear h hs hn hat
      go_enter Try.func23, Try.ntmps23
      go_wp2_with (first
        | (go_at_call 50; refine IR.out.mono ?_; rintro e w1 ⟨rfl, rfl⟩)
        | (go_at_call 52; refine NE.out.mono ?_; rintro e w1 ⟨rfl, rfl⟩)
        | (go_at_call 53; refine IX.out.mono ?_; rintro e w3 ⟨rfl, hk3⟩))
      go_ret
      exact hfin.out _ _ hk3
    | some k =>
      rw [show V.deliverC (f : Int) (t : Int) = 0 by unfold Vil.deliverC; rw [hn, Int.toNat_natCast, Int.toNat_natCast, hi]; rfl, if_pos rfl, Int.toNat_natCast, Int.toNat_natCast]
      rw [hi, show idxV (some k) = (k : Int) from rfl] at IX
      obtain ⟨hkl, hbt, -⟩ := List.findIdx?_eq_some_iff_getElem.1 hi
      have hdst : V.fl[k].dst = t := by
        unfold betw at hbt
        simp only [Bool.and_eq_true, decide_eq_true_eq] at hbt
        exact hbt.2
      have hdel : V.deliver f t = (V.drop k).recv V.fl[k] := by
        unfold Vil.deliver; rw [hi]; dsimp only; rw [show V.fl.getD k ⟨0, 0, false⟩ = V.fl[k] by simp [hkl]]
      obtain ⟨a, bb, o, cap, hsl, ha, hc⟩ := hat
      rw [hvf] at hsl
      obtain ⟨rfl, rfl⟩ : vb = a ∧ vcap = cap := by simpa using hsl
      obtain rfl := ha (by omega)
      have m0 := hc k hkl
      dsimp only at m0
      rw [show V.fl.getD k ⟨0, 0, false⟩ = V.fl[k] by simp [hkl]] at m0
      have DL : Hid (∀ (W : World), Kept W2 W → Calls Try.prog 55 #[.slice (some ⟨bb, o, none⟩) V.fl.length vcap, .int .i64 (k : Int), .int .i64 ((k : Int) + 1)] W fun e w2 => ∃ a c, e = .returned (.slice a (V.fl.length - 1) c) ∧
          w2.cell? ⟨p, 3, none⟩ = some (.slice (some ⟨bb, o, none⟩) V.fl.length vcap) ∧ w2.frozen? ⟨p, 3, none⟩ = false ∧ VilAt (w2.setCell ⟨p, 3, none⟩ (.slice a (V.fl.length - 1) c)) p q (V.drop k) (grow S W2 (w2.setCell ⟨p, 3, none⟩ (.slice a (V.fl.length - 1) c))) ∧ KeptX S W2 (w2.setCell ⟨p, 3, none⟩ (.slice a (V.fl.length - 1) c))) := Lib.hid (fun W kW => by
        have := drop_end HP.out hkl kW
        rwa [hvf] at this)
      obtain ⟨ty, yv, HM⟩ : ∃ ty y, Hid (Value.iface ty y = msgV V.fl[k]) := ⟨_, _, Lib.hid (show msgV V.fl[k] = msgV V.fl[k] from rfl)⟩
      have RV : Hid (∀ (U : World) (T : Nat → Prop), VilAt U p q (V.drop k) T → Calls Try.prog 56 #[.pointer (some ⟨p, 0, none⟩), .iface ty yv] U (VPost U p q (V.deliver f t) T (.returned (.tuple #[])))) := Lib.hid (fun U T hU => by
        rw [hdel, HM.out]
        exact receive_any U p q (V.drop k) T V.fl[k] hU (by rw [hdst]; exact ht) (hs.drop k))
      rw [← HM.out] at m0
      obtain ⟨n, HN⟩ : ∃ n, Hid (n = V.fl.length) := ⟨_, rfl⟩
      have hkn : k < n := by rw [HN.out]; exact hkl
      rw [← HN.out] at c3 IX DL hfl
      have s1 : (k : Int) < (n : Int) := by omega
      have s0 : (0 : Int) ≤ (k : Int) := by omega
      have s2 : ¬ (k : Int) < 0 := by omega
      have hcomb : Hid (∀ (U w5 : World), VilAt U p q (V.drop k) (grow S W2 U) → KeptX S W2 U → VPost U p q (V.deliver f t) (grow S W2 U) (.returned (.tuple #[])) (.returned (.tuple #[])) w5 → VPost w p q (V.deliver f t) S (.returned (.int .i64 0)) (.returned (.int .i64 0)) w5) := Lib.hid (fun U w5 _ kU h5 => by
        obtain ⟨_, h6, k6⟩ := h5
        obtain ⟨h7, k7⟩ := VilAt.then h6 (fun b hb => Nat.lt_of_lt_of_le (hF.out b hb) hk12.size) kU k6
        refine vpost_of (h7.wide (fun b hb => ?_) (fun b hb => ?_)) ((hk12.weaken fun b hb => hb.elim).trans k7)
        · rcases hb with hb | hb
          · exact .inl hb
          · exact .inr ⟨Nat.le_trans hk12.size hb.1, hb.2⟩
        · rcases hb with hb | hb
          · exact Nat.lt_of_lt_of_le (hF.out b hb) (Nat.le_trans hk12.size k7.size)
          · exact hb.2)
      clear h hs hn hc hsl hbt hdst hdel hvf hi HM hkl ha
      go_enter Try.func23, Try.ntmps23
      go_wp2_with (first
        | (go_at_call 50; refine IR.out.mono ?_; rintro e w1 ⟨rfl, rfl⟩)
        | (go_at_call 52; refine NE.out.mono ?_; rintro e w1 ⟨rfl, rfl⟩)
        | (go_at_call 53; refine IX.out.mono ?_; rintro e w3 ⟨rfl, hk3⟩; have m0 := hk3.cellSome m0; have c3 := hk3.cellSome c3)
        | (go_at_call 55; refine (DL.out _ hk3).mono ?_; rintro e w4 ⟨a, c, rfl, d3, f3, hA, hkA⟩; have HA := Lib.hid hA; have HKA := Lib.hid hkA; clear hA hkA)
        | (go_at_call 56; refine (RV.out _ _ HA.out).mono ?_; rintro e w5 ⟨rfl, hA5, hk5⟩; have HA5 := Lib.hid hA5; have HK5 := Lib.hid hk5; clear hA5 hk5))
      go_ret
      exact hcomb.out _ _ HA.out HKA.out (vpost_of HA5.out HK5.out)
end Go.Proofs.Ytjjeoloifggdpaa
