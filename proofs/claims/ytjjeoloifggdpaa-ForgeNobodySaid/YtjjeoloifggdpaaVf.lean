/-
  Package forge: grant.
-/
import Derived.Test.YtjjeoloifggdpaaVe
namespace Go.Proofs.Ytjjeoloifggdpaa
open Go.RowKit Go.Deep Go.Sort

theorem Vil.ext' {V U : Vil} (h1 : V.n = U.n) (h2 : V.on = U.on) (h3 : V.way = U.way) (h4 : V.lst = U.lst) (h5 : V.asked = U.asked) (h6 : V.forg = U.forg) (h7 : V.fl = U.fl) (h8 : V.sent = U.sent) : V = U := by
  cases V; cases U; simp_all
/-- the first of smith i's list is taken off -/
theorem pop_any {w : World} {p q : Nat} {vo vf : Value} {vl : Nat → Value} {cq : Nat} {V : Vil} {S : Nat → Prop} (h : VilP w p q vo vf vl cq V S) {i f : Nat} {r : List Nat} (hi : i < V.n) (hl : V.lst i = f :: r) :
    Calls Try.prog 72 #[vl i, .int .i64 0, .int .i64 1] w fun e w1 => ∃ a c, e = .returned (.slice a r.length c) ∧ (∀ k, k < V.n * 4 → w1.cell? ⟨q, k, none⟩ = some (stV V.way vl V.asked V.forg k) ∧ w1.frozen? ⟨q, k, none⟩ = false) ∧ KeptX (fun b => (vl i).ownBlock = some b) w w1 ∧
      VilP (w1.setCell ⟨q, i * 4 + 1, none⟩ (.slice a r.length c)) p q vo vf (upd vl i (.slice a r.length c)) cq { V with lst := upd V.lst i r } (grow S w w1) := by
  have hO := h.lst i hi
  rw [hl] at hO
  refine (del_int w 0 (vl i) (f :: r) 0 hO (by simp)).mono ?_
  rintro e w1 ⟨v', rfl, hb, hO2, hk⟩
  have hO3 : w1.ownsRow 0 3 1 v' r.length (natsV r) := hO2
  obtain ⟨a, c, rfl⟩ := own_shape hO3
  refine ⟨a, c, rfl, fun k hk4 => ?_, hk, h.setList hi hk _ r hO3 (fun b h1 => .inl (by rw [← hb]; exact h1))⟩
  obtain ⟨m, g, hm, hr, hg⟩ := h.row
  have hne := row_own hr (h.lst i hi) (by decide)
  have hr2 := hk.row hr hne
  exact ⟨by rw [← hg k hk4]; exact hr2.cell (by omega), hr2.frozen k⟩
/-- what a call has done to a village, seen from the start -/
theorem vpost_of {w w1 : World} {p q : Nat} {V' : Vil} {S : Nat → Prop} {e : Ending} (h : VilAt w1 p q V' (grow S w w1)) (k : KeptX S w w1) : VPost w p q V' S e e w1 := ⟨rfl, h, k⟩
theorem grow_set {S : Nat → Prop} {w w1 : World} (a : Addr) (v : Value) : grow S w (w1.setCell a v) = grow S w w1 := by unfold grow; rw [nblk_setCell]
set_option maxRecDepth 100000 in
set_option maxHeartbeats 2000000 in
theorem grant_any (w : World) (p q : Nat) (V : Vil) (S : Nat → Prop) (i f : Nat) (r : List Nat) (h : VilAt w p q V S) (hi : i < V.n) (hl : V.lst i = f :: r) (hs : V.Small 999999) :
    Calls Try.prog 67 #[ptr p, .int .i64 (i : Int)] w (VPost w p q (V.grant i) S (.returned (.tuple #[]))) := by
  have hF := h.fits
  obtain ⟨vo, vf, vl, cq, h⟩ := h
  have c2 := h.box2
  have c1 := h.list hi
  have hO := h.lst i hi
  obtain ⟨g, cap, hv, _, _, _, _, _, hH⟩ := Lib.holds_of_ownsRow (enc := natV) (zs := V.lst i) hO (ne_nil_of_pos hO (by rw [hl]; simp))
  have b0 := (hH 0 (by rw [hl]; simp)).1
  rw [Nat.add_zero] at b0
  have hf0 : natV (V.lst i).toArray[0]! = .int .i64 (f : Int) := by rw [hl]; rfl
  rw [hf0] at b0
  have PO := Lib.hid (pop_any h hi hl)
  have hg1 : V.lst i ≠ [] := by rw [hl]; simp
  have hvl : (V.lst i).length = r.length + 1 := by rw [hl]; rfl
  rw [hvl] at hv
  have hkS : Hid (∀ b, (vl i).ownBlock = some b → S b) := Lib.hid (fun b hb => h.sl i hi b hb)
  rw [hv] at c1 PO hkS
  have hSq := h.sq
  have hSp := h.sp
  have i1 : (i : Int) < (V.n : Int) := by omega
  have i0 : (0 : Int) ≤ (i : Int) := by omega
  have HFF := Lib.hid hF
  have HSS := Lib.hid hs
  unfold ptr
  clear h hH hO hvl hg1 hF hs hf0
  by_cases he : f = i
  · have e1 : ((f : Int) == (i : Int)) = true := by rw [he]; simp
    have hgr : V.grant i = { V with lst := upd V.lst i r, forg := upd V.forg i true } := by unfold Vil.grant; rw [hl]; dsimp only; rw [if_pos he]
    have HGR := Lib.hid hgr
    clear hgr hl he
    go_enter Try.func67, Try.ntmps67
    go_wp2_with (first | (go_at_call 72; refine PO.out.mono ?_; rintro e w1 ⟨a, c, rfl, hcs, hk, hP2⟩; have d1 := hcs (i * 4 + 1) (by omega); have d3 := hcs (i * 4 + 3) (by omega); obtain ⟨d1, f1⟩ := d1; obtain ⟨d3, f3⟩ := d3; rw [stV1] at d1; rw [stV3] at d3; have HP2 := Lib.hid hP2; have HK := Lib.hid hk; clear hP2 hk hcs))
    go_end0
    rw [HGR.out]
    have h3 := HP2.out.setForg i true
    refine vpost_of ⟨vo, vf, upd vl i (.slice a r.length c), cq, ?_⟩ (((HK.out.weaken hkS.out).setCell (p := ⟨q, i * 4 + 1, none⟩) (.inl hSq) _).setCell (p := ⟨q, i * 4 + 3, none⟩) (.inl hSq) _)
    rw [grow_set, grow_set]
    exact h3
  · have e1 : ((f : Int) == (i : Int)) = false := by simp only [beq_eq_false_iff_ne]; omega
    have hgr : V.grant i = ({ V with lst := upd V.lst i r, way := upd V.way i f, asked := upd V.asked i false } : Vil).sent1 ⟨i, f, true⟩ := by unfold Vil.grant; rw [hl]; dsimp only; rw [if_neg he]; rfl
    have hlr : r.length ≤ 1000000 := by have := HSS.out.lst i; rw [hl, List.length_cons] at this; omega
    have hs3 : Hid (({ V with lst := upd V.lst i r, way := upd V.way i f, asked := upd V.asked i false } : Vil).Small 1000000) := Lib.hid ⟨HSS.out.n, upd_len (fun j => Nat.le_trans (HSS.out.lst j) (by omega)) hlr, Nat.le_trans HSS.out.fl (by omega), Nat.le_trans HSS.out.sent (by omega)⟩
    have SE : Hid (∀ (W : World) (T : Nat → Prop), VilAt W p q { V with lst := upd V.lst i r, way := upd V.way i f, asked := upd V.asked i false } T → Calls Try.prog 68 #[.pointer (some ⟨p, 0, none⟩), .iface 98 (.agg #[.int .i64 (i : Int), .int .i64 (f : Int)])] W (VPost W p q (V.grant i) T (.returned (.tuple #[])))) := Lib.hid (fun W T hW => by
      rw [hgr]
      exact send_any W p q _ T ⟨i, f, true⟩ hW hs3.out)
    clear hgr hl he hs3 hlr
    go_enter Try.func67, Try.ntmps67
    go_wp2_with (first
      | (go_at_call 72; refine PO.out.mono ?_; rintro e w1 ⟨a, c, rfl, hcs, hk, hP2⟩; have d1 := hcs (i * 4 + 1) (by omega); have d0 := hcs (i * 4) (by omega); have d2 := hcs (i * 4 + 2) (by omega); obtain ⟨d1, f1⟩ := d1; obtain ⟨d0, f0⟩ := d0; obtain ⟨d2, f2⟩ := d2; rw [stV1] at d1; rw [stV0] at d0; rw [stV2] at d2; have HP4 := Lib.hid ((hP2.setWay i f).setAsked i false); have HK := Lib.hid hk; clear hP2 hk hcs)
      | (go_at_call 68; refine (SE.out _ _ ⟨vo, vf, _, cq, HP4.out⟩).mono ?_; rintro e w5 ⟨rfl, hA5, hk5⟩; have HA5 := Lib.hid hA5; have HK5 := Lib.hid hk5; clear hA5 hk5))
    go_end0
    have k4 : KeptX S w (((w1.setCell ⟨q, i * 4 + 1, none⟩ (.slice a r.length c)).setCell ⟨q, i * 4, none⟩ (natV f)).setCell ⟨q, i * 4 + 2, none⟩ (.bool false)) := (((HK.out.weaken hkS.out).setCell (p := ⟨q, i * 4 + 1, none⟩) (.inl hSq) _).setCell (p := ⟨q, i * 4, none⟩) (.inl hSq) _).setCell (p := ⟨q, i * 4 + 2, none⟩) (.inl hSq) _
    have eg : grow S w w1 = grow S w (((w1.setCell ⟨q, i * 4 + 1, none⟩ (.slice a r.length c)).setCell ⟨q, i * 4, none⟩ (natV f)).setCell ⟨q, i * 4 + 2, none⟩ (.bool false)) := by rw [grow_set, grow_set, grow_set]
    have hA5 := HA5.out
    have hk5 := HK5.out
    rw [eg] at hA5 hk5
    obtain ⟨h1, h2⟩ := VilAt.then hA5 HFF.out k4 hk5
    exact vpost_of h1 h2
end Go.Proofs.Ytjjeoloifggdpaa
