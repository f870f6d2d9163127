/-
  Package forge: send.
-/
import Derived.Test.YtjjeoloifggdpaaVc
import Derived.Test.YtjjeoloifggdpaaWl
import Derived.Maps.AppendAt
namespace Go.Proofs.Ytjjeoloifggdpaa
open Go.RowKit Go.Deep

theorem Try.info3 : (Try.prog.info? 3).map (fun i => (i.zero, i.size, i.bytes)) = some (some (.int .i64 0), 1, 8) := by kernel_rfl
theorem Try.infoMsg : (Try.prog.info? 80).map (fun i => (i.zero, i.size, i.bytes)) = some (some .nilIface, 1, 16) := by kernel_rfl
theorem info_parts {t : TypeId} {z : Option Value} {s b : Nat} (h : (Try.prog.info? t).map (fun i => (i.zero, i.size, i.bytes)) = some (z, s, b)) : ∃ i0, Try.prog.info? t = some i0 ∧ i0.zero = z ∧ i0.size = s ∧ i0.bytes = b := by
  obtain ⟨i0, h1, h2⟩ := Option.map_eq_some_iff.1 h
  injection h2 with h2 h3
  injection h3 with h3 h4
  exact ⟨i0, h1, h2, h3, h4⟩
theorem own_shape {w : World} {base e size : Nat} {v : Value} {n : Nat} {xs : List Value} (h : w.ownsRow base e size v n xs) : ∃ a cap, v = .slice a n cap := by
  rcases h.2 with ⟨rfl, rfl⟩ | ⟨g, cap, cur, rfl, _⟩
  · exact ⟨none, 0, rfl⟩
  · exact ⟨_, cap, rfl⟩
/-- what an append turns: the row's own block -/
theorem grew_own {w w' : World} {v : Value} (h : w.grownBy w' v.ownBlock) : KeptX (fun b => v.ownBlock = some b) w w' := (KeptX.refl _ w).grown h (fun _ hb => .inl hb)
def Vil.sent1 (V : Vil) (m : Msg) : Vil := { V with fl := V.fl ++ [m], sent := V.sent + 1 }
set_option maxRecDepth 100000 in
set_option maxHeartbeats 1000000 in
theorem send_any (w : World) (p q : Nat) (V : Vil) (S : Nat → Prop) (m : Msg) (h : VilAt w p q V S) (hs : V.Small 1000000) : Calls Try.prog 68 #[ptr p, msgV m] w (VPost w p q (V.sent1 m) S (.returned (.tuple #[]))) := by
  obtain ⟨vo, vf, vl, cq, h⟩ := h
  have c3 := h.box3
  have c4 := h.box4
  have HP := Lib.hid h
  have hO := h.fl
  have hfl := hs.fl
  have hse := hs.sent
  have hpl := (Array.getElem?_eq_some_iff.1 (h.box.choose_spec).1).1
  obtain ⟨i0, hi0, hz0, hz1, hz2⟩ := info_parts Try.infoMsg
  obtain ⟨vb, vcap, rfl⟩ := own_shape hO
  obtain ⟨t, y, HX⟩ : ∃ t y, Hid (Value.iface t y = msgV m) := ⟨_, _, rfl⟩
  obtain ⟨s, HS⟩ : ∃ k, Hid (k = V.sent) := ⟨_, rfl⟩
  rw [← HX.out]
  rw [← HS.out] at c4 hse
  obtain ⟨Lv, HL⟩ : ∃ l, Hid (l = msgsV V.fl) := ⟨_, rfl⟩
  rw [← HL.out] at hO
  unfold ptr
  have hx1 : (Value.iface t y).oneCell' = true := rfl
  have z5 : IntKind.i64.wrap ((s : Int) + 1) = (s : Int) + 1 := IntWalk.i64_in _ (by omega)
  clear h hs
  go_enter Try.func68, Try.ntmps68
  go_wp2_with (first
    | (at_builtin; refine wpList_append_where _ rfl _ _ 67 rfl 0 80 i0 .nilIface 1 16 Try.underlying67 hi0 hz0 hz1 hz2 rfl (by decide) _ _ _ rfl (hO.alloc _) ⟨_, 0, none⟩ 1 1 [.iface t y] rfl rfl (cell_one_new _ _ _) ?c2 ?c3 ?c4 ?c5 ?c6 ?_))
  case c2 => intro u hu; rw [List.mem_singleton.1 hu]; exact hx1
  case c3 => omega
  case c4 => unfold maxLen; omega
  case c5 => omega
  case c6 => omega
  intro v' w2 hO3 hgr hw
  obtain ⟨va, vc, rfl⟩ := own_shape hO3
  have hP1 := HP.out.kept ((Kept.refl w).alloc (.cells #[Value.iface t y] 80))
  have kx := grew_own hgr
  have hsz : (w.alloc (.cells #[Value.iface t y] 80)).heap.size = w.heap.size + 1 := World.size_alloc _ _
  have hO4 : w2.ownsRow 0 80 1 (.slice va (V.fl.length + 1) vc) (V.fl ++ [m]).length (msgsV (V.fl ++ [m])) := by
    rw [List.length_append, msgsV_snoc, ← HL.out, ← HX.out]; exact hO3
  have hbx := kx.row hP1.box (row_own hP1.box hP1.fl (by decide))
  have d3 := hbx.cell (show 3 < 5 by omega)
  have d4 := hbx.cell (show 4 < 5 by omega)
  have f3 := hbx.frozen 3
  have f4 := hbx.frozen 4
  have hP2 := hP1.setFl kx _ (V.fl ++ [m]) hO4 (fun b hb => by
    rcases hw with h | h
    · exact .inl (by rw [← h]; exact hb)
    · rw [h] at hb; cases hb
      exact .inr ⟨by omega, own_lt hO3 h⟩)
  have hP3 := hP2.setSent (s + 1)
  have hKS : KeptX S w w2 := (((KeptX.refl S w).alloc _).trans (kx.weaken fun b hb => hP1.sf b hb))
  have hfin : Hid (VPost w p q (V.sent1 m) S (.returned (.tuple #[])) (.returned (.tuple #[])) ((w2.setCell ⟨p, 3, none⟩ (.slice va (V.fl.length + 1) vc)).setCell ⟨p, 4, none⟩ (.int .i64 ((s : Int) + 1)))) := by
    refine ⟨rfl, ⟨vo, .slice va (V.fl.length + 1) vc, vl, cq, ?_⟩, (hKS.setCell (p := ⟨p, 3, none⟩) (.inl hP1.sp) _).setCell (p := ⟨p, 4, none⟩) (.inl hP1.sp) _⟩
    have h4 := hP3
    rw [show natV (s + 1) = .int .i64 ((s : Int) + 1) by unfold natV; push_cast; rfl] at h4
    have e : V.sent1 m = { V with fl := V.fl ++ [m], sent := s + 1 } := by unfold Vil.sent1; rw [HS.out]
    rw [e]
    have hsz2 := hgr.size
    exact h4.wide (fun b hb => by
      rcases hb with hb | hb
      · exact .inl hb
      · refine .inr ⟨by omega, ?_⟩
        rw [nblk_setCell, nblk_setCell]; exact hb.2) (fun b hb => by
      rw [nblk_setCell, nblk_setCell]
      rcases hb with hb | hb
      · have := HP.out.fits b hb; omega
      · have := hb.2; rwa [nblk_setCell, nblk_setCell] at this)
  rw [show bxV p q V.n cq vo (.slice vb V.fl.length vcap) V.sent 4 = .int .i64 (s : Int) by rw [HS.out]; rfl] at d4
  clear hP1 hP2 hP3 hKS kx hbx hO3 hO4 hgr hw hO c3 c4 hsz HP
  go_wp2_with fail
  go_end0
  exact hfin.out
end Go.Proofs.Ytjjeoloifggdpaa
