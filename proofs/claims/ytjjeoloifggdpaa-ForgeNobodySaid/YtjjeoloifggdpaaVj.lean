/-
  Package forge: receive.
-/
import Derived.Test.YtjjeoloifggdpaaVi
import Derived.Deep.RegionLaw
import Derived.Deep.AppendLies
namespace Go.Proofs.Ytjjeoloifggdpaa
open Go.RowKit Go.Deep Go.Sort

theorem lies_own {v : Value} {g n c H : Nat} (hw : v.ownBlock = some g ∨ g = H) : (Value.slice (some ⟨g, 0, none⟩) n c).ownBlock = v.ownBlock ∨ (Value.slice (some ⟨g, 0, none⟩) n c).ownBlock = some H := by
  rcases hw with hw | hw
  · exact .inl (by rw [hw]; rfl)
  · exact .inr (by rw [hw]; rfl)
theorem assert_tok (w : World) (v : Value) : (Instr.typeAssert (.iface 98 v) 80 98 true).run Try.prog w = .ok (.tuple #[v, .bool true]) w := by
  unfold Instr.typeAssert
  simp [run_underlying Try.underlying98]
theorem assert_not (w : World) (v : Value) : (Instr.typeAssert (.iface 98 v) 80 96 true).run Try.prog w = .ok (.tuple #[.agg #[.int .i64 0, .int .i64 0], .bool false]) w := by
  unfold Instr.typeAssert
  simp [run_underlying Try.underlying96, Try.zeroValue96]
theorem assert_req (w : World) (v : Value) : (Instr.typeAssert (.iface 96 v) 80 96 true).run Try.prog w = .ok (.tuple #[v, .bool true]) w := by
  unfold Instr.typeAssert
  simp [run_underlying Try.underlying96]
set_option maxRecDepth 100000 in
set_option maxHeartbeats 2000000 in
theorem receive_tok (w : World) (p q : Nat) (V : Vil) (S : Nat → Prop) (a i : Nat) (h : VilAt w p q V S) (hi : i < V.n) (hs : V.Small 999990) :
    Calls Try.prog 56 #[ptr p, .iface 98 (.agg #[.int .i64 (a : Int), .int .i64 (i : Int)])] w (VPost w p q (V.recv ⟨a, i, true⟩) S (.returned (.tuple #[]))) := by
  have hF := Lib.hid h.fits
  obtain ⟨vo, vf, vl, cq, hP⟩ := h
  obtain ⟨W, hW, hz, b0, b1, hk⟩ := newbox2 w w.heap.size rfl (.int .i64 (a : Int)) (.int .i64 (i : Int)) 98
  have hP1 := hP.kept hk
  have c2 := hP1.box2
  have c0 := hP1.way hi
  have ca := hP1.asked hi
  have f0 := (hP1.cell (show i * 4 < V.n * 4 by omega)).2
  have f2 := (hP1.cell (show i * 4 + 2 < V.n * 4 by omega)).2
  have HP1 := Lib.hid hP1
  have hSq := hP.sq
  have i1 : (i : Int) < (V.n : Int) := by omega
  have i0 : (0 : Int) ≤ (i : Int) := by omega
  have GO : Hid (∀ (U : World) (T : Nat → Prop), VilAt U p q { V with way := upd V.way i i, asked := upd V.asked i false } T → Calls Try.prog 47 #[.pointer (some ⟨p, 0, none⟩), .int .i64 (i : Int)] U (VPost U p q (V.recv ⟨a, i, true⟩) T (.returned (.tuple #[])))) := Lib.hid (fun U T hU => goOn_any U p q _ T i hU hi ⟨hs.n, fun j => Nat.le_trans (hs.lst j) (by omega), Nat.le_trans hs.fl (by omega), Nat.le_trans hs.sent (by omega)⟩)
  unfold ptr
  have hat := assert_tok
  have han := assert_not
  have HK := Lib.hid hk
  have hwS := Lib.hid hW
  clear hP hP1 hs hW
  go_enter Try.func56, Try.ntmps56
  go_wp2_with fail
  rw [hwS.out]
  go_quiet (fail)
  have hq : Quiet W (W.drewN nq) := ⟨_, rfl⟩
  have HP2 := Lib.hid (HP1.out.kept hq.kept)
  have HK2 := Lib.hid (HK.out.trans hq.kept)
  have hb1 := hq.kept.cellSome b1
  generalize W.drewN nq = W2 at *
  have c0 := HP2.out.way hi
  have ca := HP2.out.asked hi
  have f0 := (HP2.out.cell (show i * 4 < V.n * 4 by omega)).2
  have f2 := (HP2.out.cell (show i * 4 + 2 < V.n * 4 by omega)).2
  have HP4 := Lib.hid ((HP2.out.setWay i i).setAsked i false)
  have hAt : Hid (∀ U, U = (W2.setCell ⟨q, i * 4, none⟩ (.int .i64 (i : Int))).setCell ⟨q, i * 4 + 2, none⟩ (.bool false) → VilAt U p q { V with way := upd V.way i i, asked := upd V.asked i false } (grow S w U) ∧ KeptX S w U) := Lib.hid (fun U hU => by
    subst hU
    refine ⟨⟨vo, vf, vl, cq, HP4.out.wide (fun b hb => .inl hb) (fun b hb => ?_)⟩, ?_⟩
    · rcases hb with hb | hb
      · exact HP4.out.fits b hb
      · exact hb.2
    · exact ((HK2.out.weaken fun b hb => hb.elim).setCell (p := ⟨q, i * 4, none⟩) (.inl hSq) _).setCell (p := ⟨q, i * 4 + 2, none⟩) (.inl hSq) _)
  have hqw : q < w.heap.size := hF.out q hSq
  have n1 : (q = w.heap.size) = False := eq_false (by omega)
  have n2 : (w.heap.size = q) = False := eq_false (by omega)
  clear hq b0 b1 hqw
  go_wp2_with (first | (go_at_call 47; refine (GO.out _ _ (hAt.out _ rfl).1).mono ?_; rintro e w5 ⟨rfl, hA5, hk5⟩; have HA5 := Lib.hid hA5; have HK5 := Lib.hid hk5; clear hA5 hk5))
  go_end0
  obtain ⟨h1, h2⟩ := VilAt.then HA5.out hF.out (hAt.out _ rfl).2 HK5.out
  exact vpost_of h1 h2
set_option maxRecDepth 100000 in
set_option maxHeartbeats 2000000 in
theorem receive_req (w : World) (p q : Nat) (V : Vil) (S : Nat → Prop) (a i : Nat) (h : VilAt w p q V S) (hi : i < V.n) (hs : V.Small 999990) :
    Calls Try.prog 56 #[ptr p, .iface 96 (.agg #[.int .i64 (a : Int), .int .i64 (i : Int)])] w (VPost w p q (V.recv ⟨a, i, false⟩) S (.returned (.tuple #[]))) := by
  have hF := Lib.hid h.fits
  obtain ⟨vo, vf, vl, cq, hP⟩ := h
  obtain ⟨W, hW, hz, b0, b1, hk⟩ := newbox2 w w.heap.size rfl (.int .i64 (a : Int)) (.int .i64 (i : Int)) 96
  have hP1 := hP.kept hk
  have c2 := hP1.box2
  have HP1 := Lib.hid hP1
  have HP := Lib.hid hP
  have i1 : (i : Int) < (V.n : Int) := by omega
  have i0 : (0 : Int) ≤ (i : Int) := by omega
  have GO : Hid (∀ (U : World) (T : Nat → Prop), VilAt U p q (V.push i a) T → Calls Try.prog 47 #[.pointer (some ⟨p, 0, none⟩), .int .i64 (i : Int)] U (VPost U p q (V.recv ⟨a, i, false⟩) T (.returned (.tuple #[])))) := Lib.hid (fun U T hU => goOn_any U p q _ T i hU hi ((hs.push i a).mono (by omega)))
  obtain ⟨i0', hi0, hz0, hz1, hz2⟩ := info_parts Try.info3
  have hll := hs.lst i
  obtain ⟨vb, vcap, hv⟩ := own_shape (hP.lst i hi)
  unfold ptr
  have har := assert_req
  have HK := Lib.hid hk
  have hwS := Lib.hid hW
  clear hP hP1 hs hW
  go_enter Try.func56, Try.ntmps56
  go_wp2_with fail
  rw [hwS.out]
  go_quiet (fail)
  have hq : Quiet W (W.drewN nq) := ⟨_, rfl⟩
  have HP2 := Lib.hid (HP1.out.kept hq.kept)
  have HK2 := Lib.hid (HK.out.trans hq.kept)
  have hb0 := hq.kept.cellSome b0
  have hb1 := hq.kept.cellSome b1
  have hz2' : (W.drewN nq).heap.size = w.heap.size + 1 := hz
  generalize W.drewN nq = W2 at *
  have c1 := HP2.out.list hi
  have hO := HP2.out.lst i hi
  rw [hv] at c1 hO
  have PE : Hid (∀ (w1 w2 : World) (g gcap : Nat), Kept w w1 → w2.ownsRow 0 3 1 (.slice (some ⟨g, 0, none⟩) ((V.lst i).length + 1) gcap) ((V.lst i).length + 1) (natsV (V.lst i) ++ [natV a]) → w1.grownBy w2 (Value.slice vb (V.lst i).length vcap).ownBlock → ((Value.slice vb (V.lst i).length vcap).ownBlock = some g ∨ g = w1.heap.size) →
      w2.cell? ⟨q, i * 4 + 1, none⟩ = some (.slice vb (V.lst i).length vcap) ∧ w2.frozen? ⟨q, i * 4 + 1, none⟩ = false ∧ VilAt (w2.setCell ⟨q, i * 4 + 1, none⟩ (.slice (some ⟨g, 0, none⟩) ((V.lst i).length + 1) gcap)) p q (V.push i a) (grow S w (w2.setCell ⟨q, i * 4 + 1, none⟩ (.slice (some ⟨g, 0, none⟩) ((V.lst i).length + 1) gcap))) ∧ KeptX S w (w2.setCell ⟨q, i * 4 + 1, none⟩ (.slice (some ⟨g, 0, none⟩) ((V.lst i).length + 1) gcap))) := Lib.hid (fun w1 w2 g gcap k1 hO' hg hw => by
    have := push_end HP.out hi (j := a) k1 hO' (by rw [hv]; exact hg) (by rw [hv]; exact lies_own hw)
    rwa [hv] at this)
  have hnb : Hid ((Value.slice vb (V.lst i).length vcap).ownBlock ≠ some w.heap.size) := Lib.hid (by
    rw [← hv]
    intro e
    have := own_lt (HP.out.lst i hi) e
    omega)
  obtain ⟨k, HKL⟩ : ∃ k, Hid (k = (V.lst i).length) := ⟨_, rfl⟩
  obtain ⟨Lv, HL⟩ : ∃ k, Hid (k = natsV (V.lst i)) := ⟨_, rfl⟩
  rw [← HKL.out] at hll c1
  rw [← HKL.out, ← HL.out] at hO PE
  rw [← HKL.out] at hnb
  clear hq hv b0 b1 c2 hz hz2'
  have hKa : Kept W2 (W2.alloc (.cells #[.int .i64 (a : Int)] 3)).drew := ((Kept.refl W2).alloc _).drew
  have c1' := hKa.cellSome c1
  have hb0' := hKa.cellSome hb0
  go_wp2_with fail
  go_region_law (refine step_append_lies _ (by rfl) _ _ _ (by rfl) 0 3 i0' (.int .i64 0) 1 8 Try.underlying22 hi0 hz0 hz1 hz2 rfl (by omega) (.slice vb k vcap) k Lv (by rfl) ((hO.alloc _).drew) ⟨W2.heap.size, 0, none⟩ 1 1 [.int .i64 (a : Int)] (by rfl) (by rfl) (World.news_of_block (cs := #[.int .i64 (a : Int)]) (t := 3) (fr := (0, 0)) (heap_alloc_new W2 _)) (by simp [Value.oneCell']) (by omega) (by unfold maxLen; omega) (by omega) (by simp) (W2.heap.size + 1) (by simp) ?_; intro g gcap w2 hO3 hgr hgl hgs; obtain ⟨d1, f1, hA, hk⟩ := PE.out _ w2 g gcap ((HK2.out.alloc _).drew) hO3 hgr (by rw [show ((W2.alloc (.cells #[.int .i64 (a : Int)] 3)).drew).heap.size = W2.heap.size + 1 from World.size_alloc _ _]; exact hgl); have HA := Lib.hid hA; have HKK := Lib.hid hk; have d2 : w2.cell? ⟨w.heap.size, 1, none⟩ = some (.int .i64 (i : Int)) := (grew_own hgr).cellSome (hKa.cellSome hb1) hnb.out; clear hA hk hO3 hgr hgl hgs)
  all_goals
    have hqw : q < w.heap.size := hF.out q HP.out.sq
    have n1 : (q = w.heap.size) = False := eq_false (by omega)
    have n2 : (w.heap.size = q) = False := eq_false (by omega)
    clear hqw
    go_wp2_with (first | (go_at_call 47; refine (GO.out _ _ HA.out).mono ?_; rintro e w5 ⟨rfl, hA5, hk5⟩; have HA5 := Lib.hid hA5; have HK5 := Lib.hid hk5; clear hA5 hk5))
    go_end0
    obtain ⟨h1, h2⟩ := VilAt.then HA5.out hF.out HKK.out HK5.out
    exact vpost_of h1 h2
theorem receive_any (w : World) (p q : Nat) (V : Vil) (S : Nat → Prop) (m : Msg) (h : VilAt w p q V S) (hi : m.dst < V.n) (hs : V.Small 999990) :
    Calls Try.prog 56 #[ptr p, msgV m] w (VPost w p q (V.recv m) S (.returned (.tuple #[]))) := by
  obtain ⟨a, i, k⟩ := m
  cases k
  · exact receive_req w p q V S a i h hi hs
  · exact receive_tok w p q V S a i h hi hs
end Go.Proofs.Ytjjeoloifggdpaa
