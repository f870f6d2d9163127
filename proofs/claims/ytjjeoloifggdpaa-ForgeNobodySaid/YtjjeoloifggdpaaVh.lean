/-
  Package forge: Want, Leave.
-/
import Derived.Test.YtjjeoloifggdpaaVg
namespace Go.Proofs.Ytjjeoloifggdpaa
open Go.RowKit Go.Deep Go.Sort

theorem nats_at {w : World} {base : Nat} {v : Value} {l : List Nat} (h : w.ownsRow base 3 1 v l.length (natsV l)) : CellsAt w v l.length (fun i => .int .i64 ((l.getD i 0 : Nat) : Int)) :=
  (CellsAt.of_own h).congr fun i hi => by simp [natsV, natV, hi]
set_option maxRecDepth 100000 in
theorem index_any (w : World) (v : Value) (l : List Nat) (x : Nat) (h : CellsAt w v l.length (fun i => .int .i64 ((l.getD i 0 : Nat) : Int))) (hl : l.length ≤ 1000000) :
    Calls Try.prog 66 #[v, .int .i64 (x : Int)] w fun e w' => ∃ k : Int, e = .returned (.int .i64 k) ∧ (0 ≤ k ↔ x ∈ l) ∧ w = w' := by
  obtain ⟨a, b, o, cap, rfl, ha, hc⟩ := h
  have HC := Lib.hid hc
  obtain ⟨n, HN⟩ : ∃ n, Hid (n = l.length) := ⟨_, rfl⟩
  rw [← HN.out] at ha hl HC ⊢
  clear hc
  go_enter Try.func66, Try.ntmps66
  go_wp2_with fail
  go_loopg [8] n (fun g s8 wr => ∃ i : Nat, i ≤ n ∧ g = n - i ∧ s8 = .int .i64 i ∧ w = wr ∧ Hid (x ∉ l.take i))
  case atStart => exact ⟨0, Nat.zero_le _, rfl, rfl, rfl, Lib.hid (by simp)⟩
  case round =>
    obtain ⟨i, hi, rfl, rfl, rfl, HX⟩ := hrel
    by_cases hlt : i < n
    · obtain rfl := ha (by omega)
      have t0 := HC.out i hlt
      have s2 : (i : Int) < (n : Int) := by omega
      have s3 : (0 : Int) ≤ (i : Int) := by omega
      have hiL : i < l.length := by rw [← HN.out]; exact hlt
      (try dsimp only at t0)
      rw [show l.getD i 0 = l[i] by simp [hiL]] at t0
      by_cases he : x = l[i]
      · have hin : Hid ((0 : Int) ≤ (i : Int) ↔ x ∈ l) := Lib.hid ⟨fun _ => by rw [he]; exact List.getElem_mem hiL, fun _ => by omega⟩
        have e1 : ((x : Int) == (l[i] : Int)) = true := by rw [he]; simp
        generalize l[i] = y at *
        clear he
        go_wp2_with fail
        go_ret
        exact ⟨_, rfl, hin.out, rfl⟩
      · have hno : Hid (x ∉ l.take (i + 1)) := Lib.hid (by
          rw [List.take_succ_eq_append_getElem hiL, List.mem_append]
          rintro (h | h)
          · exact HX.out h
          · exact he (List.mem_singleton.1 h))
        have e1 : ((x : Int) == (l[i] : Int)) = false := by simp only [beq_eq_false_iff_ne]; omega
        generalize l[i] = y at *
        clear he
        go_wp2_with fail
        go_roundg (n - (i + 1))
        case measure => omega
        case rel => exact ⟨i + 1, by omega, rfl, by first | rfl | go_num, rfl, hno⟩
    · obtain rfl : i = n := by omega
      have s2 : ¬ (i : Int) < (i : Int) := by omega
      have hno : Hid ((0 : Int) ≤ -1 ↔ x ∈ l) := Lib.hid ⟨fun h => absurd h (by omega), fun h => absurd h (by have := HX.out; rwa [HN.out, List.take_length] at this)⟩
      go_wp2_with fail
      go_ret
      exact ⟨_, rfl, hno.out, rfl⟩
set_option maxRecDepth 100000 in
theorem contains_any (w : World) (v : Value) (l : List Nat) (x : Nat) (h : CellsAt w v l.length (fun i => .int .i64 ((l.getD i 0 : Nat) : Int))) (hl : l.length ≤ 1000000) :
    Calls Try.prog 46 #[v, .int .i64 (x : Int)] w fun e w' => e = .returned (.bool (decide (x ∈ l))) ∧ w = w' := by
  have IX := Lib.hid (index_any w v l x h hl)
  clear h
  by_cases hx : x ∈ l
  · rw [decide_eq_true hx]
    have HX := Lib.hid hx
    clear hx
    go_enter Try.func46, Try.ntmps46
    go_wp2_with (first | (go_at_call 66; refine IX.out.mono ?_; rintro e w1 ⟨k, rfl, hk, rfl⟩; have h0 : k ≥ 0 := hk.2 HX.out; clear hk))
    go_ret
    exact ⟨rfl, rfl⟩
  · rw [decide_eq_false hx]
    have HX := Lib.hid hx
    clear hx
    go_enter Try.func46, Try.ntmps46
    go_wp2_with (first | (go_at_call 66; refine IX.out.mono ?_; rintro e w1 ⟨k, rfl, hk, rfl⟩; have h0 : ¬ k ≥ 0 := fun h => HX.out (hk.1 h); clear hk))
    go_ret
    exact ⟨ret_bool (decide_eq_false (by omega)), rfl⟩
def Vil.wantC (V : Vil) (x : Int) : Int := if inV V.n x then (if V.forg x.toNat || decide (x.toNat ∈ V.lst x.toNat) then 7 else 0) else 1
def Vil.leaveC (V : Vil) (x : Int) : Int := if inV V.n x then (if V.forg x.toNat then 0 else 5) else 1
/-- what is known of memory behind an append to smith i's list -/
theorem push_end {w w1 w2 : World} {p q : Nat} {vo vf : Value} {vl : Nat → Value} {cq : Nat} {V : Vil} {S : Nat → Prop} (h : VilP w p q vo vf vl cq V S) {i j : Nat} (hi : i < V.n) (k1 : Kept w w1) {v' : Value}
    (hO : w2.ownsRow 0 3 1 v' ((V.lst i).length + 1) (natsV (V.lst i) ++ [natV j])) (hg : w1.grownBy w2 (vl i).ownBlock) (hw : v'.ownBlock = (vl i).ownBlock ∨ v'.ownBlock = some w1.heap.size) :
    w2.cell? ⟨q, i * 4 + 1, none⟩ = some (vl i) ∧ w2.frozen? ⟨q, i * 4 + 1, none⟩ = false ∧ VilAt (w2.setCell ⟨q, i * 4 + 1, none⟩ v') p q (V.push i j) (grow S w (w2.setCell ⟨q, i * 4 + 1, none⟩ v')) ∧ KeptX S w (w2.setCell ⟨q, i * 4 + 1, none⟩ v') := by
  have hP1 := h.kept k1
  have kx := grew_own hg
  obtain ⟨m, g, hm, hr, hg2⟩ := hP1.row
  have hr2 := kx.row hr (row_own hr (hP1.lst i hi) (by decide))
  have hc := hr2.cell (show i * 4 + 1 < m by omega)
  rw [hg2 _ (by omega), stV1] at hc
  have hO2 : w2.ownsRow 0 3 1 v' (V.lst i ++ [j]).length (natsV (V.lst i ++ [j])) := by rw [List.length_append, natsV_snoc]; exact hO
  have hP2 := hP1.setList hi kx v' (V.lst i ++ [j]) hO2 (fun b hb => by
    rcases hw with h2 | h2
    · exact .inl (by rw [← h2]; exact hb)
    · have hb2 := hb
      rw [h2] at hb; cases hb
      exact .inr ⟨Nat.le_refl _, own_lt hO hb2⟩)
  have hs1 := k1.size
  have hs2 := hg.size
  refine ⟨hc, hr2.frozen _, ⟨vo, vf, _, cq, hP2.wide (fun b hb => ?_) (fun b hb => ?_)⟩, ?_⟩
  · unfold grow at *
    rw [nblk_setCell]
    rcases hb with hb | hb
    · exact .inl hb
    · exact .inr ⟨by omega, hb.2⟩
  · unfold grow at hb
    rw [nblk_setCell] at hb ⊢
    rcases hb with hb | hb
    · have := h.fits b hb; omega
    · exact hb.2
  · exact ((k1.weaken fun b hb => hb.elim).trans (kx.weaken fun b hb => hP1.sl i hi b hb)).setCell (p := ⟨q, i * 4 + 1, none⟩) (.inl h.sq) _
set_option maxRecDepth 100000 in
set_option maxHeartbeats 2000000 in
theorem Want_any (w : World) (p q : Nat) (V : Vil) (S : Nat → Prop) (x : Int) (h : VilAt w p q V S) (hs : V.Small 999990) :
    Calls Try.prog 18 #[ptr p, .int .i64 x] w (VPost w p q (if V.wantC x = 0 then V.want x.toNat else V) S (.returned (.int .i64 (V.wantC x)))) := by
  have CH := Lib.hid (check_any w p q V S x h)
  have hF := Lib.hid h.fits
  have hH := Lib.hid h
  cases hx : inV V.n x
  · rw [hx] at CH
    rw [show V.wantC x = 1 by unfold Vil.wantC; rw [hx]; rfl, if_neg (by decide)]
    have hfin := Lib.hid (h.here (e := .returned (.int .i64 1)))
    clear h hx
    go_enter Try.func18, Try.ntmps18
    go_wp2_with (first | (go_at_call 45; refine CH.out.mono ?_; rintro e w1 ⟨rfl, rfl⟩))
    go_ret
    exact hfin.out
  · rw [hx] at CH
    obtain ⟨i, rfl, hi⟩ := inV_nat hx
    have hfin := Lib.hid (h.here (e := .returned (.int .i64 7)))
    have i1 : (i : Int) < (V.n : Int) := by omega
    have i0 : (0 : Int) ≤ (i : Int) := by omega
    obtain ⟨vo, vf, vl, cq, hP⟩ := h
    have hO := hP.lst i hi
    have hll := hs.lst i
    have c2 := hP.box2
    have c1 := hP.list hi
    have c3 := hP.forg hi
    have CO := Lib.hid (contains_any w (vl i) (V.lst i) i (nats_at hO) (by omega))
    have HP := Lib.hid hP
    obtain ⟨vb, vcap, hv⟩ := own_shape hO
    rw [hv] at c1 hO CO
    unfold ptr at *
    cases hf : V.forg i
    · rw [hf] at c3
      cases hin : decide (i ∈ V.lst i)
      · rw [hin] at CO
        rw [show V.wantC (i : Int) = 0 by unfold Vil.wantC; rw [hx, Int.toNat_natCast, hf, hin]; rfl, if_pos rfl, Int.toNat_natCast]
        clear hx
        have PE : Hid (∀ (w1 w2 : World) (v' : Value), Kept w w1 → w2.ownsRow 0 3 1 v' ((V.lst i).length + 1) (natsV (V.lst i) ++ [natV i]) → w1.grownBy w2 (Value.slice vb (V.lst i).length vcap).ownBlock → (v'.ownBlock = (Value.slice vb (V.lst i).length vcap).ownBlock ∨ v'.ownBlock = some w1.heap.size) →
            w2.cell? ⟨q, i * 4 + 1, none⟩ = some (.slice vb (V.lst i).length vcap) ∧ w2.frozen? ⟨q, i * 4 + 1, none⟩ = false ∧ VilAt (w2.setCell ⟨q, i * 4 + 1, none⟩ v') p q (V.push i i) (grow S w (w2.setCell ⟨q, i * 4 + 1, none⟩ v')) ∧ KeptX S w (w2.setCell ⟨q, i * 4 + 1, none⟩ v')) := Lib.hid (fun w1 w2 v' k1 hO' hg hw => by
          have := push_end HP.out hi (j := i) k1 hO' (by rw [hv]; exact hg) (by rw [hv]; exact hw)
          rwa [hv] at this)
        have GO : Hid (∀ (W : World) (T : Nat → Prop), VilAt W p q (V.push i i) T → Calls Try.prog 47 #[.pointer (some ⟨p, 0, none⟩), .int .i64 (i : Int)] W (VPost W p q (V.want i) T (.returned (.tuple #[])))) := Lib.hid (fun W T hW => goOn_any W p q (V.push i i) T i hW hi ((hs.push i i).mono (by omega)))
        obtain ⟨i0', hi0, hz0, hz1, hz2⟩ := info_parts Try.info3
        obtain ⟨k, HK⟩ : ∃ k, Hid (k = (V.lst i).length) := ⟨_, rfl⟩
        obtain ⟨Lv, HL⟩ : ∃ k, Hid (k = natsV (V.lst i)) := ⟨_, rfl⟩
        rw [← HK.out] at hll c1 CO
        rw [← HK.out, ← HL.out] at hO PE
        clear hs hf hin hfin hv hP hH
        go_enter Try.func18, Try.ntmps18
        go_wp2_with (first
          | (go_at_call 45; refine CH.out.mono ?_; rintro e w1 ⟨rfl, rfl⟩)
          | (go_at_call 46; refine CO.out.mono ?_; rintro e w1 ⟨rfl, rfl⟩)
          | (at_builtin; refine wpList_append_where _ rfl _ _ 22 rfl 0 3 i0' (.int .i64 0) 1 8 Try.underlying22 hi0 hz0 hz1 hz2 rfl (by decide) _ _ _ rfl (hO.alloc _) ⟨_, 0, none⟩ 1 1 [.int .i64 (i : Int)] rfl rfl (cell_one_new _ _ _) ?c2 ?c3 ?c4 ?c5 ?c6 ?_))
        case c2 => intro u hu; rw [List.mem_singleton.1 hu]; rfl
        case c3 => omega
        case c4 => unfold maxLen; omega
        case c5 => omega
        case c6 => omega
        intro v' w2 hO3 hgr hw
        obtain ⟨va, vc, rfl⟩ := own_shape hO3
        rw [← World.size_alloc w (.cells #[.int .i64 (i : Int)] 3)] at hw
        obtain ⟨d1, f1, hA, hk⟩ := PE.out _ w2 _ ((Kept.refl w).alloc _) hO3 hgr hw
        have HA := Lib.hid hA
        have HKK := Lib.hid hk
        clear hA hk hO3 hgr hw hO c1 c3 c2 PE
        go_wp2_with (first | (go_at_call 47; refine (GO.out _ _ HA.out).mono ?_; rintro e w5 ⟨rfl, hA5, hk5⟩; have HA5 := Lib.hid hA5; have HK5 := Lib.hid hk5; clear hA5 hk5))
        go_ret
        obtain ⟨h1, h2⟩ := VilAt.then HA5.out hF.out HKK.out HK5.out
        exact vpost_of h1 h2
      · rw [hin] at CO
        rw [show V.wantC (i : Int) = 7 by unfold Vil.wantC; rw [hx, Int.toNat_natCast, hf, hin]; rfl, if_neg (by decide)]
        clear hx
        clear hs hf hin hv hP hO
        go_enter Try.func18, Try.ntmps18
        go_wp2_with (first
          | (go_at_call 45; refine CH.out.mono ?_; rintro e w1 ⟨rfl, rfl⟩)
          | (go_at_call 46; refine CO.out.mono ?_; rintro e w1 ⟨rfl, rfl⟩))
        go_ret
        exact hfin.out
    · rw [hf] at c3
      rw [show V.wantC (i : Int) = 7 by unfold Vil.wantC; rw [hx, Int.toNat_natCast, hf]; rfl, if_neg (by decide)]
      clear hx
      clear hs hf hv hP hO CO
      go_enter Try.func18, Try.ntmps18
      go_wp2_with (first | (go_at_call 45; refine CH.out.mono ?_; rintro e w1 ⟨rfl, rfl⟩))
      go_ret
      exact hfin.out
set_option maxRecDepth 100000 in
set_option maxHeartbeats 2000000 in
theorem Leave_any (w : World) (p q : Nat) (V : Vil) (S : Nat → Prop) (x : Int) (h : VilAt w p q V S) (hs : V.Small 999990) :
    Calls Try.prog 20 #[ptr p, .int .i64 x] w (VPost w p q (if V.leaveC x = 0 then V.leave x.toNat else V) S (.returned (.int .i64 (V.leaveC x)))) := by
  have CH := Lib.hid (check_any w p q V S x h)
  have hF := Lib.hid h.fits
  cases hx : inV V.n x
  · rw [hx] at CH
    rw [show V.leaveC x = 1 by unfold Vil.leaveC; rw [hx]; rfl, if_neg (by decide)]
    have hfin := Lib.hid (h.here (e := .returned (.int .i64 1)))
    clear h hx
    go_enter Try.func20, Try.ntmps20
    go_wp2_with (first | (go_at_call 45; refine CH.out.mono ?_; rintro e w1 ⟨rfl, rfl⟩))
    go_ret
    exact hfin.out
  · rw [hx] at CH
    obtain ⟨i, rfl, hi⟩ := inV_nat hx
    have hfin := Lib.hid (h.here (e := .returned (.int .i64 5)))
    have i1 : (i : Int) < (V.n : Int) := by omega
    have i0 : (0 : Int) ≤ (i : Int) := by omega
    obtain ⟨vo, vf, vl, cq, hP⟩ := h
    have c2 := hP.box2
    have c3 := hP.forg hi
    have f3 := (hP.cell (show i * 4 + 3 < V.n * 4 by omega)).2
    have hSq := hP.sq
    unfold ptr at *
    cases hf : V.forg i
    · rw [hf] at c3
      rw [show V.leaveC (i : Int) = 5 by unfold Vil.leaveC; rw [hx, Int.toNat_natCast, hf]; rfl, if_neg (by decide)]
      clear hx
      clear hs hf hP
      go_enter Try.func20, Try.ntmps20
      go_wp2_with (first | (go_at_call 45; refine CH.out.mono ?_; rintro e w1 ⟨rfl, rfl⟩))
      go_ret
      exact hfin.out
    · rw [hf] at c3
      rw [show V.leaveC (i : Int) = 0 by unfold Vil.leaveC; rw [hx, Int.toNat_natCast, hf]; rfl, if_pos rfl, Int.toNat_natCast]
      clear hx
      have HA := Lib.hid (hP.setForg i false)
      have GO : Hid (∀ (W : World) (T : Nat → Prop), VilAt W p q { V with forg := upd V.forg i false } T → Calls Try.prog 47 #[.pointer (some ⟨p, 0, none⟩), .int .i64 (i : Int)] W (VPost W p q (V.leave i) T (.returned (.tuple #[])))) := Lib.hid (fun W T hW => goOn_any W p q _ T i hW hi ⟨hs.n, fun j => Nat.le_trans (hs.lst j) (by omega), Nat.le_trans hs.fl (by omega), Nat.le_trans hs.sent (by omega)⟩)
      clear hs hf hfin hP
      go_enter Try.func20, Try.ntmps20
      go_wp2_with (first
        | (go_at_call 45; refine CH.out.mono ?_; rintro e w1 ⟨rfl, rfl⟩)
        | (go_at_call 47; refine (GO.out _ _ ⟨vo, vf, vl, cq, HA.out⟩).mono ?_; rintro e w5 ⟨rfl, hA5, hk5⟩; have HA5 := Lib.hid hA5; have HK5 := Lib.hid hk5; clear hA5 hk5))
      go_ret
      have k1 : KeptX S w (w.setCell ⟨q, i * 4 + 3, none⟩ (.bool false)) := (KeptX.refl S w).setCell (p := ⟨q, i * 4 + 3, none⟩) (.inl hSq) _
      have hs4 : ∀ b, grow S (w.setCell ⟨q, i * 4 + 3, none⟩ (.bool false)) w5 b ↔ grow S w w5 b := fun b => by unfold grow; rw [nblk_setCell]
      obtain ⟨_, hK5⟩ := (⟨trivial, HK5.out⟩ : True ∧ _)
      exact vpost_of (by have := HA5.out; rwa [show grow S (w.setCell ⟨q, i * 4 + 3, none⟩ (.bool false)) w5 = grow S w w5 from funext fun b => propext (hs4 b)] at this) (k1.trans hK5)
end Go.Proofs.Ytjjeoloifggdpaa
