/-
  The reference's Costs.
-/
import Derived.Test.YtlgpclnmonpkjaaWn
namespace Go.Proofs.Ytlgpclnmonpkjaa
open Go.RowKit Go.Deep

theorem there_sps (G : Nat → Sp) (t k : Nat) : thereB (fun i => (((G i).1 : Nat) : Int)) (fun i => (((G i).2 : Nat) : Int)) (t : Int) k = hasSp G (t, 0) k := by
  cases h : hasSp G (t, 0) k with
  | true =>
    obtain ⟨i, hi, e⟩ := hasSp_iff.1 h
    exact thereB_true hi (by rw [e]) (by rw [e]; rfl)
  | false =>
    refine thereB_false (allN_true.2 fun i hi => offB_true ?_)
    by_cases e0 : (((G i).1 : Nat) : Int) = (t : Int)
    · refine .inr fun e1 => no_has h i hi ?_
      have e2 : (G i).2 = 0 := by omega
      have e3 : (G i).1 = t := by omega
      rw [← e2, ← e3]
    · exact .inl e0
theorem own_ne {w w' : World} {base e size n : Nat} {v : Value} {xs : List Value} {gg : Nat} (h : w.ownsRow base e size v n xs) (hs : w.heap.size ≤ w'.heap.size) (hg : w'.heap.size ≤ gg) : v.ownBlock ≠ some gg := by
  intro e
  have := (h.lt gg e).2
  omega
theorem sps_grown {w w' : World} {hb ho k cap : Nat} {G : Nat → Sp} {S : Nat → Prop} (h : SpsAt w (.slice (some ⟨hb, ho, none⟩) k cap) k G) (hX : KeptX S w w') (hn : ¬ S hb) (hk : 1 ≤ k) : SpsAt w' (.slice (some ⟨hb, ho, none⟩) k cap) k G := by
  obtain ⟨a, b, o, c, e, h3, h4⟩ := h
  cases e
  have e := h3 (by omega)
  cases e
  exact ⟨_, hb, ho, cap, rfl, fun _ => rfl, fun j hj => ⟨hX.cellSome (h4 j hj).1 hn, hX.cellSome (h4 j hj).2 hn⟩⟩
def RCostsPost (w : World) (R : Road) (k m : Nat) (C : Nat → Nat) (H : Nat → Sp) (e : Ending) (w' : World) : Prop :=
  ∃ v cv, e = .returned (.tuple #[v, cv]) ∧ SpsAt w' v k (servH R k C H m) ∧ IntsAt w' cv m (fun i => ((servC R k C H i : Nat) : Int)) ∧ Kept w w'
set_option maxRecDepth 100000 in
set_option maxHeartbeats 8000000 in
theorem rCosts_any (w : World) (v hv cv : Value) (R : Road) (ok : R.Ok) (hT : RefAt w v R) (k m : Nat) (H : Nat → Sp) (C : Nat → Nat) (hP : SpsAt w hv k H) (hCs : IntsAt w cv m (fun i => ((C i : Nat) : Int))) (hk1 : 1 ≤ k) (hk : k ≤ 100) (hm : m ≤ 100) (hS : ∀ i, i < k → R.spot (H i)) (hC : ∀ i, i < m → C i < R.n) :
    Calls Try.prog 31 #[v, hv, cv] w (RCostsPost w R k m C H) := by
  have hT0 := hT
  have hP0 := hP
  obtain ⟨b0, o0, c0, b1, o1, c1, rfl, _, _⟩ := hT.open ok
  obtain ⟨a, hb0, ho0, hcap0, rfl, ha, hcP⟩ := hP
  obtain rfl := ha (by omega)
  have hb0l : hb0 < w.heap.size := World.block_lt_of_cell? _ _ (hcP 0 (by omega)).1
  obtain ⟨ca, cb, co, ccap, rfl, hca, hcc⟩ := hCs
  obtain ⟨i0, hi0, hz0, hz1, hz2⟩ := info_parts Try.info3
  obtain ⟨i1, hi1, hy0, hy1, hy2⟩ := info_parts Try.infoSpot
  have RS := Lib.hid (fun W hv G t (hW : RefAt W (.agg #[.slice (some ⟨b0, o0, none⟩) R.n c0, .slice (some ⟨b1, o1, none⟩) R.n c1]) R) (hP : SpsAt W hv k G) (ht : t < R.n) (hS : ∀ i, i < k → R.spot (G i)) (hne : ∀ i, i < k → G i ≠ (t, 0)) => rStep_any W _ hv R ok hW k G hP t ht hk1 hk hS hne)
  have TH : Hid (∀ (W : World) (hv : Value) (G : Nat → Sp) (t : Nat) (b : Bool), SpsAt W hv k G → hasSp G (t, 0) k = b → Calls Try.prog 25 #[hv, .int .i64 (t : Int)] W fun e w' => e = .returned (.bool b) ∧ W = w') := fun W hv G t b hP hb => by
    rw [← hb, ← there_sps]
    exact rThere_any W hv k _ _ hP t (by omega)
  obtain ⟨n0, HN0⟩ : ∃ n0, w.heap.size = n0 := ⟨_, rfl⟩
  obtain ⟨W1, hW1, hsz, q0, q1, hKw⟩ := newbox2 w n0 HN0 (.slice (some ⟨b0, o0, none⟩) R.n c0) (.slice (some ⟨b1, o1, none⟩) R.n c1) 24
  obtain ⟨W2, hW2, hsz2, hO2, hK12⟩ : ∃ W2, W1.alloc (.cells #[] 3) = W2 ∧ W2.heap.size = n0 + 1 + 1 ∧ W2.ownsRow (n0 + 1) 3 1 (.slice (some ⟨n0 + 1, 0, none⟩) 0 0) 0 (natsL (servC R k C H) 0) ∧ Kept W1 W2 := by
    have h := own_zeroT W1 (n0 + 1) 3 1 (by omega)
    rw [hsz] at h
    exact ⟨_, rfl, by simp [hsz], h, (Kept.refl W1).alloc _⟩
  have hbo : (Value.slice (some ⟨n0 + 1, 0, none⟩) 0 0).ownBlock ≠ some hb0 := by
    intro e
    injection e with e
    simp at e
    omega
  have hT1 := hT0.kept hKw
  have hP2 := hP0.kept (hKw.trans hK12)
  have HC := Lib.hid hcc
  have OK := Lib.hid ok
  clear hcc hT hT0 hP0
  go_enter Try.func31, Try.ntmps31
  go_wp2_with fail
  obtain ⟨nb, HNB⟩ : ∃ nb, n0 + 1 = nb := ⟨_, rfl⟩
  rw [HNB] at hO2 hbo hsz ⊢
  have hb1 : W1.heap.size ≤ nb := by omega
  have hb2 : nb ≤ W1.heap.size := by omega
  clear hW1 hW2 hsz2 HN0
  go_loopg [1, 8, 9] m (fun g s1 s8 s9 wr => ∃ i : Nat, i ≤ m ∧ g = m - i ∧ s9 = .int .i64 i ∧ ∃ (hb ho cap : Nat) (ov : Value), s1 = .slice (some ⟨hb, ho, none⟩) k cap ∧ s8 = ov ∧ SpsAt wr (.slice (some ⟨hb, ho, none⟩) k cap) k (servH R k C H i) ∧ (∀ j, j < k → R.spot (servH R k C H i j)) ∧ wr.ownsRow nb 3 1 ov i (natsL (servC R k C H) i) ∧ ov.ownBlock ≠ some hb ∧ hb < wr.heap.size ∧ Kept W1 wr)
  case atStart => exact ⟨0, Nat.zero_le _, rfl, rfl, hb0, ho0, hcap0, _, rfl, rfl, hP2, hS, hO2, hbo, Nat.lt_of_lt_of_le hb0l (hKw.trans hK12).size, hK12⟩
  case round =>
    clear hO2 hbo hP2 hK12
    obtain ⟨i, hi, rfl, rfl, hb, ho, cap, ov, rfl, rfl, hP, hsp, hO, hnb, hbl, hK⟩ := hrel
    obtain ⟨oa, ocap, rfl⟩ := own_shape hO
    by_cases hlt : i < m
    · obtain rfl := hca (by omega)
      have hci : w.cell? ⟨cb, co + i, none⟩ = some (.int .i64 ((C i : Nat) : Int)) := HC.out i hlt
      have htn := hC i hlt
      obtain ⟨t, HTT⟩ : ∃ z, Hid (z = C i) := ⟨_, rfl⟩
      rw [← HTT.out] at hci htn
      have n1 : (i : Int) < (m : Int) := by omega
      have n2 : (0 : Int) ≤ (i : Int) := by omega
      obtain ⟨E, HE⟩ : ∃ z, Hid (z = goR R t k (servH R k C H i)) := ⟨_, rfl⟩
      have hE1 : Hid (servH R k C H (i + 1) = E.1) := by show _ = _; rw [HE.out, HTT.out]; rfl
      have hE2 : Hid (servC R k C H i = E.2) := by show _ = _; rw [HE.out, HTT.out]; rfl
      have hgs := goR_spot OK.out htn hk1 _ _ hsp (Nat.le_refl _)
      rw [← HE.out] at hgs
      have hE3 := servC_le OK.out hk1 hC hS i (m := m) hlt
      rw [hE2.out] at hE3
      have hE4 : 360 * k ≤ 36000 := by omega
      go_wp2_with fail
      obtain ⟨Wo, rfl⟩ : ∃ Wo : World, Wo = wr := ⟨_, rfl⟩
      go_loopg [1, 10] (farS R (servH R k C H i) t k) (fun g s1 s10 wr => ∃ (G : Nat → Sp) (c hb ho cap : Nat), farS R G t k = g ∧ s1 = .slice (some ⟨hb, ho, none⟩) k cap ∧ s10 = .int .i64 (c : Int) ∧ SpsAt wr (.slice (some ⟨hb, ho, none⟩) k cap) k G ∧ (∀ j, j < k → R.spot (G j)) ∧ Hid ((goR R t k G).1 = E.1) ∧ Hid ((goR R t k G).2 + c = E.2) ∧ (Value.slice oa i ocap).ownBlock ≠ some hb ∧ hb < wr.heap.size ∧ Kept Wo wr)
      case atStart => exact ⟨servH R k C H i, 0, hb, ho, cap, rfl, rfl, rfl, hP, hsp, by show _ = _; rw [HE.out], by show _ = _; rw [HE.out]; rfl, hnb, hbl, Kept.refl _⟩
      case round =>
        clear hP hnb hbl hsp
        obtain ⟨G, c, hb, ho, cap, rfl, rfl, rfl, hP, hsp, hg1, hg2, hnb, hbl, hKi⟩ := hrel
        have hTi := hT1.kept (hK.trans hKi)
        obtain ⟨a0, a1, _⟩ := keep2 q0 q1 (hK.trans hKi)
        have a2 := ((hKw.trans hK).trans hKi).cellSome hci
        cases hh : hasSp G (t, 0) k with
        | false =>
          have hne := no_has hh
          obtain ⟨hs1, hs2, hs3⟩ := goR_step OK.out htn hk1 hsp hh
          have hf1 : Hid ((goR R t k (stepH R G t k)).1 = E.1) := by show _ = _; rw [← hg1.out, hs1]
          have hf0 : (goR R t k (stepH R G t k)).2 + cnt (mayB R G t k) k + c = E.2 := by rw [← hg2.out, hs1]
          have hss := stepH_spot OK.out htn hsp
          have RS2 := Lib.hid (fun W hW hP => RS.out W (.slice (some ⟨hb, ho, none⟩) k cap) G t hW hP htn hsp hne)
          unfold StepPost at RS2
          obtain ⟨n, HN⟩ : ∃ z, Hid (z = cnt (mayB R G t k) k) := ⟨_, rfl⟩
          rw [← HN.out] at RS2 hf0 hs2 hs3
          have hf2 : Hid ((goR R t k (stepH R G t k)).2 + (c + n) = E.2) := by show _ = _; omega
          have s1 : IntKind.i64.wrap ((c : Int) + (n : Int)) = (c : Int) + (n : Int) := IntWalk.i64_in _ (by omega)
          have HH := Lib.hid hh
          clear hh hs1 hne hf0
          go_wp2_with (first | (go_at_call 25; refine (TH.out _ _ _ _ _ hP HH.out).mono ?_; rintro e w5 ⟨rfl, rfl⟩))
          go_cut [11, 12] (fun v11 v12 wx => ∃ gg gc : Nat, v11 = .slice (some ⟨gg, 0, none⟩) k gc ∧ v12 = .int .i64 (n : Int) ∧ SpsAt wx (.slice (some ⟨gg, 0, none⟩) k gc) k (stepH R G t k) ∧ wr.heap.size ≤ gg ∧ gg < wx.heap.size ∧ Kept wr wx)
          case first =>
            go_region_held3 (fun w' => w'.cell? ⟨n0, 0, none⟩ = some (.slice (some ⟨b0, o0, none⟩) R.n c0) ∧ w'.cell? ⟨n0, 1, none⟩ = some (.slice (some ⟨b1, o1, none⟩) R.n c1) ∧ w'.cell? ⟨cb, co + i, none⟩ = some (.int .i64 (t : Int)) ∧ Kept wr w')
              (exact keep3 a0 a1 a2 (by repeat (first | assumption | exact Kept.refl _ | apply Kept.drew | apply Kept.drewN | apply Kept.alloc | refine Kept.trans ?_ (by assumption))))
              (first | (go_at_call 26; refine (RS2.out _ (hTi.kept (by repeat (first | assumption | exact Kept.refl _ | apply Kept.drew | apply Kept.drewN | apply Kept.alloc | refine Kept.trans ?_ (by assumption)))) (hP.kept (by repeat (first | assumption | exact Kept.refl _ | apply Kept.drew | apply Kept.drewN | apply Kept.alloc | refine Kept.trans ?_ (by assumption))))).mono ?_; rintro e wd ⟨sv, sB, rfl, hsB, hown, hkd⟩; have hsd := SpsAt.of_own hown; obtain ⟨gg, gc, rfl⟩ := own_some hown hk1; have hgl : wr.heap.size ≤ gg := Nat.le_trans (Kept.size (by repeat (first | assumption | exact Kept.refl _ | apply Kept.drew | apply Kept.drewN | apply Kept.alloc | refine Kept.trans ?_ (by assumption)))) (Nat.le_trans hsB (hown.lt gg rfl).1); have hgu := (hown.lt gg rfl).2))
            all_goals
              go_wp2_with fail
              go_meet
              exact ⟨gg, gc, rfl, rfl, hsd.kept (by repeat (first | assumption | exact Kept.refl _ | apply Kept.drew | apply Kept.drewN | apply Kept.alloc | refine Kept.trans ?_ (by assumption))), hgl, hgu, (by repeat (first | assumption | exact Kept.refl _ | apply Kept.drew | apply Kept.drewN | apply Kept.alloc | refine Kept.trans ?_ (by assumption)))⟩
          case rest =>
            obtain ⟨gg, gc, rfl, rfl, hsd, hgl, hgu, hxK⟩ := hcut
            obtain ⟨wx, hwx, hxK⟩ := Kept.named hxK
            subst hwx
            go_wp2_with fail
            go_roundg (farS R (stepH R G t k) t k)
            case measure => omega
            case rel => exact ⟨stepH R G t k, c + n, gg, 0, gc, rfl, rfl, by go_num, hsd, hss, hf1, hf2, own_ne hO (hKi.size) hgl, hgu, hKi.trans hxK⟩
        | true =>
          have hgh := goR_here (R := R) hh
          rw [hgh] at hg1 hg2
          have hg3 : Hid (G = E.1) := hg1
          have hg4 : Hid (c = E.2) := by show _ = _; have := hg2.out; simp only at this; omega
          have HH := Lib.hid hh
          have hu8 : Kept wr (wr.alloc (.cells #[.int .i64 (c : Int)] 3)) := (Kept.refl wr).alloc _
          have hO8 := own_keptY hO (hKi.trans hu8) (fun _ _ _ _ _ h => h)
          have hP8 := hP.kept hu8
          have hB8 : nb ≤ (wr.alloc (.cells #[.int .i64 (c : Int)] 3)).heap.size := by have := (hK.trans (hKi.trans hu8)).size; omega
          have hbl8 : hb < (wr.alloc (.cells #[.int .i64 (c : Int)] 3)).heap.size := Nat.lt_of_lt_of_le hbl hu8.size
          clear hh hgh hg1 hg2
          go_wp2_with (first | (go_at_call 25; refine (TH.out _ _ _ _ _ hP HH.out).mono ?_; rintro e w5 ⟨rfl, rfl⟩) | (at_builtin; refine wpList_append_where _ rfl _ _ 22 rfl nb 3 i0 (.int .i64 0) 1 8 Try.underlying22 hi0 hz0 hz1 hz2 rfl (by decide) _ _ _ rfl hO8 ⟨_, 0, none⟩ 1 1 [.int .i64 (c : Int)] rfl rfl ?c1 ?c2 (by decide) ?c3 ?c4 ?c5 ?_))
          case c1 => exact cell_one_new _ _ _
          case c2 => simp [Value.oneCell']
          case c3 => unfold maxLen; omega
          case c4 => omega
          case c5 => exact hB8
          intro ov9 w9 hO9 hgr9 hwh9
          have hX9 : KeptX (fun b => (Value.slice oa i ocap).ownBlock = some b) _ w9 := KeptX.grown (KeptX.refl _ _) hgr9 (fun b hk => Or.inl hk)
          have hP9 := sps_grown hP8 hX9 hnb hk1
          have hnb9 : ov9.ownBlock ≠ some hb := by
            rcases hwh9 with h | h
            · rw [h]; exact hnb
            · rw [h]; intro e; injection e with e; exact absurd hbl8 (by rw [← e]; first | exact Nat.lt_irrefl _ | simp)
          have hKz9 : Kept W1 w9 := (hK.trans (hKi.trans hu8)).grown hgr9 (fun k hk => by have := (hO8.lt k hk).1; omega)
          have hbl9 : hb < w9.heap.size := Nat.lt_of_lt_of_le hbl8 hX9.size
          go_wp2_with fail
          go_roundg (m - (i + 1))
          case measure => omega
          case rel => exact ⟨i + 1, by omega, rfl, by go_num, hb, ho, cap, ov9, rfl, rfl, by rw [hE1.out, ← hg3.out]; exact hP9, by rw [hE1.out, ← hg3.out]; exact hsp, by rw [natsL_succ, hE2.out, ← hg4.out]; exact hO9, hnb9, hbl9, hKz9⟩
    · obtain rfl : i = m := by omega
      have hcl : ∀ j, j < k → wr.cell? ⟨hb, ho + j * 2, none⟩ = some (.int .i64 (((servH R k C H i j).1 : Nat) : Int)) ∧ wr.cell? ⟨hb, ho + j * 2 + 1, none⟩ = some (.int .i64 (((servH R k C H i j).2 : Nat) : Int)) := by
        obtain ⟨a, b, o, c, e, h3, h4⟩ := hP
        cases e
        have e := h3 (by omega)
        cases e
        exact h4
      have hu : Kept wr (wr.alloc (.cells #[] 26)) := (Kept.refl wr).alloc _
      have hOi := IntsAt.of_natsL hO
      have HCL := Lib.hid hcl
      clear hcl hP
      go_wp2_with (first | (at_builtin; refine wpList_append_own _ rfl _ _ 36 rfl wr.heap.size 26 i1 (.agg #[.int .i64 0, .int .i64 0]) 2 16 Try.underlying36 hi1 hy0 hy1 hy2 rfl (by decide) _ 0 [] rfl (own_zeroT wr wr.heap.size 26 2 (Nat.le_refl _)) ⟨hb, ho, none⟩ k cap (spsL (servH R k C H i) k) rfl (spsL_len _ k) (spsL_cells (fun j hj => ⟨hu.cellSome (HCL.out j hj).1, hu.cellSome (HCL.out j hj).2⟩)) (spsL_one _ _) (by unfold maxLen; omega) (by omega) (by simp) ?_))
      intro ov' w2 hO3 hgr _
      have hK2 : Kept wr w2 := hu.grew hgr (own_zeroT wr wr.heap.size 26 2 (Nat.le_refl _)) (Nat.le_refl _)
      have hO4 : w2.ownsRow wr.heap.size 26 2 ov' k (spsL (servH R k C H i) k) := by simpa using hO3
      obtain ⟨va, vcap, rfl⟩ := own_shape hO4
      clear hO3 hgr
      go_wp2_with fail
      exact bodyPost_ret (v := .tuple #[.slice va k vcap, .slice oa i ocap]) (by simp [results, Try.results31, go_sem]; try rfl) rfl ⟨_, _, rfl, SpsAt.of_own hO4, hOi.kept hK2, hKw.trans (hK.trans hK2)⟩
end Go.Proofs.Ytlgpclnmonpkjaa
