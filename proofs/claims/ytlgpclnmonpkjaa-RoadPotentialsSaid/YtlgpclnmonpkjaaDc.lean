/-
  Package road: paired.
-/
import Derived.Test.YtlgpclnmonpkjaaDa
import Derived.Test.YtlgpclnmonpkjaaDb
namespace Go.Proofs.Ytlgpclnmonpkjaa
open Go.RowKit Go.Deep

theorem Kept.called {w w' : World} (h : Kept w w') : ∃ z, z = w' ∧ Kept w z := ⟨_, rfl, h⟩
theorem own_cap {w : World} {base e size : Nat} {v : Value} {n : Nat} {xs : List Value} (h : w.ownsRow base e size v n xs) : ∃ a cap, v = .slice a n cap ∧ n ≤ cap := by
  rcases h.2 with ⟨rfl, rfl⟩ | ⟨g, cap, cur, rfl, _, _, hnc, _⟩
  · have h1 := h.1
    exact ⟨none, 0, rfl, Nat.le_refl _⟩
  · exact ⟨_, cap, rfl, hnc⟩
set_option maxRecDepth 100000 in
set_option maxHeartbeats 8000000 in
theorem paired_any (v : Value) (R : Road) (ok : R.Ok) : ∀ (k : Nat), k ≤ 90 → ∀ (w : World) (av bv : Option Addr) (ac bc : Nat) (A B : Nat → Sp), TreeAt w v R → SpsAt w (.slice av k ac) k A → k ≤ ac → SpsAt w (.slice bv k bc) k B → k ≤ bc → (∀ t, t < k → R.spot (A t)) → (∀ t, t < k → R.spot (B t)) →
    Calls Try.prog 79 #[v, .slice av k ac, .slice bv k bc] w fun e w' => e = .returned (.int .i64 ((prP R k A B : Nat) : Int)) ∧ Kept w w' := by
  intro k
  induction k with
  | zero =>
    intro _ w av bv ac bc A B hT hA _ hB _ _ _
    have hT0 := hT
    obtain ⟨b0, o0, c0, b1, o1, c1, b2, o2, c2, rfl, _, _, _⟩ := hT.open ok
    obtain ⟨n0, HN0⟩ : ∃ n0, w.heap.size = n0 := ⟨_, rfl⟩
    obtain ⟨W1, hW1, hsz, q0, q1, q2, hK⟩ := newbox3 w n0 HN0 (.slice (some ⟨b0, o0, none⟩) R.n c0) (.slice (some ⟨b1, o1, none⟩) R.n c1) (.slice (some ⟨b2, o2, none⟩) R.n c2) 88
    go_enter Try.func79, Try.ntmps79
    go_wp2_with fail
    go_ret
    exact ⟨rfl, hK⟩
  | succ k ih =>
    intro hk w av bv ac bc A B hT hA hac hB hbc hSA hSB
    obtain ⟨F, HF⟩ : ∃ F : Nat → Nat, Hid (F = fun i => R.dist (A 0) (B i) + prP R k (fun t => A (t + 1)) (skF B i)) := ⟨_, rfl⟩
    have HFL : Hid (∀ i, i < k + 1 → F i ≤ 360 + 360 * k) := by
      show ∀ i, _
      intro i hi
      rw [HF.out]
      have h1 := Road.dist_le ok (hSA 0 (by omega)) (hSB i hi)
      have h2 := prP_le ok k (fun t => A (t + 1)) (skF B i) (fun t ht => hSA (t + 1) (by omega)) (skF_spot hSB)
      show _ + _ ≤ _
      omega
    have hpp : prP R (k + 1) A B = mnB F (k + 1) := by rw [HF.out]; rfl
    have HSK := Lib.hid (fun i => skF_spot (i := i) hSB)
    rw [hpp]
    clear hpp
    have IH := Lib.hid (ih (by omega))
    clear ih
    obtain ⟨n, HNK⟩ : ∃ n, Hid (n = k + 1) := ⟨_, rfl⟩
    rw [← HNK.out] at hk hA hac hB hbc hSA hSB HFL ⊢
    obtain rfl : k = n - 1 := by have := HNK.out; omega
    have hnk : 1 ≤ n := by have := HNK.out; omega
    have hT0 := hT
    obtain ⟨b0, o0, c0, b1, o1, c1, b2, o2, c2, rfl, _, _, _⟩ := hT.open ok
    obtain ⟨av', ab, ao, ac', e, ha, hca⟩ := hA
    cases e
    obtain ⟨bv', bb, bo, bc', e, hb, hcb⟩ := hB
    cases e
    obtain rfl := ha (by omega)
    obtain rfl := hb (by omega)
    have DI := Lib.hid (fun W (p u q x : Nat) (hW : TreeAt W (Value.agg #[.slice (some ⟨b0, o0, none⟩) R.n c0, .slice (some ⟨b1, o1, none⟩) R.n c1, .slice (some ⟨b2, o2, none⟩) R.n c2]) R) (hs : R.spot (p, u)) (ht : R.spot (q, x)) => distance_any W _ R ok hW (p, u) (q, x) hs ht)
    unfold SpV at DI
    simp only at DI
    obtain ⟨n0, HN0⟩ : ∃ n0, w.heap.size = n0 := ⟨_, rfl⟩
    obtain ⟨W1, hW1, hsz, q0, q1, q2, hK⟩ := newbox3 w n0 HN0 (.slice (some ⟨b0, o0, none⟩) R.n c0) (.slice (some ⟨b1, o1, none⟩) R.n c1) (.slice (some ⟨b2, o2, none⟩) R.n c2) 88
    have HCA := Lib.hid (fun i hi => And.intro (hK.cellSome (hca i hi).1) (hK.cellSome (hca i hi).2))
    have HCB := Lib.hid (fun i hi => And.intro (hK.cellSome (hcb i hi).1) (hK.cellSome (hcb i hi).2))
    have HSA := Lib.hid hSA
    have HSB := Lib.hid hSB
    have hT1 := hT0.kept hK
    clear hca hcb hT0 hT hSA hSB
    have e0 : ¬ ((n : Nat) : Int) = 0 := by omega
    go_enter Try.func79, Try.ntmps79
    go_wp2_with fail
    clear hW1 hsz HN0
    go_loopg [7, 16] n (fun g s7 s16 wr => ∃ i : Nat, i ≤ n ∧ g = n - i ∧ s16 = .int .i64 i ∧ s7 = .int .i64 ((mnB F i : Nat) : Int) ∧ Kept W1 wr)
    case atStart => exact ⟨0, Nat.zero_le _, rfl, rfl, rfl, Kept.refl _⟩
    case round =>
      obtain ⟨i, hle, rfl, rfl, rfl, hK2⟩ := hrel
      by_cases hlt : i < n
      · obtain ⟨c1', c2'⟩ := HCB.out i hlt
        have h1 := hK2.cellSome c1'
        have h2 := hK2.cellSome c2'
        have n1 : (i : Int) < (n : Int) := by omega
        have n2 : (0 : Int) ≤ (i : Int) := by omega
        have HSI := Lib.hid (HSB.out i hlt)
        obtain ⟨p, HP⟩ : ∃ p : Nat, Hid (p = (B i).1) := ⟨_, rfl⟩
        obtain ⟨u, HU⟩ : ∃ u : Nat, Hid (u = (B i).2) := ⟨_, rfl⟩
        rw [← HP.out] at h1
        rw [← HU.out] at h2
        have HPU : Hid (B i = (p, u)) := by show _ = _; rw [HP.out, HU.out]
        rw [HPU.out] at HSI
        obtain ⟨W3, hW3, hsz3, y0, y1, hK3⟩ := newbox2 wr wr.heap.size rfl (.int .i64 p) (.int .i64 u) 26
        have hK13 := hK2.trans hK3
        obtain ⟨ms, HMS⟩ : ∃ ms : Nat, Hid (ms = mnB F i) := ⟨_, rfl⟩
        rw [← HMS.out]
        have s2 : IntKind.i64.wrap ((i : Int) + 1) = ((i + 1 : Nat) : Int) := by rw [IntWalk.i64_in _ (by omega)]; omega
        have n3 : ((i + 1 : Nat) : Int) ≤ (n : Int) := by omega
        have n4 : (i : Int) ≤ (bc : Int) := by omega
        go_upto_region 7 with fail
        go_cut [10] (fun v10 wx => ∃ ca cc, v10 = .slice ca (n - 1) cc ∧ n - 1 ≤ cc ∧ SpsAt wx (.slice ca (n - 1) cc) (n - 1) (skF B i) ∧ Kept W3 wx)
        case first =>
          by_cases hbe : bc = i + 1
          · have hbn : (bc = i + 1) = True := eq_true hbe
            clear hbe
            have hbe := Lib.hid (of_eq_true hbn)
            obtain ⟨W4, hW4, hsz4, g0, g1, hK4⟩ := newbox2 W3 (wr.heap.size + 1) hsz3 (.slice (some ⟨bb, bo, none⟩) i bc) (.slice (some ⟨bb, bo, none⟩) (n - (i + 1)) (bc - (i + 1))) 36
            have hK34 : Kept W3 W4.drew := hK4.drew
            have CON := Lib.hid (Concat_spots W4.drew (wr.heap.size + 1) 0 2 (fun _ => bb) (fun j => if j = 0 then bo else bo) (fun j => if j = 0 then bc else bc - (i + 1)) (fun j => if j = 0 then i else n - (i + 1)) (fun j => if j = 0 then B else fun t => B (t + (i + 1))) (by show (if 0 = 0 then i else _) + (if 1 = 0 then i else _) ≤ 100; simp; omega) (fun j hj => by
              have : j = 0 ∨ j = 1 := by omega
              rcases this with rfl | rfl
              · exact (Kept.drew (Kept.refl W4)).cellSome g0
              · exact (Kept.drew (Kept.refl W4)).cellSome g1) (fun j hj => by
              have : j = 0 ∨ j = 1 := by omega
              rcases this with rfl | rfl
              · exact fun t ht => ⟨(hK13.trans hK34).cellSome (HCB.out t (by simp at ht; omega)).1, (hK13.trans hK34).cellSome (HCB.out t (by simp at ht; omega)).2⟩
              · exact fun t ht => by
                  have h3 : t < n - (i + 1) := ht
                  have h4 := HCB.out (t + (i + 1)) (by omega)
                  have e1 : bo + (t + (i + 1)) * 2 = bo + t * 2 := by have := hbe.out; omega
                  rw [e1] at h4
                  exact ⟨(hK13.trans hK34).cellSome h4.1, (hK13.trans hK34).cellSome h4.2⟩))
            clear g0 g1 hsz4 hW3 hK4
            go_region_with (first | (go_at_call 84; refine CON.out.mono ?_; rintro e w5 ⟨cv, rfl, hk5, hO5⟩))
            all_goals
              go_wp2_with fail
              go_meet
              have hO6 : w5.ownsRow W4.drew.heap.size 26 2 cv (n - 1) (spsL (skF B i) (n - 1)) := by
                have e1 : totM (fun j => if j = 0 then i else n - (i + 1)) 2 = n - 1 := by simp [totM]; omega
                have e2 : catL (fun j => if j = 0 then B else fun t => B (t + (i + 1))) (fun j => if j = 0 then i else n - (i + 1)) 2 = spsL (skF B i) (n - 1) := by
                  have e3 := catL_two B (fun t => B (t + (i + 1))) i (n - (i + 1))
                  simp only [catL, List.nil_append, if_true, show ¬ (1 = 0) by omega, if_false]
                  rw [e3, show i + (n - (i + 1)) = n - 1 by omega]
                  exact spsL_congr _ fun t ht => by
                    unfold skF
                    split
                    · rfl
                    · rw [show t - i + (i + 1) = t + 1 by omega]
                rw [e1, e2] at hO5
                exact hO5
              obtain ⟨ca, cc, rfl, hcc⟩ := own_cap hO6
              exact ⟨ca, cc, rfl, hcc, SpsAt.of_own hO6, hK34.trans hk5⟩
          · have hbn : (bc = i + 1) = False := eq_false hbe
            clear hbe
            obtain ⟨W4, hW4, hsz4, g0, g1, hK4⟩ := newbox2 W3 (wr.heap.size + 1) hsz3 (.slice (some ⟨bb, bo, none⟩) i bc) (.slice (some ⟨bb, bo + (i + 1) * 2, none⟩) (n - (i + 1)) (bc - (i + 1))) 36
            have hK34 : Kept W3 W4.drew := hK4.drew
            have CON := Lib.hid (Concat_spots W4.drew (wr.heap.size + 1) 0 2 (fun _ => bb) (fun j => if j = 0 then bo else bo + (i + 1) * 2) (fun j => if j = 0 then bc else bc - (i + 1)) (fun j => if j = 0 then i else n - (i + 1)) (fun j => if j = 0 then B else fun t => B (t + (i + 1))) (by show (if 0 = 0 then i else _) + (if 1 = 0 then i else _) ≤ 100; simp; omega) (fun j hj => by
              have : j = 0 ∨ j = 1 := by omega
              rcases this with rfl | rfl
              · exact (Kept.drew (Kept.refl W4)).cellSome g0
              · exact (Kept.drew (Kept.refl W4)).cellSome g1) (fun j hj => by
              have : j = 0 ∨ j = 1 := by omega
              rcases this with rfl | rfl
              · exact fun t ht => ⟨(hK13.trans hK34).cellSome (HCB.out t (by simp at ht; omega)).1, (hK13.trans hK34).cellSome (HCB.out t (by simp at ht; omega)).2⟩
              · exact fun t ht => by
                  have h3 : t < n - (i + 1) := ht
                  have h4 := HCB.out (t + (i + 1)) (by omega)
                  have e1 : bo + (t + (i + 1)) * 2 = bo + (i + 1) * 2 + t * 2 := by omega
                  rw [e1] at h4
                  exact ⟨(hK13.trans hK34).cellSome h4.1, (hK13.trans hK34).cellSome h4.2⟩))
            clear g0 g1 hsz4 hW3 hK4
            go_region_with (first | (go_at_call 84; refine CON.out.mono ?_; rintro e w5 ⟨cv, rfl, hk5, hO5⟩))
            all_goals
              go_wp2_with fail
              go_meet
              have hO6 : w5.ownsRow W4.drew.heap.size 26 2 cv (n - 1) (spsL (skF B i) (n - 1)) := by
                have e1 : totM (fun j => if j = 0 then i else n - (i + 1)) 2 = n - 1 := by simp [totM]; omega
                have e2 : catL (fun j => if j = 0 then B else fun t => B (t + (i + 1))) (fun j => if j = 0 then i else n - (i + 1)) 2 = spsL (skF B i) (n - 1) := by
                  have e3 := catL_two B (fun t => B (t + (i + 1))) i (n - (i + 1))
                  simp only [catL, List.nil_append, if_true, show ¬ (1 = 0) by omega, if_false]
                  rw [e3, show i + (n - (i + 1)) = n - 1 by omega]
                  exact spsL_congr _ fun t ht => by
                    unfold skF
                    split
                    · rfl
                    · rw [show t - i + (i + 1) = t + 1 by omega]
                rw [e1, e2] at hO5
                exact hO5
              obtain ⟨ca, cc, rfl, hcc⟩ := own_cap hO6
              exact ⟨ca, cc, rfl, hcc, SpsAt.of_own hO6, hK34.trans hk5⟩
        obtain ⟨ca, cc, rfl, hcc6, hS6, hKx⟩ := hcut
        obtain ⟨wx, hwx, hKx⟩ := Kept.called hKx
        subst hwx
        have hK16 := hK13.trans hKx
        have hT6 := hT1.kept hK16
        obtain ⟨x0, x1, x2, _⟩ := keep3 q0 q1 q2 hK16
        obtain ⟨y0', y1', _⟩ := keep2 y0 y1 hKx
        have HSJ := Lib.hid (HSA.out 0 (by omega))
        obtain ⟨q, HQ⟩ : ∃ p : Nat, Hid (p = (A 0).1) := ⟨_, rfl⟩
        obtain ⟨x, HX⟩ : ∃ u : Nat, Hid (u = (A 0).2) := ⟨_, rfl⟩
        have HQX : Hid (A 0 = (q, x)) := by show _ = _; rw [HQ.out, HX.out]
        rw [HQX.out] at HSJ
        have a1 : wx.cell? ⟨ab, ao, none⟩ = some (.int .i64 (q : Int)) := by
          have h4 := (HCA.out 0 (by omega)).1
          rw [Nat.zero_mul, Nat.add_zero] at h4
          rw [HQ.out]
          exact hK16.cellSome h4
        have a2 : wx.cell? ⟨ab, ao + 1, none⟩ = some (.int .i64 (x : Int)) := by
          have h4 := (HCA.out 0 (by omega)).2
          rw [Nat.zero_mul, Nat.add_zero] at h4
          rw [HX.out]
          exact hK16.cellSome h4
        have DI2 := Lib.hid (fun W hW => DI.out W q x p u hW HSJ.out HSI.out)
        obtain ⟨d, HD⟩ : ∃ d, Hid (d = R.dist (q, x) (p, u)) := ⟨_, rfl⟩
        rw [← HD.out] at DI2
        obtain ⟨b, HB⟩ : ∃ b, Hid (b = prP R (n - 1) (fun t => A (t + 1)) (skF B i)) := ⟨_, rfl⟩
        have HFI : Hid (F i = d + b) := by show _ = _; rw [HF.out, HD.out, HB.out, ← HQX.out, ← HPU.out]
        have hfl := HFL.out i hlt
        rw [HFI.out] at hfl
        have s4 : IntKind.i64.wrap ((d : Int) + (b : Int)) = (d : Int) + (b : Int) := IntWalk.i64_in _ (by omega)
        have HNX : Hid (mnB F (i + 1) = min ms (d + b)) := by show _ = _; simp only [mnB]; rw [HFI.out, HMS.out]
        clear c1' c2' h1 h2 hT1 DI
        have m1 : (0 : Int) < (n : Int) := by omega
        have m0 : 0 < n := by omega
        have m2 : (1 : Int) ≤ (n : Int) := by omega
        have m3 : (1 : Int) ≤ (ac : Int) := by omega
        by_cases hae : ac = 1
        · have han : (ac = 1) = True := eq_true hae
          clear hae
          have hae := Lib.hid (of_eq_true han)
          have PA := Lib.hid (fun W (k6 : Kept wx W) => IH.out W (some ⟨ab, ao, none⟩) ca (ac - 1) cc (fun t => A (t + 1)) (skF B i) (hT6.kept k6) (show SpsAt W (.slice (some ⟨ab, ao, none⟩) (n - 1) (ac - 1)) (n - 1) (fun t => A (t + 1)) from ⟨_, ab, ao, _, rfl, fun _ => rfl, fun t ht => by
            have h4 := HCA.out (t + 1) (by omega)
            have e1 : ao + (t + 1) * 2 = ao + t * 2 := by have := hae.out; omega
            rw [e1] at h4
            exact ⟨(hK16.trans k6).cellSome h4.1, (hK16.trans k6).cellSome h4.2⟩⟩) (by omega) (hS6.kept k6) hcc6 (fun t ht => HSA.out (t + 1) (by omega)) (fun t ht => HSK.out i t (by omega)))
          rw [← HB.out] at PA
          go_upto_region 8 with fail
          go_region_held3 (fun w' => w'.cell? ⟨n0, 0, none⟩ = some (.slice (some ⟨b0, o0, none⟩) R.n c0) ∧ w'.cell? ⟨n0, 1, none⟩ = some (.slice (some ⟨b1, o1, none⟩) R.n c1) ∧ w'.cell? ⟨n0, 2, none⟩ = some (.slice (some ⟨b2, o2, none⟩) R.n c2) ∧ w'.cell? ⟨ab, ao, none⟩ = some (.int .i64 (q : Int)) ∧ w'.cell? ⟨ab, ao + 1, none⟩ = some (.int .i64 (x : Int)) ∧ w'.cell? ⟨wr.heap.size, 0, none⟩ = some (.int .i64 (p : Int)) ∧ w'.cell? ⟨wr.heap.size, 1, none⟩ = some (.int .i64 (u : Int)) ∧ Kept wx w')
            (exact keep7 x0 x1 x2 a1 a2 y0' y1' (by repeat (first | assumption | exact Kept.refl _ | apply Kept.drew | apply Kept.drewN | apply Kept.alloc | refine Kept.trans ?_ (by assumption))))
            (first | (go_at_call 48; refine (DI2.out _ (hT6.kept (by repeat (first | assumption | exact Kept.refl _ | apply Kept.drew | apply Kept.drewN | apply Kept.alloc | refine Kept.trans ?_ (by assumption))))).mono ?_; rintro e w7 ⟨rfl, hk7⟩) | (go_at_call 79; refine (PA.out _ (by repeat (first | assumption | exact Kept.refl _ | apply Kept.drew | apply Kept.drewN | apply Kept.alloc | refine Kept.trans ?_ (by assumption)))).mono ?_; rintro e w8 ⟨rfl, hk8⟩))
          all_goals
            go_wp2_with fail
            all_goals
              go_roundg (n - (i + 1))
              case measure => omega
              case rel => exact ⟨i + 1, by omega, rfl, by go_num, by rw [HNX.out]; congr 1; omega, hK16.trans (show Kept wx _ from (by repeat (first | assumption | exact Kept.refl _ | apply Kept.drew | apply Kept.drewN | apply Kept.alloc | refine Kept.trans ?_ (by assumption))))⟩
        · have han : (ac = 1) = False := eq_false hae
          clear hae
          have PA := Lib.hid (fun W (k6 : Kept wx W) => IH.out W (some ⟨ab, ao + 2, none⟩) ca (ac - 1) cc (fun t => A (t + 1)) (skF B i) (hT6.kept k6) (show SpsAt W (.slice (some ⟨ab, ao + 2, none⟩) (n - 1) (ac - 1)) (n - 1) (fun t => A (t + 1)) from ⟨_, ab, ao + 2, _, rfl, fun _ => rfl, fun t ht => by
            have h4 := HCA.out (t + 1) (by omega)
            have e1 : ao + (t + 1) * 2 = ao + 2 + t * 2 := by omega
            rw [e1] at h4
            exact ⟨(hK16.trans k6).cellSome h4.1, (hK16.trans k6).cellSome h4.2⟩⟩) (by omega) (hS6.kept k6) hcc6 (fun t ht => HSA.out (t + 1) (by omega)) (fun t ht => HSK.out i t (by omega)))
          rw [← HB.out] at PA
          go_upto_region 8 with fail
          go_region_held3 (fun w' => w'.cell? ⟨n0, 0, none⟩ = some (.slice (some ⟨b0, o0, none⟩) R.n c0) ∧ w'.cell? ⟨n0, 1, none⟩ = some (.slice (some ⟨b1, o1, none⟩) R.n c1) ∧ w'.cell? ⟨n0, 2, none⟩ = some (.slice (some ⟨b2, o2, none⟩) R.n c2) ∧ w'.cell? ⟨ab, ao, none⟩ = some (.int .i64 (q : Int)) ∧ w'.cell? ⟨ab, ao + 1, none⟩ = some (.int .i64 (x : Int)) ∧ w'.cell? ⟨wr.heap.size, 0, none⟩ = some (.int .i64 (p : Int)) ∧ w'.cell? ⟨wr.heap.size, 1, none⟩ = some (.int .i64 (u : Int)) ∧ Kept wx w')
            (exact keep7 x0 x1 x2 a1 a2 y0' y1' (by repeat (first | assumption | exact Kept.refl _ | apply Kept.drew | apply Kept.drewN | apply Kept.alloc | refine Kept.trans ?_ (by assumption))))
            (first | (go_at_call 48; refine (DI2.out _ (hT6.kept (by repeat (first | assumption | exact Kept.refl _ | apply Kept.drew | apply Kept.drewN | apply Kept.alloc | refine Kept.trans ?_ (by assumption))))).mono ?_; rintro e w7 ⟨rfl, hk7⟩) | (go_at_call 79; refine (PA.out _ (by repeat (first | assumption | exact Kept.refl _ | apply Kept.drew | apply Kept.drewN | apply Kept.alloc | refine Kept.trans ?_ (by assumption)))).mono ?_; rintro e w8 ⟨rfl, hk8⟩))
          all_goals
            go_wp2_with fail
            all_goals
              go_roundg (n - (i + 1))
              case measure => omega
              case rel => exact ⟨i + 1, by omega, rfl, by go_num, by rw [HNX.out]; congr 1; omega, hK16.trans (show Kept wx _ from (by repeat (first | assumption | exact Kept.refl _ | apply Kept.drew | apply Kept.drewN | apply Kept.alloc | refine Kept.trans ?_ (by assumption))))⟩
      · obtain rfl : i = n := by omega
        go_wp2_with fail
        go_ret
        exact ⟨rfl, hK.trans hK2⟩
end Go.Proofs.Ytlgpclnmonpkjaa
