/-
  The reference's Walk.
-/
import Derived.Test.YtfmcjbddbomohaaRd
import Derived.Test.YtfmcjbddbomohaaWp
namespace Go.Proofs.Ytfmcjbddbomohaa
open Go.RowKit Go.Deep

theorem nxt_sum {m n : Nat} {L : Nat → Nat → Int} {t : Nat} (hm : 1 ≤ m) (hn : 1 ≤ n) (h : ∀ u, u < t + 1 → ¬ ((pth m n L u).1 + 1 = m ∧ (pth m n L u).2 + 1 = n)) : (pth m n L t).1 + (pth m n L t).2 < (pth m n L (t + 1)).1 + (pth m n L (t + 1)).2 := by
  have h1 := pth_in (L := L) hm hn t (fun u hu => h u (by omega))
  have h2 := nxt_spec (L := L) h1.1 h1.2.1 (h t (by omega))
  exact h2.2.2.2.2.1
def RWalkPost (w : World) (m n : Nat) (L : Nat → Nat → Int) (e : Ending) (w' : World) : Prop := ∃ t a cap, e = .returned (.slice a (t + 1) cap) ∧ PairsAt w' (.slice a (t + 1) cap) (t + 1) (pA m n L) (pB m n L) ∧ Kept w w' ∧ EndsAt m n L t
set_option maxRecDepth 100000 in
set_option maxHeartbeats 8000000 in
theorem rwalkS_any (w : World) (m n : Nat) (a1 a2 : Option Addr) (cap1 cap2 : Nat) (X Y U V : Nat → Int) (R L : Nat → Nat → Int) (lf : Nat → Int) (hA : PairsAt w (.slice a1 m cap1) m X Y) (hB : PairsAt w (.slice a2 n cap2) n U V) (h1 : InR m X Y) (h2 : InR n U V) (hm : 1 ≤ m) (hn : 1 ≤ n) (hm2 : m ≤ 900) (hn2 : n ≤ 900)
    (hRest : Calls Try.prog 25 #[.slice a1 m cap1, .slice a2 n cap2, .bool true] w (RestPost w m n R))
    (hl0 : lf 0 = R 0 0) (hl1 : ∀ t, (∀ u, u ≤ t → ¬ ((pth m n L u).1 + 1 = m ∧ (pth m n L u).2 + 1 = n)) → lf (t + 1) = lf t - dist (X (pth m n L t).1) (Y (pth m n L t).1) (U (pth m n L t).2) (V (pth m n L t).2)) (hlb : ∀ t, (∀ u, u < t → ¬ ((pth m n L u).1 + 1 = m ∧ (pth m n L u).2 + 1 = n)) → 0 ≤ lf t ∧ lf t ≤ 16000000000)
    (hpick : ∀ t, (∀ u, u ≤ t → ¬ ((pth m n L u).1 + 1 = m ∧ (pth m n L u).2 + 1 = n)) → ∃ c, c < 3 ∧ cand (pth m n L t).1 (pth m n L t).2 c = pth m n L (t + 1) ∧ (R (pth m n L (t + 1)).1 (pth m n L (t + 1)).2 == lf (t + 1)) = true ∧ ∀ d, d < c → (cand (pth m n L t).1 (pth m n L t).2 d).1 < m → (cand (pth m n L t).1 (pth m n L t).2 d).2 < n → (R (cand (pth m n L t).1 (pth m n L t).2 d).1 (cand (pth m n L t).1 (pth m n L t).2 d).2 == lf (t + 1)) = false) :
    Calls Try.prog 27 #[.slice a1 m cap1, .slice a2 n cap2, .bool true] w (RWalkPost w m n L) := by
  have HI1 := Lib.hid h1
  have HI2 := Lib.hid h2
  have HL0 := Lib.hid hl0
  have HL1 := Lib.hid hl1
  have HLB := Lib.hid hlb
  have HPK := Lib.hid hpick
  have HREST := Lib.hid hRest
  clear h1 h2 hl0 hl1 hlb hpick hRest
  obtain ⟨_, b1, o1, _, e1, ha1, hc1⟩ := hA
  cases e1
  obtain rfl := ha1 (by omega)
  obtain ⟨_, b2, o2, _, e2, ha2, hc2⟩ := hB
  cases e2
  obtain rfl := ha2 (by omega)
  have HC1 := Lib.hid hc1
  have HC2 := Lib.hid hc2
  clear hc1 hc2 ha1 ha2
  obtain ⟨i1, hi0, hz0, hz1, hz2⟩ := info_parts Try.infoPair
  go_enter Try.func27, Try.ntmps27
  go_wp2_with fail
  refine HREST.out.mono ?_
  rintro e w2 ⟨lb, lcap, br, Z, rfl, hk2, hT, hZ⟩
  have HZ := Lib.hid hZ
  have hO0 : (w2.alloc (.cells #[.int .i64 0, .int .i64 0] 98)).ownsRow w2.heap.size 98 2 (.slice (some ⟨w2.heap.size, 0, none⟩) 1 1) 1 (pairs (pA m n L) (pB m n L) 1) := by
    rw [pairs_one1]
    exact World.ownsRow_lit _ #[.int .i64 0, .int .i64 0] 1 (Nat.le_refl _) (by decide) rfl
  have hk3 : Kept w2 (w2.alloc (.cells #[.int .i64 0, .int .i64 0] 98)) := (Kept.refl w2).alloc _
  have hT3 := hT.kept hk3
  have t0 := hT3.top 0 (by omega)
  have t1 := hT3.at (show 0 < m by omega) (show 0 < n by omega)
  rw [hZ 0 0 (by omega) (by omega), ← HL0.out] at t1
  have hm0 : 0 < m := hm
  have hn0 : 0 < n := hn
  have hNS0 : Hid (∀ u, u < 0 → ¬ ((pth m n L u).1 + 1 = m ∧ (pth m n L u).2 + 1 = n)) := fun u hu => by omega
  obtain ⟨l0, HLL⟩ : ∃ l0, Hid (l0 = lf 0) := ⟨_, rfl⟩
  rw [← HLL.out] at t1
  clear hZ HREST HL0
  go_wp2_with fail
  rw [HLL.out]
  generalize w2.alloc (.cells #[.int .i64 0, .int .i64 0] 98) = W3 at *
  clear t0 t1 HLL
  go_loopg [8, 9, 10, 11] (m + n) (fun gg s8 s9 s10 s11 wr => ∃ t : Nat, gg = m + n - ((pth m n L t).1 + (pth m n L t).2) ∧ Hid (∀ u, u < t → ¬ ((pth m n L u).1 + 1 = m ∧ (pth m n L u).2 + 1 = n)) ∧ s9 = .int .i64 (lf t) ∧ s10 = .int .i64 (pth m n L t).1 ∧ s11 = .int .i64 (pth m n L t).2 ∧ Kept w2 wr ∧ wr.ownsRow w2.heap.size 98 2 s8 (t + 1) (pairs (pA m n L) (pB m n L) (t + 1)))
  case atStart => exact ⟨0, rfl, hNS0, rfl, rfl, rfl, hk3, hO0⟩
  case round =>
    clear hk3 hO0 hT3 hNS0
    obtain ⟨t, hgg, hN, rfl, rfl, rfl, hK, hO⟩ := hrel
    have hin := pth_in (L := L) hm hn t hN.out
    have hlb := HLB.out t hN.out
    obtain ⟨i, HI⟩ : ∃ i, Hid (i = (pth m n L t).1) := ⟨_, rfl⟩
    obtain ⟨j, HJ⟩ : ∃ j, Hid (j = (pth m n L t).2) := ⟨_, rfl⟩
    obtain ⟨l0, HLT⟩ : ∃ l0, Hid (l0 = lf t) := ⟨_, rfl⟩
    rw [← HI.out, ← HJ.out] at hin hgg
    rw [← HLT.out] at hlb
    rw [← HI.out, ← HJ.out, ← HLT.out]
    obtain ⟨hi, hj, htij⟩ := hin
    obtain ⟨oa, ocap, rfl, _⟩ := own_form hO
    by_cases hlast : i + 1 = m ∧ j + 1 = n
    · have hends : EndsAt m n L t := ⟨by rw [← HI.out, ← HJ.out]; exact hlast, hN.out⟩
      have HE := Lib.hid hends
      have s1 : ¬ ((i : Int) < (m : Int) - 1) := by omega
      have s2 : ¬ ((j : Int) < (n : Int) - 1) := by omega
      clear hends
      go_wp2_with fail
      go_ret
      exact ⟨t, oa, ocap, rfl, own_pairs hO, hk2.trans hK, HE.out⟩
    · have HLA := Lib.hid hlast
      have hN2 : Hid (∀ u, u < t + 1 → ¬ ((pth m n L u).1 + 1 = m ∧ (pth m n L u).2 + 1 = n)) := fun u hu => by
        by_cases e : u = t
        · subst e; rw [← HI.out, ← HJ.out]; exact hlast
        · exact hN.out u (by omega)
      have hN3 : ∀ u, u ≤ t → ¬ ((pth m n L u).1 + 1 = m ∧ (pth m n L u).2 + 1 = n) := fun u hu => hN2.out u (by omega)
      have hin2 := pth_in (L := L) hm hn (t + 1) hN2.out
      have hl1 := HL1.out t hN3
      have hlb1 := HLB.out (t + 1) hN2.out
      obtain ⟨cs, hcs, hcand, htrue, hfalse⟩ := HPK.out t hN3
      have hsm := nxt_sum (L := L) (t := t) hm hn hN2.out
      obtain ⟨px, HPX⟩ : ∃ px, Hid (px = (pth m n L (t + 1)).1) := ⟨_, rfl⟩
      obtain ⟨py, HPY⟩ : ∃ py, Hid (py = (pth m n L (t + 1)).2) := ⟨_, rfl⟩
      obtain ⟨l1, HL1'⟩ : ∃ l1, Hid (l1 = lf (t + 1)) := ⟨_, rfl⟩
      rw [← HI.out, ← HJ.out] at hcand hfalse hsm
      obtain ⟨d, HD⟩ : ∃ d, Hid (d = dist (X i) (Y i) (U j) (V j)) := ⟨_, rfl⟩
      rw [← HI.out, ← HJ.out, ← HD.out, ← HLT.out] at hl1
      rw [← HL1'.out] at hl1 hlb1 htrue hfalse
      rw [← HPX.out, ← HPY.out] at hin2 htrue hsm
      have hcp : cand i j cs = (px, py) := by rw [hcand, HPX.out, HPY.out]
      have HCP := Lib.hid hcp
      have HTR := Lib.hid htrue
      have HFA := Lib.hid hfalse
      have hq1 : Hid (pA m n L (t + 1) = (px : Int)) := by show ((pth m n L (t + 1)).1 : Int) = _; rw [← HPX.out]
      have hq2 : Hid (pB m n L (t + 1) = (py : Int)) := by show ((pth m n L (t + 1)).2 : Int) = _; rw [← HPY.out]
      obtain ⟨hpx, hpy, _⟩ := hin2
      have w9 : IntKind.i64.wrap l1 = l1 := IntWalk.i64_in _ (by omega)
      have hT1 := hT.kept hK
      clear hcand htrue hfalse hcp hN3
      have hcase : ((i : Int) < (m : Int) - 1) ∨ (¬ ((i : Int) < (m : Int) - 1) ∧ ((j : Int) < (n : Int) - 1)) := by omega
      rcases hcase with hc1 | ⟨hc1, hc2⟩
      all_goals
        go_wp2_with fail
        have x0 := hK.cellSome (hk2.cellSome (HC1.out i hi).1)
        have x1 := hK.cellSome (hk2.cellSome (HC1.out i hi).2)
        have y0 := hK.cellSome (hk2.cellSome (HC2.out j hj).1)
        have y1 := hK.cellSome (hk2.cellSome (HC2.out j hj).2)
        have s1 : (i : Int) < m := by omega
        have s2 : (j : Int) < n := by omega
        have s3 : (0 : Int) ≤ i := by omega
        have s4 : (0 : Int) ≤ j := by omega
        have hdb := dist_bd (HI1.out i hi).1 (HI1.out i hi).2 (HI2.out j hj).1 (HI2.out j hj).2
        rw [← HD.out] at hdb
        have e9 : l0 - d = l1 := hl1.symm
        clear hl1
        go_region_held3 (fun w' => w'.cell? ⟨b1, o1 + i * 2, none⟩ = some (.int .i64 (X i)) ∧ w'.cell? ⟨b1, o1 + i * 2 + 1, none⟩ = some (.int .i64 (Y i)) ∧ w'.cell? ⟨b2, o2 + j * 2, none⟩ = some (.int .i64 (U j)) ∧ w'.cell? ⟨b2, o2 + j * 2 + 1, none⟩ = some (.int .i64 (V j)) ∧ Kept wr w')
          (first | exact keep4 x0 x1 y0 y1 (by repeat (first | assumption | exact Kept.refl _ | apply Kept.drew | apply Kept.drewN | apply Kept.alloc | refine Kept.trans ?_ (by assumption))))
          (first | (go_at_call 51; refine (far_any _ (X i) (Y i) (U j) (V j) (HI1.out i hi).1 (HI1.out i hi).2 (HI2.out j hj).1 (HI2.out j hj).2).mono ?_; rw [← HD.out]; rintro e w5 ⟨rfl, hk5⟩))
        have hkJ : Kept wr w5 := (by repeat (first | assumption | exact Kept.refl _ | apply Kept.drew | apply Kept.drewN | apply Kept.alloc | refine Kept.trans ?_ (by assumption)))
        clear x0 x1 y0 y1 hk5
        have hKJ := hK.trans hkJ
        have hO5 := own_kept hO hkJ
        have hT5 := hT1.kept hkJ
        clear hK hO hT1
        have hC := Lib.hid (cells6 w5 i j 95)
        have hk6 := (Kept.refl w5).alloc (.cells #[.int .i64 i, .int .i64 ((j : Int) + 1), .int .i64 ((i : Int) + 1), .int .i64 j, .int .i64 ((i : Int) + 1), .int .i64 ((j : Int) + 1)] 95)
        go_wp2_with fail
        obtain ⟨cb, HCB⟩ : ∃ cb, Hid (cb = w5.heap.size) := ⟨_, rfl⟩
        rw [← HCB.out] at hC ⊢
        generalize w5.alloc (.cells #[.int .i64 i, .int .i64 ((j : Int) + 1), .int .i64 ((i : Int) + 1), .int .i64 j, .int .i64 ((i : Int) + 1), .int .i64 ((j : Int) + 1)] 95) = W6 at *
        go_loopg [64] 3 (fun g s64 wq => ∃ c : Nat, c ≤ cs ∧ g = 3 - c ∧ s64 = .int .i64 c ∧ Kept W6 wq)
        case atStart => exact ⟨0, Nat.zero_le _, rfl, rfl, Kept.refl _⟩
        case round =>
          obtain ⟨c, hc, rfl, rfl, hKq⟩ := hrel
          by_cases hcc : c < cs
          · have hcl := cand_le i j c (by omega)
            obtain ⟨c0, c1⟩ := hC.out c (by omega)
            have hfa := HFA.out c hcc
            obtain ⟨p, HP⟩ : ∃ p, Hid (p = (cand i j c).1) := ⟨_, rfl⟩
            obtain ⟨q, HQ⟩ : ∃ q, Hid (q = (cand i j c).2) := ⟨_, rfl⟩
            rw [← HP.out] at hcl c0 hfa
            rw [← HQ.out] at hcl c1 hfa
            have q0 := hKq.cellSome c0
            have q1 := hKq.cellSome c1
            obtain ⟨d0, d1⟩ := box2 wr (.int .i64 p) (.int .i64 q) 95
            have hkB : Kept wr (wr.alloc (.cells #[.int .i64 p, .int .i64 q] 95)) := (Kept.refl wr).alloc _
            have hc3 : (c : Int) < 3 := by omega
            clear c0 c1
            by_cases hp : p < m
            · by_cases hq : q < n
              · have hTB := ((hT5.kept hk6).kept hKq).kept hkB
                have d2 := hTB.top p hp
                have d3 := hTB.at hp hq
                rw [HZ.out p q hp hq] at d3
                have g3 := hfa hp hq
                obtain ⟨v, HV⟩ : ∃ v, Hid (v = R p q) := ⟨_, rfl⟩
                rw [← HV.out] at d3 g3
                have s1 : (p : Int) < m := by omega
                have s2 : (q : Int) < n := by omega
                have s3 : (0 : Int) ≤ p := by omega
                have s4 : (0 : Int) ≤ q := by omega
                have g1 : decide ((p : Int) < (m : Int)) = true := decide_eq_true s1
                have g2 : decide ((q : Int) < (n : Int)) = true := decide_eq_true s2
                clear hTB hfa
                go_wp2_with fail
                go_quiet (fail)
                go_wp2_with fail
                go_roundg (3 - (c + 1))
                case measure => omega
                case rel => exact ⟨c + 1, by omega, rfl, by go_num, (by repeat (first | assumption | exact Kept.refl _ | apply Kept.drew | apply Kept.drewN | apply Kept.alloc | refine Kept.trans ?_ (by assumption)))⟩
              · try (exfalso; omega)
                all_goals
                  have g1 : decide ((p : Int) < (m : Int)) = true := decide_eq_true (by omega)
                  have g2 : decide ((q : Int) < (n : Int)) = false := decide_eq_false (by omega)
                  clear hfa
                  go_wp2_with fail
                  go_quiet (fail)
                  go_wp2_with fail
                  go_roundg (3 - (c + 1))
                  case measure => omega
                  case rel => exact ⟨c + 1, by omega, rfl, by go_num, (by repeat (first | assumption | exact Kept.refl _ | apply Kept.drew | apply Kept.drewN | apply Kept.alloc | refine Kept.trans ?_ (by assumption)))⟩
            · try (exfalso; omega)
              all_goals
                have g1 : decide ((p : Int) < (m : Int)) = false := decide_eq_false (by omega)
                clear hfa
                go_wp2_with fail
                go_quiet (fail)
                go_wp2_with fail
                go_roundg (3 - (c + 1))
                case measure => omega
                case rel => exact ⟨c + 1, by omega, rfl, by go_num, (by repeat (first | assumption | exact Kept.refl _ | apply Kept.drew | apply Kept.drewN | apply Kept.alloc | refine Kept.trans ?_ (by assumption)))⟩
          · obtain rfl : c = cs := by omega
            obtain ⟨c0, c1⟩ := hC.out c (by omega)
            rw [HCP.out] at c0 c1
            have q0 := hKq.cellSome c0
            have q1 := hKq.cellSome c1
            obtain ⟨d0, d1⟩ := box2 wr (.int .i64 px) (.int .i64 py) 95
            have hkB : Kept wr (wr.alloc (.cells #[.int .i64 px, .int .i64 py] 95)) := (Kept.refl wr).alloc _
            have hc3 : (c : Int) < 3 := by omega
            have hTB := ((hT5.kept hk6).kept hKq).kept hkB
            have d2 := hTB.top px hpx
            have d3 := hTB.at hpx hpy
            rw [HZ.out px py hpx hpy] at d3
            have g3 := HTR.out
            obtain ⟨v, HV⟩ : ∃ v, Hid (v = R px py) := ⟨_, rfl⟩
            rw [← HV.out] at d3 g3
            have s1 : (px : Int) < m := by omega
            have s2 : (py : Int) < n := by omega
            have s3 : (0 : Int) ≤ px := by omega
            have s4 : (0 : Int) ≤ py := by omega
            have g1 : decide ((px : Int) < (m : Int)) = true := decide_eq_true s1
            have g2 : decide ((py : Int) < (n : Int)) = true := decide_eq_true s2
            clear hTB c0 c1
            go_wp2_with fail
            go_quiet (fail)
            obtain ⟨n1, rfl⟩ : ∃ n1, n1 = nq := ⟨_, rfl⟩
            go_wp2_with fail
            go_quiet (fail)
            have hKall : Kept w5 (((wr.alloc (.cells #[.int .i64 px, .int .i64 py] 95)).drewN n1).drewN nq) := by
              exact (((hk6.trans hKq).trans hkB).drewN _).drewN _
            clear q0 q1 d0 d1 d2 d3 hkB hKq hk6 hC g1 g2 g3
            generalize ((wr.alloc (.cells #[.int .i64 px, .int .i64 py] 95)).drewN n1).drewN nq = W9 at *
            have hK9 := hKJ.trans hKall
            have hO9 := own_kept hO5 hKall
            have hbx := box2 W9 (.int .i64 px) (.int .i64 py) 98
            have hO10 := hO9.alloc (.cells #[.int .i64 px, .int .i64 py] 98)
            have hsz : w2.heap.size ≤ (W9.alloc (.cells #[.int .i64 px, .int .i64 py] 98)).heap.size := Kept.size (hK9.alloc _)
            have hnews : ∀ (k : Nat) u, [Value.int .i64 px, .int .i64 py][k]? = some u → (W9.alloc (.cells #[.int .i64 px, .int .i64 py] 98)).cell? ((⟨W9.heap.size, 0, none⟩ : Addr).add k) = some u := fun k u h => by
              have : k = 0 ∨ k = 1 := by
                rcases Nat.lt_or_ge k 2 with e | e
                · omega
                · rw [List.getElem?_eq_none (by simp; omega)] at h; cases h
              rcases this with rfl | rfl
              · cases h; rw [add_at]; exact hbx.1
              · cases h; rw [add_at]; exact hbx.2
            have HN := Lib.hid hnews
            have HO10 := Lib.hid hO10
            have HSZ := Lib.hid hsz
            have hcap : t + 1 + 1 ≤ 10000 := by omega
            clear hnews hO10 hbx hsz hO9 hKall hT5 hO5 hKJ
            go_wp2_with (first | (at_builtin; refine wpList_append_own _ rfl _ _ 36 rfl w2.heap.size 98 i1 (.agg #[.int .i64 0, .int .i64 0]) 2 16 Try.underlying36 hi0 hz0 hz1 hz2 rfl (by decide) _ _ _ rfl HO10.out ⟨W9.heap.size, 0, none⟩ 1 1 [.int .i64 px, .int .i64 py] rfl rfl HN.out (by simp [Value.oneCell']) ?c3 ?c4 HSZ.out ?_))
            case c3 => unfold maxLen; omega
            case c4 => omega
            intro v' w8 hO8 hgr _
            have hK8 : Kept w2 w8 := (hK9.alloc _).step (grew_X hgr HO10.out) (fun k hk => hk)
            have hO11 : w8.ownsRow w2.heap.size 98 2 v' (t + 1 + 1) (pairs (pA m n L) (pB m n L) (t + 1 + 1)) := by rw [pairs_snoc1, hq1.out, hq2.out]; exact hO8
            clear HO10 HN hgr hO8
            go_wp2_with fail
            go_roundg (m + n - (px + py))
            case measure => exact warp_meas hgg hsm hi hj
            case rel => exact ⟨t + 1, by rw [← HPX.out, ← HPY.out], hN2, by rw [HL1'.out], by rw [HPX.out], by rw [HPY.out], hK8, hO11⟩
end Go.Proofs.Ytfmcjbddbomohaa
