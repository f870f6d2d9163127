/-
  GaitBent.
-/
import Derived.Test.YtofgadehblpoiaaDoorVa
import Derived.Test.YtofgadehblpoiaaDoorLv
namespace Go.Proofs.YtofgadehblpoiaaDoor
open Go.RowKit Go.Deep Go.Shelf

theorem own_row1i {w : World} {base e : Nat} {n g cap : Nat} {f : Nat → Int} (h : w.ownsRow base e 1 (.slice (some ⟨g, 0, none⟩) n cap) n (ints f n)) : ∃ N F, w.rowIs g e N F ∧ n ≤ N ∧ base ≤ g ∧ ∀ j, j < n → F j = .int .i64 (f j) := by
  obtain ⟨hl, h⟩ := h
  rcases h with ⟨h1, _⟩ | ⟨g', cap', cur, h1, h2, h3, h4, _, hs, ht⟩
  · cases h1
  · cases h1
    have hsz : n ≤ cur.size := by
      have := congrArg List.length ht
      simp [ints] at this
      omega
    refine ⟨cur.size, fun i => cur.getD i undef, ⟨cur, h3, rfl, fun i hi => by simp [Array.getD, hi]⟩, hsz, h2, fun j hj => ?_⟩
    have g1 := ints_get (f := f) hj
    rw [← ht, List.getElem?_take, if_pos (by omega)] at g1
    simp [Array.getD, show j < cur.size by omega] at g1 ⊢
    exact g1
theorem own_somei {w : World} {base e : Nat} {v : Value} {n : Nat} {xs : List Value} (h : w.ownsRow base e 1 v n xs) (hn : 0 < n) : ∃ g cap, v = .slice (some ⟨g, 0, none⟩) n cap := by
  rcases h.2 with ⟨rfl, rfl⟩ | ⟨g, cap, cur, rfl, _⟩
  · have := h.1; simp at this; omega
  · exact ⟨g, cap, rfl⟩
/-- the further sign of each block -/
def benX (len : Nat) (Z : Nat → Nat) (j : Nat) : Nat := if j < len then Z j else 0
theorem odd_add (a b : Nat) : ((a + b) % 2 == 1) = ((a % 2 == 1) ^^ (b % 2 == 1)) := by
  rcases (by omega : a % 2 = 0 ∨ a % 2 = 1) with h1 | h1 <;> rcases (by omega : b % 2 = 0 ∨ b % 2 = 1) with h2 | h2
  · rw [show (a + b) % 2 = 0 by omega, h1, h2]; rfl
  · rw [show (a + b) % 2 = 1 by omega, h1, h2]; rfl
  · rw [show (a + b) % 2 = 1 by omega, h1, h2]; rfl
  · rw [show (a + b) % 2 = 0 by omega, h1, h2]; rfl
set_option maxRecDepth 100000 in
set_option maxHeartbeats 32000000 in
theorem bent_any (w : World) (k0 : Nat) (a1 : Option Addr) (len1 cap1 : Nat) (Z1 : Nat → Nat) (hV1 : BytesAt w (.slice a1 len1 cap1) len1 Z1) (hlen1 : len1 ≤ maxLen) (hZ1 : ∀ i, Z1 i < 256)
    (a2 : Option Addr) (len2 cap2 : Nat) (Z2 : Nat → Nat) (hV2 : BytesAt w (.slice a2 len2 cap2) len2 Z2) (hlen2 : len2 ≤ maxLen) (hZ2 : ∀ i, Z2 i < 256) (hk0 : k0 < 256) (hT : TzAt w) :
    Calls Tryd.prog 13 #[.int .u8 k0, .slice a1 len1 cap1, .slice a2 len2 cap2] w (LivesPost w) := by
  obtain ⟨i0, hi, hz0, hz1, hz2⟩ := info_parts Tryd.info3
  obtain ⟨_, b1, o1, _, e, ha1, hc1⟩ := hV1
  cases e
  obtain ⟨_, b2, o2, _, e, ha2, hc2⟩ := hV2
  cases e
  unfold maxLen at hlen1 hlen2
  have C1 := Lib.hid hc1
  have C2 := Lib.hid hc2
  have HZ1 := Lib.hid hZ1
  have HZ2 := Lib.hid hZ2
  have HT := Lib.hid hT
  have LV := Lib.hid lives_any
  obtain ⟨n, HNN⟩ : ∃ n : Nat, Hid (n = k0 % 4) := ⟨_, rfl⟩
  have hn : n ≤ 3 := by rw [HNN.out]; omega
  have ek : Int.tmod (k0 : Int) 4 = (n : Int) := by rw [HNN.out]; exact (Int.ofNat_tmod k0 4).symm
  have HB := Lib.hid (fun (p q : Nat → Nat) (h : PermP (2 ^ n) p q) xb => mm_bent hn h xb)
  have HD := Lib.hid (fun (p q : Nat → Nat) (h : PermP (2 ^ n) p q) xb => mm_dual hn h xb)
  have h4 := is4_sq ⟨n, by omega⟩
  simp only at h4
  have hz8 : 2 ^ n ≤ 8 := by have := Nat.pow_le_pow_right (n := 2) (by omega) hn; omega
  have hz1' : 1 ≤ 2 ^ n := Nat.one_le_two_pow
  obtain ⟨Z, HZ⟩ : ∃ Z : Nat, Hid (Z = 2 ^ n) := ⟨2 ^ n, rfl⟩
  have e0 : (2 : Int) ^ n = (Z : Int) := by rw [HZ.out]; simp
  rw [← HZ.out] at HB HD h4 hz8 hz1'
  have hO := own_zero w w.heap.size 3 (Nat.le_refl _)
  have hK0 : Kept w (w.alloc (.cells #[] 3)) := (Kept.refl w).alloc _
  have hsz0 : w.heap.size < (w.alloc (.cells #[] 3)).heap.size := by simp
  have hw8 : IntKind.i64.wrap (k0 : Int) = (k0 : Int) := IntWalk.i64_in _ (by omega)
  clear hc1 hc2 hZ1 hZ2 hT HNN
  go_enter Tryd.func13, Tryd.ntmps13
  go_wp2_with fail
  generalize w.alloc (.cells #[] 3) = W0 at *
  go_loopg [9, 10] Z (fun g s9 s10 wr => ∃ i : Nat, i ≤ Z ∧ g = Z - i ∧ s10 = .int .i64 i ∧ Kept w wr ∧ wr.ownsRow w.heap.size 3 1 s9 i (ints (fun a => ((a : Nat) : Int)) i) ∧ w.heap.size < wr.heap.size)
  case atStart => exact ⟨0, Nat.zero_le _, rfl, rfl, hK0, hO, hsz0⟩
  case round =>
    obtain ⟨i, hi1, rfl, rfl, hK, hO1, hsz⟩ := hrel
    clear hK0 hsz0 hO
    by_cases hlt : i < Z
    · have s3 : (i : Int) < (Z : Int) := by omega
      obtain ⟨va, vcap, rfl⟩ := own_shape hO1
      have hnx : Hid (ints (fun a => ((a : Nat) : Int)) (i + 1) = ints (fun a => ((a : Nat) : Int)) i ++ [.int .i64 (i : Int)]) := ints_succ _ _
      go_wp2_with (first | (at_builtin; refine wpList_append_own _ rfl _ _ 23 rfl w.heap.size 3 i0 (.int .i64 0) 1 8 Tryd.underlying23 hi hz0 hz1 hz2 rfl (by decide) _ _ _ rfl (hO1.alloc _) ⟨_, 0, none⟩ 1 1 [.int .i64 (i : Int)] rfl rfl (cell_one_new _ _ _) ?c2 ?c3 ?c4 ?c5 ?_))
      case c2 => simp [Value.oneCell']
      case c3 => unfold maxLen; omega
      case c4 => omega
      case c5 => (try simp); omega
      intro ov' w2 hO3 hgr _
      have hK2 : Kept w w2 := (hK.alloc _).grew hgr (hO1.alloc _) (Nat.le_refl _)
      have hO4 : w2.ownsRow w.heap.size 3 1 ov' (i + 1) (ints (fun a => ((a : Nat) : Int)) (i + 1)) := by rw [hnx.out]; exact hO3
      have hsz2 : w.heap.size < w2.heap.size := by have := hgr.size; simp at this; omega
      clear hO3 hgr hO1
      go_wp2_with fail
      go_roundg (Z - (i + 1))
      case measure => omega
      case rel => exact ⟨i + 1, by omega, rfl, by first | rfl | go_num, hK2, hO4, hsz2⟩
    · obtain rfl : i = Z := by omega
      have s3 : ¬ (i : Int) < (i : Int) := by omega
      obtain ⟨g1, c1, rfl⟩ := own_somei hO1 (by omega)
      obtain ⟨N1, F1, hr1, hN1, hg1, hf1⟩ := own_row1i hO1
      have hr2 := hr1.congr (g := fun a => if a < i then .int .i64 ((a : Nat) : Int) else F1 a) (fun a _ => by
        by_cases e : a < i
        · rw [if_pos e, hf1 a e]
        · rw [if_neg e])
      have hpm0 : Hid (PermP i (fun j => j) (fun j => j)) := PermP.one i
      clear hO1 hr1 hf1 hsz
      obtain ⟨m1, HM1⟩ : ∃ m1, Hid (m1 = min len1 20) := ⟨_, rfl⟩
      have hm1 : m1 ≤ len1 := by rw [HM1.out]; omega
      have hm2 : m1 ≤ 20 := by rw [HM1.out]; omega
      have hm3 : m1 = len1 ∨ m1 = 20 := by rw [HM1.out]; omega
      clear HM1
      go_wp2_with fail
      go_loopg [11] m1 (fun g s11 wr => ∃ (j : Nat) (p q : Nat → Nat), j ≤ m1 ∧ g = m1 - j ∧ s11 = .int .i64 j ∧ Kept w wr ∧ wr.rowIs g1 3 N1 (fun a => if a < i then .int .i64 ((p a : Nat) : Int) else F1 a) ∧ Hid (PermP i p q))
      case atStart => exact ⟨0, fun j => j, fun j => j, Nat.zero_le _, rfl, rfl, hK, hr2, hpm0⟩
      case round =>
        obtain ⟨j, p, q, hj, rfl, rfl, hK1, hr, hpm⟩ := hrel
        clear hK hr2 hpm0
        by_cases hltj : j < m1
        · have s4 : (j : Int) < (len1 : Int) := by omega
          have s5 : (j : Int) < 20 := by omega
          have s6 : (0 : Int) ≤ (j : Int) := by omega
          obtain rfl := ha1 (by omega)
          have t0 := hK1.cellSome (C1.out j (by omega))
          (try dsimp only at t0)
          have hz := HZ1.out j
          generalize Z1 j = z at *
          obtain ⟨aa, HA⟩ : ∃ aa : Nat, Hid (aa = z % i) := ⟨_, rfl⟩
          obtain ⟨z8, HZ8⟩ : ∃ z8 : Nat, Hid (z8 = z / 8) := ⟨_, rfl⟩
          obtain ⟨cc, HC⟩ : ∃ cc : Nat, Hid (cc = z8 % i) := ⟨_, rfl⟩
          have haa : aa < i := by rw [HA.out]; exact Nat.mod_lt _ (by omega)
          have hcc : cc < i := by rw [HC.out]; exact Nat.mod_lt _ (by omega)
          have s0 : ¬ (i : Int) = 0 := by omega
          have v1 : IntKind.i64.wrap (z : Int) = (z : Int) := IntWalk.i64_in _ (by omega)
          have et1 : Int.tmod (z : Int) (i : Int) = (aa : Int) := by rw [HA.out]; exact (Int.ofNat_tmod z i).symm
          have ed1 : Int.tdiv (z : Int) 8 = (z8 : Int) := by rw [HZ8.out]; exact (Int.ofNat_tdiv z 8).symm
          have ed2 : (z : Int) / 8 = (z8 : Int) := by rw [HZ8.out]; omega
          have et2 : Int.tmod (z8 : Int) (i : Int) = (cc : Int) := by rw [HC.out]; exact (Int.ofNat_tmod z8 i).symm
          have hz8' : z8 ≤ 255 := by rw [HZ8.out]; omega
          have s7 : (aa : Int) < (i : Int) := by omega
          have s8 : (cc : Int) < (i : Int) := by omega
          have s9 : (0 : Int) ≤ (aa : Int) := by omega
          have s10 : (0 : Int) ≤ (cc : Int) := by omega
          have y0 := hr.cell (show aa < N1 by omega)
          have y1 := hr.frozen aa
          have y2 := hr.cell (show cc < N1 by omega)
          have y3 := hr.frozen cc
          simp only [if_pos haa] at y0
          simp only [if_pos hcc] at y2
          have hpm2 : Hid (PermP i (fun x => p (swp aa cc x)) (fun x => swp aa cc (q x))) := hpm.out.swap haa hcc
          have HST := Lib.hid (fun (W : World) (h : W.rowIs g1 3 N1 (fun a => if a < i then .int .i64 ((p a : Nat) : Int) else F1 a)) => ((h.set aa (.int .i64 ((p cc : Nat) : Int))).set cc (.int .i64 ((p aa : Nat) : Int))).congr (g := fun a => if a < i then .int .i64 ((p (swp aa cc a) : Nat) : Int) else F1 a) (fun a _ => by
            unfold swp
            by_cases e1 : a = cc
            · subst e1; simp [hcc]
            · by_cases e2 : a = aa
              · subst e2; simp [e1, haa]
              · simp [e1, e2]))
          have y4 : ∀ k, ∃ vv, ((wr.drewN k).setCell ⟨g1, aa, none⟩ (.int .i64 ((p cc : Nat) : Int))).cell? ⟨g1, cc, none⟩ = some vv := fun k => ⟨_, ((((Kept.refl wr).drewN k).row hr).set aa (.int .i64 ((p cc : Nat) : Int))).cell (show cc < N1 by omega)⟩
          have y5 : ∀ k, ((wr.drewN k).setCell ⟨g1, aa, none⟩ (.int .i64 ((p cc : Nat) : Int))).frozen? ⟨g1, cc, none⟩ = false := fun k => ((((Kept.refl wr).drewN k).row hr).set aa (.int .i64 ((p cc : Nat) : Int))).frozen cc
          obtain ⟨vv, y4'⟩ := Classical.axiomOfChoice y4
          clear y4
          generalize p aa = pa at *
          generalize p cc = pc at *
          clear HA HZ8 HC hpm
          go_wp2_with fail
          go_quiet (fail)
          go_wp2_with fail
          go_region
          all_goals
            go_wp2_with fail
            go_roundg (m1 - (j + 1))
            case measure => omega
            case rel => exact ⟨j + 1, _, _, by omega, rfl, by first | rfl | go_num, by first | exact (hK1.setCell hg1 _).setCell hg1 _ | exact ((hK1.drewN _).setCell hg1 _).setCell hg1 _ | exact ((((hK1.drewN _).drewN _)).setCell hg1 _).setCell hg1 _, by first | exact HST.out _ hr | exact HST.out _ (((Kept.refl _).drewN _).row hr) | exact HST.out _ ((((Kept.refl _).drewN _).drewN _).row hr), hpm2⟩
        · obtain rfl : j = m1 := by omega
          have s5' : (j : Int) < (len1 : Int) → ¬ (j : Int) < 20 := by omega
          have hTz := Lib.hid (HT.out.kept hK1)
          have hCr := Lib.hid hr
          have HBp := Lib.hid (HB.out p q hpm.out)
          have HDp := Lib.hid (HD.out p q hpm.out)
          have hpl : Hid (∀ t, t < i → p t < i) := fun t ht => (hpm.out t ht).1
          obtain ⟨P, HP⟩ : ∃ P : Nat → Bool, Hid (P = mmP i p (fun t => benX len2 Z2 t % 2 == 1)) := ⟨_, rfl⟩
          have hPat : Hid (∀ t u, u < i → P (t * i + u) = (pop (u &&& p t) % 2 == 1 ^^ benX len2 Z2 t % 2 == 1)) := fun t u hu => by rw [HP.out, mmP_at hu]; rfl
          have hB1 := HBp.out (fun t => benX len2 Z2 t % 2 == 1)
          have hD1 := HDp.out (fun t => benX len2 Z2 t % 2 == 1)
          rw [← HP.out] at hB1 hD1
          obtain ⟨N, HNz⟩ : ∃ N : Nat, Hid (N = i * i) := ⟨_, rfl⟩
          have hN64 : N ≤ 64 := by rw [HNz.out]; exact Nat.le_trans (Nat.mul_le_mul hz8 hz8) (by decide)
          have hN1 : 1 ≤ N := by rw [HNz.out]; exact Nat.mul_le_mul hz1' hz1'
          rw [← HNz.out] at hB1 hD1 h4
          have BN := Lib.hid (fun W (h : TzAt W) => Bent_row W N P h hN1 hN64 h4 hB1)
          obtain ⟨TT, HTT⟩ : ∃ TT : Nat → Int, Hid (TT = trN N (fun t => sg (P t))) := ⟨_, rfl⟩
          rw [← HTT.out] at hD1
          have BD := Lib.hid (fun W (h : TzAt W) => Bent_row W N (dualP TT) h hN1 hN64 h4 hD1)
          have SN := Lib.hid (fun W => rSigns_any W (rowS N P) N (rowS_size _ _) (by omega))
          unfold IntsPost at SN
          have hpw0 : 0 ≤ pwr N := by unfold is4 at h4; simp only [Bool.and_eq_true, decide_eq_true_eq] at h4; exact h4.1
          have htc : trC N (sgS (rowS N P)) = 0 := by
            unfold trC
            rw [if_neg (by omega), if_neg (by omega), allN_true.2 (fun k _ => decide_eq_true (by have := sgS_le (rowS N P) k; omega))]
            rfl
          have TR := Lib.hid (fun W v (h : IntsAt W v N (sgS (rowS N P))) => Transform_any W v N _ h (by omega))
          unfold TrAns at TR
          simp only [htc, if_true] at TR
          have htt : trN N (sgS (rowS N P)) = TT := by
            rw [HTT.out]
            funext k
            exact trN_congr (fun m hm => sgS_row hm) k
          rw [htt] at TR
          clear HBp HDp HB HD hB1 hD1 HTT htc htt hpw0 h4 hpm hr HP
          by_cases hl : (j : Int) < (len1 : Int)
          all_goals
            (try have s6 := s5' hl)
            obtain ⟨Wx, rfl⟩ : ∃ Wx : World, Wx = wr := ⟨_, rfl⟩
            go_wp2_with fail
            go_loopg [14, 15] i (fun g s14 s15 wr => ∃ t : Nat, t ≤ i ∧ g = i - t ∧ s14 = .string (rowS (t * i) P) ∧ s15 = .int .i64 t ∧ Wx = wr)
            case atStart => exact ⟨0, Nat.zero_le _, rfl, by rw [Nat.zero_mul]; rfl, rfl, rfl⟩
            case round =>
              obtain ⟨t, ht, rfl, rfl, rfl, rfl⟩ := hrel
              by_cases hltt : t < i
              · have r3 : (t : Int) < (i : Int) := by omega
                have r4 : (0 : Int) ≤ (t : Int) := by omega
                have y0 := hCr.out.cell (show t < N1 by omega)
                simp only [if_pos hltt] at y0
                have hptl := hpl.out t hltt
                have hPt := Lib.hid (hPat.out t)
                have hti : t * i + i ≤ 64 := by
                  have : (t + 1) * i ≤ 8 * 8 := Nat.mul_le_mul (by omega) hz8
                  rw [Nat.succ_mul] at this
                  exact this
                have hnext : Hid (t * i + i = (t + 1) * i) := by show _ = _; rw [Nat.succ_mul]
                generalize p t = pt at *
                obtain ⟨Q, HQQ⟩ : ∃ Q : Nat, Hid (Q = t * i) := ⟨_, rfl⟩
                rw [← HQQ.out] at hPt hti hnext ⊢
                obtain ⟨xx, HXX⟩ : ∃ xx, Hid (xx = benX len2 Z2 t) := ⟨_, rfl⟩
                rw [← HXX.out] at hPt
                go_wp2_with fail
                go_loopg [14, 16] i (fun g s14 s16 wr => ∃ u : Nat, u ≤ i ∧ g = i - u ∧ s14 = .string (rowS (Q + u) P) ∧ s16 = .int .i64 u ∧ Wx = wr)
                case atStart => exact ⟨0, Nat.zero_le _, rfl, rfl, rfl, rfl⟩
                case round =>
                  obtain ⟨u, hu, rfl, rfl, rfl, rfl⟩ := hrel
                  by_cases hltu : u < i
                  · have r5 : (u : Int) < (i : Int) := by omega
                    have hv := and_lt (i := u) (j := pt) (by omega)
                    have eand := and64 u pt (by omega) (by omega)
                    have hPu := hPt.out u hltu
                    obtain ⟨v0, HV⟩ : ∃ v0, v0 = u &&& pt := ⟨_, rfl⟩
                    rw [← HV] at hv eand hPu
                    have HPu := Lib.hid hPu
                    clear HV hPu
                    go_wp2_with fail
                    go_loopg [17, 18] 7 (fun g s17 s18 wr => ∃ f v c : Nat, f = g ∧ f ≤ 7 ∧ v < 2 ^ f ∧ c + f ≤ 7 ∧ Hid (c + popF f v = pop v0) ∧ s17 = .int .i64 c ∧ s18 = .int .i64 v ∧ Wx = wr)
                    case atStart => exact ⟨7, v0, 0, rfl, Nat.le_refl _, hv, by omega, by show _ = _; rw [Nat.zero_add]; rfl, rfl, rfl, rfl⟩
                    case round =>
                      obtain ⟨f, v, c, rfl, hg, hvg, hcg, hp, rfl, rfl, rfl⟩ := hrel
                      by_cases h0 : v = 0
                      · subst h0
                        have hc7 : c ≤ 7 := by omega
                        have hcp : Hid (pop v0 = c) := by show _ = _; rw [← hp.out, popF_zero]; omega
                        clear hp hvg
                        have hszR : (rowS (Q + u) P).size = Q + u := rowS_size _ _
                        have hsn := Lib.hid (row_snoc (Q + u) P)
                        have hpb := pm_bit (P (Q + u))
                        have hTs : (rowS 1 (fun _ => P (Q + u))).size = 1 := rowS_size _ _
                        unfold pmS at hpb
                        have s15' : ¬ 9223372036854775807 < Q + u + 1 := by omega
                        obtain ⟨R', HR'⟩ : ∃ R', R' = rowS (Q + u + 1) P := ⟨_, rfl⟩
                        rw [← HR'] at hsn
                        obtain ⟨y, HY⟩ : ∃ y : Nat, Hid (y = c + xx) := ⟨_, rfl⟩
                        obtain ⟨q2, HQ2⟩ : ∃ q2 : Nat, Hid (q2 = y % 2) := ⟨_, rfl⟩
                        have hq2 : q2 < 2 := by rw [HQ2.out]; omega
                        have et2 : Int.tmod (y : Int) 2 = (q2 : Int) := by rw [HQ2.out]; exact (Int.ofNat_tmod y 2).symm
                        have hbd : P (Q + u) = (q2 == 1) := by rw [HPu.out, hcp.out, HQ2.out, HY.out, odd_add]
                        have hyl : y ≤ 300 := by
                          rw [HY.out]
                          have : xx < 256 := by
                            rw [HXX.out]
                            unfold benX
                            by_cases e : t < len2
                            · rw [if_pos e]; exact HZ2.out t
                            · rw [if_neg e]; omega
                          omega
                        obtain ⟨bb, HBB⟩ : ∃ bb, bb = P (Q + u) := ⟨_, rfl⟩
                        simp only [← HBB] at hpb hTs hsn hbd
                        have hqv : (q2 : Int) = if bb then 1 else 0 := by
                          cases bb
                          · have h1 : q2 ≠ 1 := fun e => by simp [e] at hbd
                            have : q2 = 0 := by omega
                            simp [this]
                          · have : q2 = 1 := by simpa using hbd.symm
                            simp [this]
                        rw [hqv] at et2
                        clear HBB hbd hqv HQ2 hcp HPu
                        by_cases hlx : t < len2
                        · have r6 : (t : Int) < (len2 : Int) := by omega
                          obtain rfl := ha2 (by omega)
                          have t0 := hK1.cellSome (C2.out t hlx)
                          (try dsimp only at t0)
                          have hxx : xx = Z2 t := by rw [HXX.out]; unfold benX; rw [if_pos hlx]
                          have hz := HZ2.out t
                          rw [← hxx] at t0 hz
                          have ey : (c : Int) + (xx : Int) = (y : Int) := by rw [HY.out]; omega
                          have v1 : IntKind.i64.wrap (xx : Int) = (xx : Int) := IntWalk.i64_in _ (by omega)
                          clear HY hxx HXX
                          cases bb with
                          | true =>
                            simp only [if_true] at hpb et2
                            generalize rowS 1 (fun _ => true) = T1 at *
                            generalize rowS (Q + u) P = R at *
                            go_wp2_with fail
                            go_roundg (i - (u + 1))
                            case measure => omega
                            case rel => exact ⟨u + 1, by omega, rfl, by first | (rw [show Q + (u + 1) = Q + u + 1 from rfl, ← HR', hsn.out]) | (rw [show Q + (u + 1) = Q + u + 1 from rfl, ← HR', hsn.out]; rfl), by first | rfl | go_num, rfl⟩
                          | false =>
                            simp only [Bool.false_eq_true, if_false] at hpb et2
                            generalize rowS 1 (fun _ => false) = T1 at *
                            generalize rowS (Q + u) P = R at *
                            go_wp2_with fail
                            go_roundg (i - (u + 1))
                            case measure => omega
                            case rel => exact ⟨u + 1, by omega, rfl, by first | (rw [show Q + (u + 1) = Q + u + 1 from rfl, ← HR', hsn.out]) | (rw [show Q + (u + 1) = Q + u + 1 from rfl, ← HR', hsn.out]; rfl), by first | rfl | go_num, rfl⟩
                        · have r6 : ¬ (t : Int) < (len2 : Int) := by omega
                          have hxx : xx = 0 := by rw [HXX.out]; unfold benX; rw [if_neg hlx]
                          have hcy : y = c := by rw [HY.out, hxx]; omega
                          rw [hcy] at et2
                          clear HY hxx hcy HXX
                          cases bb with
                          | true =>
                            simp only [if_true] at hpb et2
                            generalize rowS 1 (fun _ => true) = T1 at *
                            generalize rowS (Q + u) P = R at *
                            go_wp2_with fail
                            go_roundg (i - (u + 1))
                            case measure => omega
                            case rel => exact ⟨u + 1, by omega, rfl, by first | (rw [show Q + (u + 1) = Q + u + 1 from rfl, ← HR', hsn.out]) | (rw [show Q + (u + 1) = Q + u + 1 from rfl, ← HR', hsn.out]; rfl), by first | rfl | go_num, rfl⟩
                          | false =>
                            simp only [Bool.false_eq_true, if_false] at hpb et2
                            generalize rowS 1 (fun _ => false) = T1 at *
                            generalize rowS (Q + u) P = R at *
                            go_wp2_with fail
                            go_roundg (i - (u + 1))
                            case measure => omega
                            case rel => exact ⟨u + 1, by omega, rfl, by first | (rw [show Q + (u + 1) = Q + u + 1 from rfl, ← HR', hsn.out]) | (rw [show Q + (u + 1) = Q + u + 1 from rfl, ← HR', hsn.out]; rfl), by first | rfl | go_num, rfl⟩
                      · obtain ⟨f, rfl⟩ : ∃ f', f = f' + 1 := ⟨f - 1, by
                          rcases Nat.eq_zero_or_pos f with e | e
                          · subst e; simp at hvg; omega
                          · omega⟩
                        have r7 : (v : Int) > 0 := by omega
                        have hp2 : Hid (c + v % 2 + popF f (v / 2) = pop v0) := by show _ = _; rw [← hp.out]; simp only [popF]; omega
                        have hv2 : v / 2 < 2 ^ f := by rw [Nat.pow_succ] at hvg; omega
                        obtain ⟨q2, HQ2⟩ : ∃ q2 : Nat, Hid (q2 = v % 2) := ⟨_, rfl⟩
                        obtain ⟨v2, HV2⟩ : ∃ v2 : Nat, Hid (v2 = v / 2) := ⟨_, rfl⟩
                        have hq2 : q2 < 2 := by rw [HQ2.out]; omega
                        have et2 : Int.tmod (v : Int) 2 = (q2 : Int) := by rw [HQ2.out]; exact (Int.ofNat_tmod v 2).symm
                        have ed2 : Int.tdiv (v : Int) 2 = (v2 : Int) := by rw [HV2.out]; exact (Int.ofNat_tdiv v 2).symm
                        rw [← HQ2.out, ← HV2.out] at hp2
                        rw [← HV2.out] at hv2
                        have hvs : v < 128 := by
                          have : 2 ^ (f + 1) ≤ 2 ^ 7 := Nat.pow_le_pow_right (by omega) hg
                          omega
                        have hus : v2 < 128 := by rw [HV2.out]; omega
                        clear hp HQ2 HV2 hvg
                        go_wp2_with fail
                        go_roundg f
                        case measure => omega
                        case rel => exact ⟨f, v2, c + q2, rfl, by omega, hv2, by omega, hp2, by first | rfl | go_num, by first | rfl | go_num, rfl⟩
                  · obtain rfl : u = i := by omega
                    have r5 : ¬ (u : Int) < (u : Int) := by omega
                    go_wp2_with fail
                    go_roundg (u - (t + 1))
                    case measure => omega
                    case rel => exact ⟨t + 1, by omega, rfl, by rw [hnext.out], by first | rfl | go_num, rfl⟩
              · obtain rfl : t = i := by omega
                have r3 : ¬ (t : Int) < (t : Int) := by omega
                rw [← HNz.out]
                have hRs : (rowS N P).size = N := rowS_size _ _
                obtain ⟨R, HRR⟩ : ∃ R, Hid (R = rowS N P) := ⟨_, rfl⟩
                rw [← HRR.out] at BN SN TR hRs ⊢
                clear HRR hPat HNz C1 C2 hCr hpl
                go_wp2_with (first
                  | (go_at_call 39; refine (BN.out _ hTz.out).mono ?_; clear BN; rintro e w3 ⟨hk3, rfl⟩)
                  | (go_at_call 50; refine (SN.out _).mono ?_; rintro e w4 ⟨v4, rfl, hk4, hO4⟩; obtain ⟨va4, vc4, rfl⟩ := own_shape hO4)
                  | (go_at_call 36; refine (TR.out _ _ (ints_own hO4)).mono ?_; rintro e w5 ⟨hk5, r, rfl, hr5, hw5⟩)
                  | (go_at_call 20; refine (LV.out _).mono ?_; rintro e w6 ⟨rfl, hk6⟩))
                have HW := Lib.hid (hk6.row hw5)
                have hTz6 := Lib.hid (hTz.out.kept (hk3.trans (hk4.trans (hk5.trans hk6))))
                have hK6 := hK1.trans (hk3.trans (hk4.trans (hk5.trans hk6)))
                clear hw5 hO4 hk3 hk4 hk5 hk6 TR SN LV
                go_loopg [23, 24] N (fun g s23 s24 wr => ∃ d : Nat, d ≤ N ∧ g = N - d ∧ s23 = .string (rowS d (dualP TT)) ∧ s24 = .int .i64 d ∧ w6 = wr)
                case atStart => exact ⟨0, Nat.zero_le _, rfl, rfl, rfl, rfl⟩
                case round =>
                  obtain ⟨d, hd, rfl, rfl, rfl, rfl⟩ := hrel
                  have hszd : (rowS d (dualP TT)).size = d := rowS_size _ _
                  by_cases hltd : d < N
                  · have r5 : (d : Int) < (N : Int) := by omega
                    have r6 : (0 : Int) ≤ (d : Int) := by omega
                    have t0 := HW.out.cell hltd
                    (try dsimp only at t0)
                    have hsn := Lib.hid (row_snoc d (dualP TT))
                    obtain ⟨R', HR'⟩ : ∃ R', R' = rowS (d + 1) (dualP TT) := ⟨_, rfl⟩
                    rw [← HR'] at hsn
                    have r7 : ¬ 9223372036854775807 < d + 1 := by omega
                    by_cases hpos : 0 < TT d
                    · have hres : Hid (R' = rowS d (dualP TT) ++ ⟨#[43]⟩) := by
                        show _ = _
                        rw [hsn.out, show dualP TT d = false by unfold dualP; rw [decide_eq_true hpos]; rfl]
                        rfl
                      have r8 : TT d > 0 := hpos
                      clear hsn
                      generalize TT d = x at *
                      generalize rowS d (dualP TT) = RR at *
                      go_wp2_with fail
                      go_roundg (N - (d + 1))
                      case measure => omega
                      case rel => exact ⟨d + 1, by omega, rfl, by rw [← HR', hres.out], by first | rfl | go_num, rfl⟩
                    · have hres : Hid (R' = rowS d (dualP TT) ++ ⟨#[45]⟩) := by
                        show _ = _
                        rw [hsn.out, show dualP TT d = true by unfold dualP; rw [decide_eq_false hpos]; rfl]
                        rfl
                      have r8 : ¬ TT d > 0 := hpos
                      clear hsn
                      generalize TT d = x at *
                      generalize rowS d (dualP TT) = RR at *
                      go_wp2_with fail
                      go_roundg (N - (d + 1))
                      case measure => omega
                      case rel => exact ⟨d + 1, by omega, rfl, by rw [← HR', hres.out], by first | rfl | go_num, rfl⟩
                  · obtain rfl : d = N := by omega
                    have r5 : ¬ (d : Int) < (d : Int) := by omega
                    go_wp2_with (first
                      | (go_at_call 39; refine (BD.out _ hTz6.out).mono ?_; rintro e w7 ⟨hk7, rfl⟩))
                    go_ret
                    exact ⟨rfl, hK6.trans hk7⟩
end Go.Proofs.YtofgadehblpoiaaDoor
