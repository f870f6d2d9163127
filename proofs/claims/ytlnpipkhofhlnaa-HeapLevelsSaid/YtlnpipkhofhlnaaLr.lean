/-
  The reference's Levels.
-/
import Derived.Test.YtlnpipkhofhlnaaLq
import Derived.Test.YtlnpipkhofhlnaaIk
namespace Go.Proofs.Ytlnpipkhofhlnaa
open Go.RowKit Go.Deep

def RLevPost (w : World) (n : Nat) (A B : Nat → Int) (m : Nat) (e : Ending) (w' : World) : Prop :=
  ∃ v, e = .returned v ∧ Kept w w' ∧ IntsAt w' v (topL (degN A B m) m (n - 1) + 1) (fun t => ((hist (degN A B m) (btwN A B m) m (n - 1) (prodN (degT (degN A B m)) (n - 1)) t : Nat) : Int))
theorem ints_succ (f : Nat → Int) (t : Nat) : ints f (t + 1) = ints f t ++ [.int .i64 (f t)] := by simp [ints, List.range_succ]
set_option maxRecDepth 100000 in
set_option maxHeartbeats 8000000 in
theorem levels_ref (w : World) (n m : Nat) (ea : Option Addr) (ecap : Nat) (A B : Nat → Int) (hE : PairsAt w (.slice ea m ecap) m A B) (ok : YardOk n (degN A B m) (btwN A B m)) {p : Nat → Nat} (hp : Ranked n (btwN A B m) p) (hds : sumN (degN A B m) n = 2 * m) (hm : m ≤ 20) (hP : prodN (degT (degN A B m)) (n - 1) ≤ 100000) :
    Calls Try.prog 23 #[.int .i64 n, .slice ea m ecap] w (RLevPost w n A B m) := by
  have hn2 := ok.n2
  have hn8 := ok.n8
  have hn1 : 1 ≤ n := by omega
  obtain ⟨D, HDD⟩ : ∃ D, Hid (D = degN A B m) := ⟨_, rfl⟩
  obtain ⟨J, HJJ⟩ : ∃ J, Hid (J = btwN A B m) := ⟨_, rfl⟩
  obtain ⟨N, HN⟩ : ∃ N, Hid (N = n - 1) := ⟨_, rfl⟩
  have hall := all_ref w n m (.slice ea m ecap) A B hE ok hm
  unfold AllPost at hall
  unfold RLevPost
  rw [← HDD.out] at ok hds hP hall ⊢
  rw [← HJJ.out] at ok hp hall ⊢
  rw [← HN.out] at hP hall ⊢
  have hnN : n = N + 1 := by rw [HN.out]; omega
  have ok1 : YardOk (N + 1) D J := by rw [← hnN]; exact ok
  have hp1 : Ranked (N + 1) J p := by rw [← hnN]; exact hp
  have hds1 : sumN D (N + 1) = 2 * m := by rw [← hnN]; exact hds
  have hN7 : N ≤ 7 := by omega
  have h1 : ∀ j, j < N → 1 ≤ degT D j := fun j hj => ok1.D1 (j + 1) (by omega) (by omega)
  have hlP : lexP D N = prodN (degT D) N := by
    have := both_orders (D := degT D) (n := N) (fun _ => 1) h1
    have h2 : ∀ k, sumN (fun _ => 1) k = k := fun k => by induction k with | zero => rfl | succ k ih => simp only [sumN]; omega
    rw [h2, h2] at this
    exact this
  obtain ⟨RL, HRL⟩ : ∃ RL, Hid (RL = recL J D N (lexP D N)) := ⟨_, rfl⟩
  obtain ⟨q, HQ⟩ : ∃ q, Hid (q = RL.length) := ⟨_, rfl⟩
  rw [← HRL.out] at hall
  have hq : q ≤ 100000 := by rw [HQ.out, HRL.out]; have := recL_len J D N (lexP D N); omega
  obtain ⟨T, HT⟩ : ∃ T, Hid (T = topK D m N RL) := ⟨_, rfl⟩
  obtain ⟨C, HC⟩ : ∃ C, Hid (C = cntK D m N RL) := ⟨_, rfl⟩
  obtain ⟨lv, HLV⟩ : ∃ lv, Hid (lv = lvK D m N RL) := ⟨_, rfl⟩
  have hT0 : T 0 = 0 := by rw [HT.out]; rfl
  have HTS : Hid (∀ k, T (k + 1) = max (T k) (lv k + 1)) := fun k => by rw [HT.out, HLV.out]; rfl
  have HCS : Hid (∀ k t, C (k + 1) t = C k t + if t = lv k then 1 else 0) := fun k t => by rw [HC.out, HLV.out]; exact cntK_succ _ _ _ _ _ _
  have HCL : Hid (∀ k t, C k t ≤ k) := fun k t => by rw [HC.out]; exact cntK_le _ _ _ _ _ _
  have HCT : Hid (∀ k t, T k ≤ t → C k t = 0) := fun k t h => by rw [HC.out]; rw [HT.out] at h; exact cntK_top h
  have HROW : Hid (∀ i x, RL[i]? = some x → (D 0 : Int) - m + sumZ x N = (lv i : Int) ∧ lv i ≤ 200 ∧ ∀ j, j < N → 0 ≤ x j ∧ x j ≤ 20) := fun i x hx => by
    have e1 := lvK_at (D := D) (m := m) (N := N) hx
    rw [HRL.out] at hx
    obtain ⟨j, hj, hf, rfl⟩ := rec_at hx
    have e2 : 0 ≤ levI D m N (lexV D N j) := full_lev ok1 hds1 hf
    have e3 := lev_le (D := D) (m := m) (N := N) (v := lexV D N j) (fun i hi => lexV_lt h1 hi)
    have e4 := lev_bd (m := m) ok1 hN7
    rw [HLV.out, e1]
    refine ⟨(Int.toNat_of_nonneg e2).symm, ?_, fun i hi => ?_⟩
    · show (levI D m N (lexV D N j)).toNat ≤ 200; omega
    have e5 := lexV_lt (k := j) h1 hi
    have e6 := ok1.D20 (i + 1) (by omega)
    unfold degT at e5
    constructor
    · exact Int.natCast_nonneg _
    · show ((lexV D N j i : Nat) : Int) ≤ 20
      have : lexV D N j i ≤ 20 := by omega
      omega
  have HTB : Hid (T q = topL D m N + 1) := by rw [HT.out, HQ.out, HRL.out]; exact rec_top ok1 hp1
  have HCB : Hid (∀ t, C q t = hist D J m N (prodN (degT D) N) t) := fun t => by rw [HC.out, HQ.out, HRL.out]; exact rec_hist h1
  have HT0 := Lib.hid hT0
  have hd0 := ok1.D20 0 (by omega)
  obtain ⟨d0, HD0⟩ : ∃ d0, Hid (d0 = deg A B m (0 : Int)) := ⟨_, rfl⟩
  have hdd0 : D 0 = d0 := by rw [HDD.out, HD0.out]; rfl
  rw [hdd0] at hd0
  have HDD0 := Lib.hid hdd0
  have s0 : IntKind.i64.wrap ((d0 : Int) - (m : Int)) = (d0 : Int) - (m : Int) := IntWalk.i64_in _ (by omega)
  obtain ⟨i0, hi, hz0, hz1, hz2⟩ := info_parts Try.info3
  clear hnN ok1 hp1 hds1 h1 hlP hT0 hdd0 hds hP hp
  go_enter Try.func23, Try.ntmps23
  go_wp2_with fail
  refine hall.mono ?_
  clear hall
  rintro e w1 ⟨v, rfl, hK1, hTab⟩
  obtain ⟨us, hus, hrows⟩ := hTab.read
  rw [← HQ.out] at hus
  have hR : ∀ i, i < q → ∃ (a : Option Addr) (cap : Nat) (x : Nat → Int), us i = .slice a N cap ∧ w1.ownsRow (w.heap.size + 2) 3 1 (us i) N (ints x N) ∧ RL[i]? = some x := fun i hi => by
    have hx : RL[i]? = some (RL[i]'(by rw [← HQ.out]; exact hi)) := List.getElem?_eq_getElem _
    have h2 := hrows i _ hx
    obtain ⟨a, cap, h3⟩ := own_shape h2
    exact ⟨a, cap, _, h3, h2, hx⟩
  have HR := Lib.hid hR
  obtain ⟨va, vb, vo, vcap, rfl, hva, hvc⟩ := hus
  have HVC := Lib.hid hvc
  have hE1 := hE.kept hK1
  clear hrows hR hvc hTab
  have hO0 := own_zero w1 w1.heap.size (Nat.le_refl _)
  have hk1 : Kept w1 (w1.alloc (.cells #[] 3)) := (Kept.refl w1).alloc _
  go_wp2_with fail
  generalize w1.alloc (.cells #[] 3) = W0 at *
  go_loopg [6, 7] q (fun g s6 s7 wr => ∃ k : Nat, k ≤ q ∧ g = q - k ∧ s7 = .int .i64 (k : Int) ∧ Kept w1 wr ∧ wr.ownsRow w1.heap.size 3 1 s6 (T k) (ints (fun t => ((C k t : Nat) : Int)) (T k)))
  case atStart => exact ⟨0, Nat.zero_le _, rfl, rfl, hk1, by rw [HT0.out]; exact hO0⟩
  case round =>
    obtain ⟨k, hk, rfl, rfl, hK, hO⟩ := hrel
    clear hO0 hk1
    by_cases hlt : k < q
    · obtain rfl := hva (by omega)
      obtain ⟨xa, xcap, x, hux, hxo, hRL⟩ := HR.out k hlt
      obtain ⟨hlv, hlv2, hxb⟩ := HROW.out k x hRL
      have hcell := HVC.out k hlt
      rw [hux] at hcell hxo
      obtain ⟨xb, xcap', hxe, hxl⟩ : ∃ (xb xcap' : Nat), Value.slice xa N xcap = .slice (some ⟨xb, 0, none⟩) N xcap' ∧ xb < w1.heap.size := by
        obtain ⟨b, cap, h1, _, h2⟩ := hxo.form (by have := HN.out; omega)
        exact ⟨b, cap, h1, h2⟩
      cases hxe
      have hxi := ints_at hxo
      have hE2 := hE1.kept hK
      have t0 := hK.cellSome hcell
      obtain ⟨lk, HLK⟩ : ∃ lk, Hid (lk = lv k) := ⟨_, rfl⟩
      rw [← HLK.out] at hlv hlv2
      rw [HDD0.out] at hlv
      have HLV2 := Lib.hid hlv
      have HXB := Lib.hid hxb
      have HXI := Lib.hid hxi
      have s1 : (k : Int) < (q : Int) := by omega
      have s2 : (0 : Int) ≤ (k : Int) := by omega
      clear hux hcell hlv hxb hxo hxi hRL
      go_wp2_with fail
      refine (degree_w _ _ m A B 0 d0 HD0.out hE2 (by omega)).mono ?_
      rintro e w5 ⟨rfl, rfl⟩
      go_wp2_with fail
      obtain ⟨Wo, rfl⟩ : ∃ Wo : World, Wo = wr := ⟨_, rfl⟩
      go_loopg [8, 9] N (fun g s8 s9 wi => ∃ v : Nat, v ≤ N ∧ g = N - v ∧ s9 = .int .i64 (v : Int) ∧ s8 = .int .i64 ((d0 : Int) - m + sumZ x v) ∧ Wo = wi)
      case atStart => exact ⟨0, Nat.zero_le _, rfl, rfl, by simp [sumZ], rfl⟩
      case round =>
        obtain ⟨v, hv, rfl, rfl, rfl, rfl⟩ := hrel
        by_cases hlv : v < N
        · have t1 := hK.cellSome (show w1.cell? ⟨xb, v, none⟩ = some (.int .i64 (x v)) by
            obtain ⟨a2, b2, o2, cap2, e2, h2, h3⟩ := HXI.out
            cases e2
            have := h2 (by omega)
            cases this
            have h4 := h3 v hlv
            rwa [Nat.zero_add] at h4)
          have hxv := HXB.out v hlv
          have hb : 0 ≤ sumZ x v ∧ sumZ x v ≤ 20 * (v : Int) := ⟨sumZ_nonneg (fun i hi => (HXB.out i (by omega)).1), sumZ_bound (fun i hi => (HXB.out i (by omega)).2)⟩
          have he : sumZ x (v + 1) = sumZ x v + x v := rfl
          obtain ⟨S, HS⟩ : ∃ S, Hid (S = sumZ x v) := ⟨_, rfl⟩
          rw [← HS.out] at hb he ⊢
          have HEE := Lib.hid he
          obtain ⟨xv, HXV⟩ : ∃ xv, Hid (xv = x v) := ⟨_, rfl⟩
          rw [← HXV.out] at t1 hxv
          have s3 : IntKind.i64.wrap ((d0 : Int) - m + S + xv) = (d0 : Int) - m + S + xv := IntWalk.i64_in _ (by omega)
          have s4 : (v : Int) < (N : Int) := by omega
          have s5 : (0 : Int) ≤ (v : Int) := by omega
          clear he
          go_wp2_with fail
          go_roundg (N - (v + 1))
          case measure => omega
          case rel => exact ⟨v + 1, by omega, rfl, by go_num, by rw [HEE.out, ← HXV.out]; go_num, rfl⟩
        · obtain rfl : v = N := by omega
          rw [HLV2.out]
          have hTk : Hid (∀ t, t = max (T k) (lk + 1) → t = T (k + 1)) := fun t h => by rw [HTS.out, ← HLK.out]; exact h
          obtain ⟨M, HM⟩ : ∃ M, Hid (M = max (T k) (lk + 1)) := ⟨_, rfl⟩
          have hM1 : T k ≤ M := by rw [HM.out]; omega
          have hM2 : lk + 1 ≤ M := by rw [HM.out]; omega
          have hM3 : M ≤ T k ∨ M ≤ lk + 1 := by
            have h := HM.out
            rcases Nat.le_total (T k) (lk + 1) with h1 | h1
            · rw [Nat.max_eq_right h1] at h; omega
            · rw [Nat.max_eq_left h1] at h; omega
          go_wp2_with fail
          go_loopg [6] (M - T k) (fun g s6 wi => ∃ t : Nat, T k ≤ t ∧ t ≤ M ∧ g = M - t ∧ Kept w1 wi ∧ wi.ownsRow w1.heap.size 3 1 s6 t (ints (fun t => ((C k t : Nat) : Int)) t))
          case atStart => exact ⟨T k, Nat.le_refl _, hM1, rfl, hK, hO⟩
          case round =>
            obtain ⟨t, ht1, ht2, rfl, hKi, hOi⟩ := hrel
            clear hK hO
            obtain ⟨oa, ocap, rfl⟩ := own_shape hOi
            by_cases hle : t ≤ lk
            · have s7 : (t : Int) ≤ (lk : Int) := by omega
              have hz := HCT.out k t ht1
              have HZ := Lib.hid hz
              clear hz
              go_wp2_with (first | (at_builtin; refine wpList_append_own _ rfl _ _ 25 rfl w1.heap.size 3 i0 (.int .i64 0) 1 8 Try.underlying25 hi hz0 hz1 hz2 rfl (by decide) _ _ _ rfl (hOi.alloc _) ⟨wr.heap.size, 0, none⟩ 1 1 [.int .i64 0] rfl rfl ?c1 ?c2 ?c3 ?c4 ?c5 ?_))
              case c1 => exact cell_one_new wr (.int .i64 0) 3
              case c2 => simp [Value.oneCell']
              case c3 => unfold maxLen; omega
              case c4 => omega
              case c5 => have := Kept.size hKi; simp; omega
              intro ov' w2 hO3 hgr _
              have hX := grew_X hgr (hOi.alloc _)
              have hK3 : Kept w1 w2 := (hKi.alloc _).step hX (fun i hi => hi)
              have hO4 : w2.ownsRow w1.heap.size 3 1 ov' (t + 1) (ints (fun t => ((C k t : Nat) : Int)) (t + 1)) := by
                rw [ints_succ]
                show w2.ownsRow w1.heap.size 3 1 ov' (t + 1) (ints (fun t => ((C k t : Nat) : Int)) t ++ [.int .i64 ((C k t : Nat) : Int)])
                rw [HZ.out]
                exact hO3
              clear hO3 hgr hX hKi hOi
              go_wp2_with fail
              go_roundg (M - (t + 1))
              case measure => omega
              case rel => exact ⟨t + 1, by omega, by omega, rfl, hK3, hO4⟩
            · obtain rfl : t = M := by omega
              have hTT := hTk.out t HM.out
              have HTT := Lib.hid hTT
              have s7 : ¬ (t : Int) ≤ (lk : Int) := by omega
              obtain ⟨b, cap2, he, hbb, hbl⟩ := hOi.form (by omega)
              cases he
              have u1 := hOi.cellAt lk (by omega)
              have u2 := hOi.frozenAt lk
              rw [ints_some _ (by omega)] at u1
              have hcl := HCL.out k lk
              have hcs := HCS.out k
              have HCS2 := Lib.hid hcs
              obtain ⟨c0, HC0⟩ : ∃ c0, Hid (c0 = C k lk) := ⟨_, rfl⟩
              have u1' : wr.cell? ⟨b, lk, none⟩ = some (.int .i64 (c0 : Int)) := by rw [HC0.out]; exact u1
              rw [← HC0.out] at hcl
              have s8 : IntKind.i64.wrap ((c0 : Int) + 1) = (c0 : Int) + 1 := IntWalk.i64_in _ (by omega)
              have s9 : (lk : Int) < (t : Int) := by omega
              have s10 : (0 : Int) ≤ (lk : Int) := by omega
              clear hTT hcs u1
              go_wp2_with fail
              have hO5 := (hOi.stored lk (.int .i64 ((c0 : Int) + 1))).1
              rw [ints_set] at hO5
              have hO6 : (wr.setCell ⟨b, lk, none⟩ (.int .i64 ((c0 : Int) + 1))).ownsRow w1.heap.size 3 1 (.slice (some ⟨b, 0, none⟩) t ocap) (T (k + 1)) (ints (fun t => ((C (k + 1) t : Nat) : Int)) (T (k + 1))) := by
                rw [← HTT.out, ints_congr (g := fun i => if i = lk then ((c0 : Int) + 1) else ((C k i : Nat) : Int)) (fun i hi => by
                  show ((C (k + 1) i : Nat) : Int) = _
                  rw [HCS2.out, ← HLK.out]
                  by_cases e : i = lk
                  · subst e; rw [if_pos rfl, if_pos rfl, HC0.out]; rfl
                  · rw [if_neg e, if_neg e]; rfl)]
                exact hO5
              have hK6 : Kept w1 (wr.setCell ⟨b, lk, none⟩ (.int .i64 ((c0 : Int) + 1))) := hKi.setCell (p := ⟨b, lk, none⟩) hbb _
              clear hO5 hOi hKi u1' u2
              go_roundg (q - (k + 1))
              case measure => omega
              case rel => exact ⟨k + 1, by omega, rfl, by go_num, hK6, hO6⟩
    · obtain rfl : k = q := by omega
      go_wp2_with fail
      go_ret
      exact ⟨_, rfl, hK1.trans hK, by rw [← HTB.out]; exact (ints_at hO).congr (fun i hi => by show Value.int .i64 ((C k i : Nat) : Int) = _; rw [HCB.out])⟩
end Go.Proofs.Ytlnpipkhofhlnaa
