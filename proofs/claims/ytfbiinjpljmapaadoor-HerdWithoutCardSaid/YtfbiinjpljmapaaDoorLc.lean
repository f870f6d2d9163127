/-
  The law's signed, walked.
-/
import Derived.Test.YtfbiinjpljmapaaDoorLb
import Derived.RegionTactic
import Derived.BigRegion
namespace Go.Proofs.YtfbiinjpljmapaaDoor
open Go.RowKit Go.Deep Go.Shelf

/-- the function value answers P, at the first n numbers, in every world in which what lay lies unturned -/
def FnAt (c : Nat) (lb : Array Value) (n : Nat) (p : Nat → Bool) (w : World) : Prop :=
  ∀ (W : World) (i : Nat), i < n → Kept w W → Calls Tryd.prog c (#[.int .i64 (i : Int)] ++ lb) W fun e w' => e = .returned (.bool (p i)) ∧ Quiet W w'
theorem zsum_le (c : Nat → Nat) (k : Nat) : ∀ B : Nat, (∀ i, i < k → c i ≤ B) → -((k * B : Nat) : Int) ≤ zsum (fun i => (c i : Int) * sg i) k ∧ zsum (fun i => (c i : Int) * sg i) k ≤ ((k * B : Nat) : Int) := by
  induction k with
  | zero => intro B _; simp [zsum]
  | succ k ih =>
    intro B h
    have h1 := ih B (fun i hi => h i (by omega))
    have h2 := h k (by omega)
    simp only [zsum]
    rw [Nat.succ_mul]
    have h3 : (c k : Int) * sg k = (c k : Int) ∨ (c k : Int) * sg k = -(c k : Int) := by
      unfold sg
      split
      · left; omega
      · right; omega
    omega
theorem own_form0 {w : World} {base e : Nat} {v : Value} {n : Nat} {xs : List Value} (h : w.ownsRow base e 1 v n xs) : ∃ a cap, v = .slice a n cap := own_shape h
set_option maxRecDepth 100000 in
set_option maxHeartbeats 16000000 in
theorem signed_any (w : World) (v : Value) (n : Nat) (F : Nat → Nat → Bool) (hG : GridAt w v n F) (hn : n ≤ 9) (P : Nat → Bool) (c : Nat) (lb : Array Value) (eg : ∀ args w, (callFunc c args).run Tryd.prog w = .ok (.enter c args) w) (hC : FnAt c lb n P w) (hs : Sym F n) :
    Calls Tryd.prog 30 #[v, .func (.func c) #[] lb] w fun e w' => e = .returned (.tuple #[.int .i64 (al F n P), .bool true]) ∧ Kept w w' := by
  obtain ⟨i0, hi0, hz0, hz1, hz2⟩ := info_parts Tryd.info3
  obtain ⟨ip, gi, gz0, gz1, gz2⟩ := info_parts Tryd.infoPair
  have HC := Lib.hid hC
  obtain ⟨g, gcap, R, rfl, hG⟩ := hG
  have hll := filt_len P n
  have hsum := fun H hH => ind_sum (P := P) hs hn H hH
  have hadj := fun i j hi hj => ind_adj (P := P) hs (i := i) (j := j) hi hj
  have HSUM := Lib.hid (hsum _ hadj)
  have hnil : Hid ((filt P n).length = 0 → al F n P = 1) := fun h0 => by
    refine al_none n P fun i hi => ?_
    cases e : P i with
    | false => rfl
    | true =>
      have : i ∈ filt P n := List.mem_filter.2 ⟨List.mem_range.2 hi, e⟩
      rw [List.length_eq_zero_iff.1 h0] at this
      simp at this
  have hfs := Lib.hid (filt_succ P)
  have hfl := Lib.hid (filt_len P)
  clear hC hsum hadj hs
  go_enter Tryd.func30, Tryd.ntmps30
  go_wp2_with fail
  go_loopg [6, 7] n (fun q s6 s7 wr => ∃ i : Nat, i ≤ n ∧ q = n - i ∧ s7 = .int .i64 i ∧ Kept w wr ∧ wr.ownsRow w.heap.size 3 1 s6 (filt P i).length (nats (filt P i)))
  case atStart => exact ⟨0, Nat.zero_le _, rfl, by first | rfl | go_num, (Kept.refl w).alloc _, own_zeroP w w.heap.size 3 1 (Nat.le_refl _)⟩
  case round =>
    obtain ⟨i, hi, rfl, rfl, hK, hO⟩ := hrel
    by_cases hlt : i < n
    · have s1 : (i : Int) < (n : Int) := by omega
      have hsz := hK.size
      have cS := HC.out wr i hlt hK
      obtain ⟨pb, HPB⟩ : ∃ b, Hid (b = P i) := ⟨_, rfl⟩
      rw [← HPB.out] at cS
      have CS := Lib.hid cS
      have hnx := Lib.hid (hfs.out i)
      have hln := hfl.out i
      rw [← HPB.out] at hnx
      obtain ⟨l, HL⟩ : ∃ l, Hid (l = filt P i) := ⟨_, rfl⟩
      rw [← HL.out] at hO hnx hln
      obtain ⟨va, vcap, rfl⟩ := own_shape hO
      clear cS HPB HL
      cases pb with
      | false =>
        have hN : Hid (filt P (i + 1) = l) := by show _ = _; rw [hnx.out]; simp
        go_wp2_with (go_at_fn c; refine CS.out.mono ?_; rintro e w2 ⟨rfl, hq2⟩)
        go_roundg (n - (i + 1))
        case measure => omega
        case rel => exact ⟨i + 1, by omega, rfl, by first | rfl | go_num, hK.trans hq2.kept, by rw [hN.out]; exact own_kept hO hq2.kept⟩
      | true =>
        have hN : Hid (filt P (i + 1) = l ++ [i]) := by show _ = _; rw [hnx.out]; simp
        go_wp2_with (first | (go_at_fn c; refine CS.out.mono ?_; rintro e w2 ⟨rfl, hq2⟩; have hO2 := own_kept hO hq2.kept; have hK2 := hK.trans hq2.kept; have hsz2 := hq2.kept.size) | (at_builtin; refine wpList_append_own _ rfl _ _ 27 rfl w.heap.size 3 i0 (.int .i64 0) 1 8 Tryd.underlying27 hi0 hz0 hz1 hz2 rfl (by decide) _ _ _ rfl (hO2.alloc _) ⟨_, 0, none⟩ 1 1 [.int .i64 (i : Int)] rfl rfl ?c1 ?c2 ?c3 ?c4 ?c5 ?_))
        case c1 => exact one_new _ _ (by simp) _ _
        case c2 => simp [Value.oneCell']
        case c3 => unfold maxLen; omega
        case c4 => omega
        case c5 => first | omega | (simp; omega)
        intro v' w3 hO3 hgr _
        have hK3 : Kept w w3 := (hK2.alloc _).grew hgr (hO2.alloc _) (Nat.le_refl _)
        have hO4 : w3.ownsRow w.heap.size 3 1 v' (filt P (i + 1)).length (nats (filt P (i + 1))) := by
          rw [hN.out, nats_snoc]
          simpa using hO3
        clear hO3 hgr hO2 hO hK2 hK
        go_wp2_with fail
        go_roundg (n - (i + 1))
        case measure => omega
        case rel => exact ⟨i + 1, by omega, rfl, by first | rfl | go_num, hK3, hO4⟩
    · obtain rfl : i = n := by omega
      clear HC hfs hfl
      obtain ⟨l, HL⟩ : ∃ l, Hid (l = filt P i) := ⟨_, rfl⟩
      have hget : Hid (∀ a, a < l.length → l.getD a 0 < i) := fun a ha => by
        rw [HL.out] at ha ⊢
        exact (filt_get ha).1
      rw [← HL.out] at hll HSUM hnil hO
      have hNat := NatsAt.of_own hO
      obtain ⟨va, vcap, rfl⟩ := own_shape hO
      obtain ⟨m, HM⟩ : ∃ m, Hid (m = l.length) := ⟨_, rfl⟩
      have hI : IntsAt wr (.slice va m vcap) m (fun a => ((l.getD a 0 : Nat) : Int)) := by
        rw [HM.out]
        exact hNat
      have hG1 := hG.kept hK
      rw [← HM.out] at hll HSUM hnil hget ⊢
      clear hO hNat HL hG
      by_cases h0 : m = 0
      · subst h0
        have e1 := hnil.out rfl
        go_wp2_with fail
        go_ret2
        exact ⟨rfl, hK⟩
      · have h0' : ((m : Int) == 0) = false := by simp; omega
        have hm1 : 1 ≤ m := by omega
        obtain ⟨a', b, o, cap', e, ha, hcl⟩ := hI
        cases e
        obtain rfl := ha (by omega)
        have HCL := Lib.hid hcl
        clear hcl ha hnil
        obtain ⟨Wl, rfl⟩ : ∃ Wl : World, Wl = wr := ⟨_, rfl⟩
        have hKz := (Kept.refl Wl).alloc (.cells #[] 59)
        have hOz := own_zeroP Wl Wl.heap.size 59 2 (Nat.le_refl _)
        go_wp2_with fail
        go_loopg [8, 9] m (fun q s8 s9 wq => ∃ k : Nat, k ≤ m ∧ q = m - k ∧ s9 = .int .i64 k ∧ Kept Wl wq ∧ wq.ownsRow Wl.heap.size 59 2 s8 (indL F l k).length (prs (indL F l k)))
        case atStart => exact ⟨0, Nat.zero_le _, rfl, by first | rfl | go_num, hKz, hOz⟩
        case round =>
          clear hKz hOz
          obtain ⟨k, hk, rfl, rfl, hK2, hO⟩ := hrel
          by_cases hlt2 : k < m
          · have s1 : (k : Int) < (m : Int) := by omega
            have hnext := Lib.hid (indL_succ F l k)
            have hlen := indL_len F l k
            have ht := triM_le (k := k) (by omega)
            have hms := Lib.hid (indR_succ F l k)
            have hml := Lib.hid (indR_len F l k)
            obtain ⟨pl, HPL0⟩ : ∃ pl, Hid (pl = indL F l k) := ⟨_, rfl⟩
            rw [← HPL0.out] at hO hnext hlen
            obtain ⟨va, vcap, rfl⟩ := own_shape hO
            have hO0 : wr.ownsRow Wl.heap.size 59 2 (.slice va pl.length vcap) (pl ++ indR F l k 0).length (prs (pl ++ indR F l k 0)) := by rw [show indR F l k 0 = [] from rfl, List.append_nil]; exact hO
            have hxk := hget.out k hlt2
            have hck := HCL.out k hlt2
            obtain ⟨x, HX⟩ : ∃ x, Hid (x = l.getD k 0) := ⟨_, rfl⟩
            rw [← HX.out] at hxk hck hms
            clear hO HPL0
            go_wp2_with fail
            go_loopg [8, 10] k (fun q s8 s10 wi => ∃ j : Nat, j ≤ k ∧ q = k - j ∧ s10 = .int .i64 j ∧ Kept Wl wi ∧ wi.ownsRow Wl.heap.size 59 2 s8 (pl ++ indR F l k j).length (prs (pl ++ indR F l k j)))
            case atStart => exact ⟨0, Nat.zero_le _, rfl, by first | rfl | go_num, hK2, hO0⟩
            case round =>
              clear hK2 hO0
              obtain ⟨j, hj, rfl, rfl, hK2, hO⟩ := hrel
              have hsz := hK2.size
              by_cases hji : j < k
              · have s2 : (j : Int) < (k : Int) := by omega
                have hml2 := hml.out j
                have hll2 : (pl ++ indR F l k j).length ≤ 50 := by rw [List.length_append]; omega
                have hstep := Lib.hid (hms.out j)
                have hyj := hget.out j (by omega)
                have hcj := HCL.out j (by omega)
                obtain ⟨y, HY⟩ : ∃ x, Hid (x = l.getD j 0) := ⟨_, rfl⟩
                rw [← HY.out] at hyj hcj hstep
                have t0 := hK2.cellSome hck
                have t1 := hK2.cellSome hcj
                have hG2 := hG1.kept hK2
                have u0 := hG2.sl x hxk
                have y0 := (hG2.rw x hxk).cell (i := y) hyj
                have a0 : (0 : Int) ≤ (x : Int) := by omega
                have a1 : (x : Int) < (i : Int) := by omega
                have a2 : (0 : Int) ≤ (y : Int) := by omega
                have a3 : (y : Int) < (i : Int) := by omega
                have a4 : (0 : Int) ≤ (k : Int) := by omega
                have a5 : (0 : Int) ≤ (j : Int) := by omega
                have a6 : (j : Int) < (m : Int) := by omega
                simp only [slV] at u0
                generalize R x = rx at *
                obtain ⟨fb, HFB⟩ : ∃ b, Hid (b = F x y) := ⟨_, rfl⟩
                rw [← HFB.out] at y0 hstep
                obtain ⟨ql, HPL⟩ : ∃ pl2, Hid (pl2 = pl ++ indR F l k j) := ⟨_, rfl⟩
                rw [← HPL.out] at hO hll2
                obtain ⟨vb, vcap2, rfl⟩ := own_shape hO
                clear HFB hcj
                cases fb with
                | false =>
                  have hN : Hid (pl ++ indR F l k (j + 1) = ql) := by show _ = _; rw [hstep.out, HPL.out]; simp
                  go_wp2_with fail
                  go_quiet (fail)
                  go_wp2_with fail
                  go_roundg (k - (j + 1))
                  case measure => omega
                  case rel => exact ⟨j + 1, by omega, rfl, by first | rfl | go_num, (by repeat (first | assumption | exact Kept.refl _ | apply Kept.drew | apply Kept.drewN | apply Kept.alloc | refine Kept.trans ?_ (by assumption))), by rw [hN.out]; exact own_kept hO (by repeat (first | assumption | exact Kept.refl _ | apply Kept.drew | apply Kept.drewN | apply Kept.alloc | refine Kept.trans ?_ (by assumption)))⟩
                | true =>
                  have hN : Hid (pl ++ indR F l k (j + 1) = ql ++ [(k, j)]) := by show _ = _; rw [hstep.out, HPL.out]; simp
                  go_wp2_with fail
                  go_quiet (fail)
                  have hKd : Kept Wl (wr.drewN nq) := hK2.drewN nq
                  have hOd := own_kept hO ((Kept.refl wr).drewN nq)
                  have hszd := hKd.size
                  generalize wr.drewN nq = wd at *
                  clear hO hK2 hG2 t0 t1 u0 y0
                  go_wp2_with (first | (at_builtin; refine wpList_append_own _ rfl _ _ 22 rfl Wl.heap.size 59 ip (.agg #[.int .i64 0, .int .i64 0]) 2 16 Tryd.underlying22 gi gz0 gz1 gz2 rfl (by decide) _ _ _ rfl (hOd.alloc _) ⟨_, 0, none⟩ 1 1 [.int .i64 (k : Int), .int .i64 (j : Int)] rfl rfl ?d1 ?d2 ?d3 ?d4 ?d5 ?_))
                  case d1 => exact pair_new _ _ (by simp) _ _ _
                  case d2 => simp [Value.oneCell']
                  case d3 => unfold maxLen; omega
                  case d4 => omega
                  case d5 => first | omega | (simp; omega)
                  intro v' w2 hO3 hgr _
                  have hX2 := grew_X hgr (hOd.alloc (.cells #[.int .i64 (k : Int), .int .i64 (j : Int)] 59))
                  have hK4 : Kept Wl w2 := (hKd.alloc _).step hX2 (fun i hi => hi)
                  have hO5 : w2.ownsRow Wl.heap.size 59 2 v' (pl ++ indR F l k (j + 1)).length (prs (pl ++ indR F l k (j + 1))) := by
                    rw [hN.out, prs_snoc]
                    simpa using hO3
                  clear hO3 hX2 hgr hKd hOd
                  go_wp2_with fail
                  go_roundg (k - (j + 1))
                  case measure => omega
                  case rel => exact ⟨j + 1, by omega, rfl, by first | rfl | go_num, hK4, hO5⟩
              · obtain rfl : j = k := by omega
                rw [← hnext.out] at hO
                go_wp2_with fail
                go_roundg (m - (j + 1))
                case measure => omega
                case rel => exact ⟨j + 1, by omega, rfl, by first | rfl | go_num, hK2, hO⟩
          · obtain rfl : k = m := by omega
            obtain ⟨gd, _⟩ := ind_good (F := F) (l := l) (k := k) hm1 (by omega)
            have hlen := indL_len F l k
            have ht := triM_le (k := k) (by omega)
            obtain ⟨va, vcap, rfl⟩ := own_shape hO
            have hPP := PrsAt.of_own hO
            have GR0 := Groups_any wr (k : Int) _ _ (prA (indL F l k)) (prB (indL F l k)) hPP (by omega)
            unfold GroupsAns at GR0
            simp only [if_pos gd, Int.toNat_natCast] at GR0
            have GR := Lib.hid GR0
            have hcle : ∀ t, cntS t (cliq (alongH (prA (indL F l k)) (prB (indL F l k)) (indL F l k).length) k k 0 (allH k)) ≤ 1000000000 := fun t => by
              refine Nat.le_trans (List.length_filter_le _ _) (Nat.le_trans (cliq_len _ k k 0 (allH k)) ?_)
              refine Nat.le_trans (Nat.pow_le_pow_left (show k + 1 ≤ 10 by omega) k) ?_
              exact Nat.pow_le_pow_right (n := 10) (by omega) (show k ≤ 9 by omega)
            have hS16 : size16 (best (alongH (prA (indL F l k)) (prB (indL F l k)) (indL F l k).length) k) ≤ 16 := cnt_le _ _
            obtain ⟨S, HS⟩ : ∃ S, Hid (S = size16 (best (alongH (prA (indL F l k)) (prB (indL F l k)) (indL F l k).length) k)) := ⟨_, rfl⟩
            obtain ⟨C, HCC⟩ : ∃ C : Nat → Nat, Hid (C = fun t => cntS t (cliq (alongH (prA (indL F l k)) (prB (indL F l k)) (indL F l k).length) k k 0 (allH k))) := ⟨_, rfl⟩
            have hCle : Hid (∀ t, C t ≤ 1000000000) := by
              rw [HCC.out]
              exact hcle
            have hCS : Hid (zsum (fun t => (C t : Int) * sg t) (S + 1) = al F i P) := by
              rw [HCC.out, HS.out]
              exact HSUM.out
            have hSb : S ≤ 16 := by rw [HS.out]; exact hS16
            have GR2 : Hid (Calls Tryd.prog 53 #[.int .i64 k, .slice va (indL F l k).length vcap] wr fun e w' => Kept wr w' ∧ ∃ v : Value, e = .returned (.tuple #[v, .int .i64 0]) ∧ IntsAt w' v (S + 1) (fun t => ((C t : Nat) : Int))) := by
              rw [HCC.out, HS.out]
              exact GR.out
            have hKw := hK.trans hK2
            clear GR0 GR gd hPP hlen ht hget HCL HSUM HCC HS hcle hO hK2
            go_wp2_with (first | (go_at_call 53; refine GR2.out.mono ?_; clear GR2; rintro e w5 ⟨hk5, gv, rfl, hgv⟩; obtain ⟨ga, gb, go, gcap2, rfl, hga, hgc⟩ := hgv; obtain rfl := hga (by omega); have HGC := Lib.hid hgc; clear hgc hga))
            have hK5 := hKw.trans hk5
            clear hKw hk5
            go_loopg [13, 14] (S + 1) (fun q s13 s14 wq => ∃ t : Nat, t ≤ S + 1 ∧ q = S + 1 - t ∧ s14 = .int .i64 t ∧ s13 = .int .i64 (zsum (fun t => (C t : Int) * sg t) t) ∧ w5 = wq)
            case atStart => exact ⟨0, Nat.zero_le _, rfl, by first | rfl | go_num, by first | rfl | go_num, rfl⟩
            case round =>
              obtain ⟨t, ht, rfl, rfl, rfl, rfl⟩ := hrel
              by_cases hlt3 : t < S + 1
              · have s1 : (t : Int) < (S : Int) + 1 := by omega
                have t0 := HGC.out t hlt3
                have a0 : (0 : Int) ≤ (t : Int) := by omega
                have hc1 := hCle.out t
                have hz := zsum_le C t 1000000000 (fun i _ => hCle.out i)
                have hnx : Hid (zsum (fun t => (C t : Int) * sg t) (t + 1) = zsum (fun t => (C t : Int) * sg t) t + (C t : Int) * sg t) := rfl
                have hsg : Hid (sg t = if t % 2 = 0 then 1 else -1) := rfl
                obtain ⟨z, HZ⟩ : ∃ z, Hid (z = zsum (fun t => (C t : Int) * sg t) t) := ⟨_, rfl⟩
                rw [← HZ.out] at hz hnx ⊢
                obtain ⟨x, HX⟩ : ∃ x, Hid (x = C t) := ⟨_, rfl⟩
                rw [← HX.out] at t0 hc1 hnx
                have hzb : -100000000000 ≤ z ∧ z ≤ 100000000000 := by
                  have : t * 1000000000 ≤ 17 * 1000000000 := Nat.mul_le_mul_right _ (by omega)
                  omega
                clear hz HZ HX
                rcases Nat.mod_two_eq_zero_or_one t with hp | hp
                · have e1 : Int.tmod (t : Int) 2 = 0 := by rw [show Int.tmod (t : Int) 2 = ((t % 2 : Nat) : Int) from (Int.ofNat_tmod t 2).symm, hp]; rfl
                  have e2 : (t : Int) % 2 = 0 := by omega
                  have e3 : IntKind.i64.wrap (z + (x : Int)) = z + (x : Int) := IntWalk.i64_in _ (by omega)
                  have hn2 : Hid (zsum (fun t => (C t : Int) * sg t) (t + 1) = z + (x : Int)) := by
                    show _ = _
                    rw [hnx.out, hsg.out, if_pos hp, Int.mul_one]
                  clear hp hnx hsg
                  go_wp2_with fail
                  go_roundg (S + 1 - (t + 1))
                  case measure => omega
                  case rel => exact ⟨t + 1, by omega, rfl, by first | rfl | go_num, by rw [hn2.out], rfl⟩
                · have e1 : Int.tmod (t : Int) 2 = 1 := by rw [show Int.tmod (t : Int) 2 = ((t % 2 : Nat) : Int) from (Int.ofNat_tmod t 2).symm, hp]; rfl
                  have e2 : (t : Int) % 2 = 1 := by omega
                  have e3 : IntKind.i64.wrap (z + -(x : Int)) = z + -(x : Int) := IntWalk.i64_in _ (by omega)
                  have e4 : (x : Int) * -1 = -(x : Int) := by omega
                  have hn2 : Hid (zsum (fun t => (C t : Int) * sg t) (t + 1) = z + -(x : Int)) := by
                    show _ = _
                    rw [hnx.out, hsg.out, if_neg (show ¬ t % 2 = 0 by omega)]
                    omega
                  clear hp hnx hsg
                  go_wp2_with fail
                  go_roundg (S + 1 - (t + 1))
                  case measure => omega
                  case rel => exact ⟨t + 1, by omega, rfl, by first | rfl | go_num, by rw [hn2.out], rfl⟩
              · obtain rfl : t = S + 1 := by omega
                have hfin := hCS.out
                go_wp2_with fail
                go_ret2
                exact ⟨by rw [← hfin]; rfl, hK5⟩
end Go.Proofs.YtfbiinjpljmapaaDoor
