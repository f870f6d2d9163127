/-
  HerdColored.
-/
import Derived.Test.YtfbiinjpljmapaaDoorLe
import Derived.Test.YtfbiinjpljmapaaDoorIm
import Derived.BigQuiet
namespace Go.Proofs.YtfbiinjpljmapaaDoor
open Go.RowKit Go.Deep

set_option maxRecDepth 100000 in
set_option maxHeartbeats 16000000 in
theorem colored_any (w : World) (a s : Nat) (ha : a < 256) (hs : s < 18446744073709551616) : Calls Tryd.prog 7 #[.int .u8 a, .int .u64 s] w (LivesPost w) := by
  have LV := Lib.hid lives_any
  have MD := Lib.hid (made_any w a s ha hs)
  unfold MadePost at MD
  obtain ⟨i0, hi0, hz0, hz1, hz2⟩ := info_parts Tryd.info3
  obtain ⟨k, HK⟩ : ∃ k, Hid (k = a % 9 + 1) := ⟨_, rfl⟩
  have hk1 : 1 ≤ k := by rw [HK.out]; omega
  have hk9 : k ≤ 9 := by rw [HK.out]; omega
  rw [← HK.out] at MD
  clear HK
  have hgood := mad_good (s := s) hk1 hk9
  have hpairs := mad_pairs s k
  have hlen := mad_len (s := s) hk9
  obtain ⟨l, HL⟩ : ∃ l, Hid (l = madL s k) := ⟨_, rfl⟩
  rw [← HL.out] at MD hgood hpairs hlen
  clear HL
  have AP := Lib.hid (fun W v (h : PrsAt W v l) => Along_any W k v l.length (prA l) (prB l) hk1 (by omega) h (by omega) hpairs)
  unfold AlongPost at AP
  have hsym := adj_sym (n := (k : Int)) l.length k hpairs
  have hadj : ∀ i j, i < k → j < k → (alongH (prA l) (prB l) l.length i).testBit j = adjP (prA l) (prB l) l.length i j := fun i j _ _ => along_adj l.length hpairs i j
  have hsay := Lib.hid (fun d => colored_says (d := d) hsym hk9 hadj)
  have CP := Lib.hid (fun W v (h : PrsAt W v l) => show Calls Tryd.prog 12 #[.int .i64 k, v] W fun e w' => ∃ u b o cap d, e = .returned (.tuple #[.slice u k cap, .int .i64 0]) ∧ Kept W w' ∧ ColorsIs (alongH (prA l) (prB l) l.length) k d ∧ u = some ⟨b, o, none⟩ ∧ ∀ i, i < k → w'.cell? ⟨b, o + i, none⟩ = some (.int .i64 ((lget d i : Nat) : Int)) by
    refine (Colors_any W (k : Int) v l.length (prA l) (prB l) h (by omega)).mono ?_
    rintro e w' ⟨hk, g⟩
    rw [if_pos hgood] at g
    obtain ⟨v, d, rfl, hd, hv⟩ := g
    rw [Int.toNat_natCast] at hd hv
    obtain ⟨u, b, o, cap, rfl, hu, hc⟩ := hv
    exact ⟨u, b, o, cap, d, rfl, hk, hd, hu (by omega), hc⟩)
  have GP := Lib.hid (fun W v (h : PrsAt W v l) => show Calls Tryd.prog 24 #[.int .i64 k, v] W fun e w' => ∃ u cap, e = .returned (.tuple #[.slice u (size16 (best (alongH (prA l) (prB l) l.length) k)) cap, .int .i64 0]) ∧ Kept W w' by
    refine (Group_any W (k : Int) v l.length (prA l) (prB l) h (by omega)).mono ?_
    rintro e w' ⟨hk, g⟩
    rw [if_pos hgood] at g
    obtain ⟨u, rfl, hu⟩ := g
    rw [Int.toNat_natCast] at hu
    obtain ⟨x, _, _, cap, rfl, _⟩ := hu
    rw [best_sub hk9]
    exact ⟨_, _, rfl, hk⟩)
  obtain ⟨q, HQ⟩ : ∃ q, Hid (q = size16 (best (alongH (prA l) (prB l) l.length) k)) := ⟨_, rfl⟩
  rw [← HQ.out] at GP hsay
  obtain ⟨H, HH⟩ : ∃ H, Hid (H = alongH (prA l) (prB l) l.length) := ⟨_, rfl⟩
  rw [← HH.out] at CP hsay
  obtain ⟨F, HF⟩ : ∃ F, Hid (F = adjP (prA l) (prB l) l.length) := ⟨_, rfl⟩
  rw [← HF.out] at AP hsay
  have DG := Lib.hid (fun W v i (h : GridAt W v k F) (hi : i < k) => degree_any W v k i F h hi (by omega))
  have hkk : ((k : Int) == (k : Int)) = true := by simp
  clear hgood hpairs hsym hadj HQ HH HF hlen
  go_enter Tryd.func7, Tryd.ntmps7
  go_wp2_with (first | (go_at_call 23; refine MD.out.mono ?_; clear MD; rintro e w1 ⟨v1', rfl, hv1, hk1'⟩) | (go_at_call 12; refine (CP.out _ _ hv1).mono ?_; clear CP; rintro e w2 ⟨u2, b2, o2, cap2, d, rfl, hk2', hd, rfl, hcc⟩; have HCC := Lib.hid hcc; clear hcc) | (go_at_call 24; refine (GP.out _ _ (PairsAt.kept hv1 hk2')).mono ?_; clear GP; rintro e w3 ⟨u3, cap3, rfl, hk3'⟩) | (go_at_call 17; refine (AP.out _ _ (PairsAt.kept (PairsAt.kept hv1 hk2') hk3')).mono ?_; clear AP; rintro e w4 ⟨v4, rfl, hg4, hk4'⟩) | (go_at_call 14; refine (LV.out _).mono ?_; clear LV; rintro e w5 ⟨rfl, hk5'⟩))
  obtain ⟨hprop, hq1, hq2⟩ := hsay.out d hd
  have HP := Lib.hid hprop
  have HKW := ((((hk1'.trans hk2').trans hk3').trans hk4').trans hk5')
  have hg5 := hg4.kept hk5'
  have hC5 : Hid (∀ i, i < k → w5.cell? ⟨b2, o2 + i, none⟩ = some (.int .i64 ((lget d i : Nat) : Int))) := fun i hi => ((hk3'.trans hk4').trans hk5').cellSome (HCC.out i hi)
  obtain ⟨g4, gc4, R, rfl, hG5⟩ := hg5
  obtain ⟨C, HC⟩ : ∃ C, Hid (C = lget d) := ⟨_, rfl⟩
  rw [← HC.out] at HP hq1 hq2 hC5
  have hdb : Hid (∀ i, i < k → cnt (F i) k ≤ 9) := fun i _ => Nat.le_trans (cnt_le _ _) hk9
  have hmb : Hid (∀ i, i ≤ k → mxN (fun i => cnt (F i) k) i ≤ 9) := fun i hi => mxN_bd _ _ _ fun j hj => hdb.out j (by omega)
  have hkl : Hid (∀ i, (knd C i).length ≤ i) := knd_len C
  have hK0 := (Kept.refl w5).alloc (.cells #[] 3)
  have hO0 := own_zeroP w5 w5.heap.size 3 1 (Nat.le_refl _)
  clear hprop HCC hv1 hk1' hk2' hk3' hk4' hk5' hg4 HC hd hsay
  go_loopg [12, 13, 14] k (fun q s12 s13 s14 wr => ∃ i : Nat, i ≤ k ∧ q = k - i ∧ s14 = .int .i64 i ∧ s12 = .int .i64 ((mxN (fun i => cnt (F i) k) i : Nat) : Int) ∧ Kept w5 wr ∧ wr.ownsRow w5.heap.size 3 1 s13 (knd C i).length (nats (knd C i)))
  case atStart => exact ⟨0, Nat.zero_le _, rfl, by first | rfl | go_num, by first | rfl | go_num, hK0, hO0⟩
  case round =>
    clear hK0 hO0
    obtain ⟨i, hi, rfl, rfl, rfl, hK, hO⟩ := hrel
    by_cases hlt : i < k
    · have s1 : (i : Int) < (k : Int) := by omega
      have hsz := hK.size
      have DI := Lib.hid (DG.out wr _ i ⟨g4, gc4, R, rfl, hG5.kept hK⟩ hlt)
      have hmx : Hid (mxN (fun i => cnt (F i) k) (i + 1) = max (mxN (fun i => cnt (F i) k) i) (cnt (F i) k)) := rfl
      have hm9 := hmb.out i hi
      have hd9 := hdb.out i hlt
      obtain ⟨mm, HMM⟩ : ∃ m, Hid (m = mxN (fun i => cnt (F i) k) i) := ⟨_, rfl⟩
      obtain ⟨dd, HDD⟩ : ∃ m, Hid (m = cnt (F i) k) := ⟨_, rfl⟩
      rw [← HMM.out] at hmx hm9 ⊢
      rw [← HDD.out] at hmx hd9 DI
      have hnx : Hid (knd C (i + 1) = if (knd C i).contains (C i) then knd C i else knd C i ++ [C i]) := rfl
      have hln := hkl.out i
      obtain ⟨K, HKK⟩ : ∃ K, Hid (K = knd C i) := ⟨_, rfl⟩
      rw [← HKK.out] at hO hnx hln
      have hfull := Lib.hid (anyN_mem K (C i))
      have tc := hK.cellSome (hC5.out i hlt)
      obtain ⟨x, HX⟩ : ∃ x, Hid (x = C i) := ⟨_, rfl⟩
      rw [← HX.out] at hnx hfull tc
      have hNat := NatsAt.of_own hO
      obtain ⟨va, vcap, rfl⟩ := own_shape hO
      obtain ⟨m, HM⟩ : ∃ m, Hid (m = K.length) := ⟨_, rfl⟩
      have hI : IntsAt wr (.slice va m vcap) m (fun a => ((lget K a : Nat) : Int)) := by
        rw [HM.out]
        exact hNat
      have hO1 : wr.ownsRow w5.heap.size 3 1 (.slice va m vcap) m (nats K) := by rw [HM.out]; exact hO
      rw [← HM.out] at hfull hln ⊢
      obtain ⟨va', b3, o3, cap3', e, hva, hvc⟩ := hI
      cases e
      have HVC := Lib.hid hvc
      clear hO hNat HMM HDD HKK hvc
      obtain ⟨Wi, rfl⟩ : ∃ Wi : World, Wi = wr := ⟨_, rfl⟩
      go_wp2_with (first | (go_at_call 27; refine DI.out.mono ?_; clear DI; rintro e w6 ⟨rfl, rfl⟩))
      have hmv : (max (mm : Int) (dd : Int)) = ((mxN (fun i => cnt (F i) k) (i + 1) : Nat) : Int) := by rw [hmx.out]; omega
      have HMV := Lib.hid hmv
      clear hmv hmx
      go_loopg [15, 16] m (fun q s15 s16 wr => ∃ j : Nat, j ≤ m ∧ q = m - j ∧ s16 = .int .i64 j ∧ s15 = .bool (!allN (fun t => !(lget K t == x)) j) ∧ Quiet Wi wr)
      case atStart => exact ⟨0, Nat.zero_le _, rfl, by first | rfl | go_num, rfl, Quiet.refl _⟩
      case round =>
        obtain ⟨j, hj, rfl, rfl, rfl, hQ⟩ := hrel
        have a0 : (0 : Int) ≤ (i : Int) := by omega
        by_cases hlt2 : j < m
        · obtain rfl := hva (by omega)
          have t1 := hQ.kept.cellSome (HVC.out j hlt2)
          have t2 := hQ.kept.cellSome tc
          have s2 : (j : Int) < (m : Int) := by omega
          have a1 : (0 : Int) ≤ (j : Int) := by omega
          have hst : Hid (allN (fun t => !(lget K t == x)) (j + 1) = (allN (fun t => !(lget K t == x)) j && !(lget K j == x))) := rfl
          obtain ⟨ab, HAB⟩ : ∃ b, Hid (b = allN (fun t => !(lget K t == x)) j) := ⟨_, rfl⟩
          rw [← HAB.out] at hst ⊢
          obtain ⟨y, HY⟩ : ∃ y, Hid (y = lget K j) := ⟨_, rfl⟩
          rw [← HY.out] at hst t1
          clear HAB HY
          cases ab with
          | false =>
            have hst2 : Hid (allN (fun t => !(lget K t == x)) (j + 1) = false) := by show _ = _; rw [hst.out]; rfl
            go_wp2_with fail
            go_quiet (fail)
            go_wp2_with fail
            go_roundg (m - (j + 1))
            case measure => omega
            case rel => exact ⟨j + 1, by omega, rfl, by first | rfl | go_num, by rw [hst2.out]; rfl, (by repeat (first | assumption | exact Quiet.refl _ | apply Quiet.drewN | apply Quiet.drew))⟩
          | true =>
            by_cases hyx : y = x
            · have e1 : ((y : Int) == (x : Int)) = true := by rw [nat_beq]; simp [hyx]
              have hst2 : Hid (allN (fun t => !(lget K t == x)) (j + 1) = false) := by show _ = _; rw [hst.out]; simp [hyx]
              clear hyx
              go_wp2_with fail
              go_quiet (fail)
              go_wp2_with fail
              go_roundg (m - (j + 1))
              case measure => omega
              case rel => exact ⟨j + 1, by omega, rfl, by first | rfl | go_num, by rw [hst2.out]; rfl, (by repeat (first | assumption | exact Quiet.refl _ | apply Quiet.drewN | apply Quiet.drew))⟩
            · have e1 : ((y : Int) == (x : Int)) = false := by rw [nat_beq]; simp [hyx]
              have hst2 : Hid (allN (fun t => !(lget K t == x)) (j + 1) = true) := by show _ = _; rw [hst.out]; simp [hyx]
              clear hyx
              go_wp2_with fail
              go_quiet (fail)
              go_wp2_with fail
              go_roundg (m - (j + 1))
              case measure => omega
              case rel => exact ⟨j + 1, by omega, rfl, by first | rfl | go_num, by rw [hst2.out]; rfl, (by repeat (first | assumption | exact Quiet.refl _ | apply Quiet.drewN | apply Quiet.drew))⟩
        · obtain rfl : j = m := by omega
          rw [hfull.out]
          have hKq := hK.trans hQ.kept
          have hOq := own_kept hO1 hQ.kept
          have hszq := hKq.size
          obtain ⟨Wz, rfl⟩ : ∃ Wz : World, Wz = wr := ⟨_, rfl⟩
          clear hQ hO1 hfull HVC hva
          obtain ⟨cb, HCB⟩ : ∃ b, Hid (b = K.contains x) := ⟨_, rfl⟩
          rw [← HCB.out] at hnx ⊢
          clear HCB
          cases cb with
          | true =>
            have hnx2 : Hid (knd C (i + 1) = K) := by show _ = _; rw [hnx.out]; simp
            go_wp2_with fail
            go_loopg [17] i (fun q s17 wr => ∃ t : Nat, t ≤ i ∧ q = i - t ∧ s17 = .int .i64 t ∧ Quiet Wz wr)
            case atStart => exact ⟨0, Nat.zero_le _, rfl, by first | rfl | go_num, Quiet.refl _⟩
            case round =>
              obtain ⟨t, ht, rfl, rfl, hQ3⟩ := hrel
              by_cases hlt3 : t < i
              · have hGt := (hG5.kept hKq).kept hQ3.kept
                have u0 := hGt.sl i hlt
                have y0 := (hGt.rw i hlt).cell (i := t) (by omega)
                have c0 := hQ3.kept.cellSome ((hKq).cellSome (hC5.out i hlt))
                have c1 := hQ3.kept.cellSome ((hKq).cellSome (hC5.out t (by omega)))
                have s3 : (t : Int) < (i : Int) := by omega
                have s4 : (t : Int) < (k : Int) := by omega
                have b0 : (0 : Int) ≤ (t : Int) := by omega
                have hpr := Lib.hid (HP.out i t hlt hlt3)
                simp only [slV] at u0
                generalize R i = ri at *
                obtain ⟨fb, HFB⟩ : ∃ b, Hid (b = F i t) := ⟨_, rfl⟩
                rw [← HFB.out] at y0 hpr
                obtain ⟨ci, HCI⟩ : ∃ b, Hid (b = C i) := ⟨_, rfl⟩
                obtain ⟨ct, HCT⟩ : ∃ b, Hid (b = C t) := ⟨_, rfl⟩
                rw [← HCI.out] at c0 hpr
                rw [← HCT.out] at c1 hpr
                clear HFB HCI HCT hGt
                cases fb with
                | false =>
                  go_wp2_with fail
                  go_quiet (fail)
                  go_wp2_with fail
                  go_roundg (i - (t + 1))
                  case measure => omega
                  case rel => exact ⟨t + 1, by omega, rfl, by first | rfl | go_num, by obtain ⟨n1, rfl⟩ := hQ3; exact ⟨n1 + nq, by simp⟩⟩
                | true =>
                  have hne := hpr.out rfl
                  have e1 : ((ci : Int) == (ct : Int)) = false := by rw [nat_beq]; simpa using hne
                  clear hne
                  go_wp2_with fail
                  go_quiet (fail)
                  go_wp2_with fail
                  go_roundg (i - (t + 1))
                  case measure => omega
                  case rel => exact ⟨t + 1, by omega, rfl, by first | rfl | go_num, by obtain ⟨n1, rfl⟩ := hQ3; exact ⟨n1 + nq, by simp⟩⟩
              · obtain rfl : t = i := by omega
                have hKf := hKq.trans hQ3.kept
                have hOf := (show ∀ v, wr.ownsRow w5.heap.size 3 1 v j (nats K) → wr.ownsRow w5.heap.size 3 1 v (knd C (t + 1)).length (nats (knd C (t + 1))) from fun v h => by rw [hnx2.out, ← HM.out]; exact h) _ (own_kept hOq hQ3.kept)
                clear hQ3
                go_wp2_with fail
                go_roundg (k - (t + 1))
                case measure => omega
                case rel => exact ⟨t + 1, by omega, rfl, by first | rfl | go_num, by rw [HMV.out], hKf, hOf⟩
          | false =>
            have hnx2 : Hid (knd C (i + 1) = K ++ [x]) := by show _ = _; rw [hnx.out]; simp
            have tc2 := hKq.cellSome (hC5.out i hlt)
            rw [← HX.out] at tc2
            have a0 : (0 : Int) ≤ (i : Int) := by omega
            go_wp2_with (first | (at_builtin; refine wpList_append_own _ rfl _ _ 27 rfl w5.heap.size 3 i0 (.int .i64 0) 1 8 Tryd.underlying27 hi0 hz0 hz1 hz2 rfl (by decide) _ _ _ rfl (hOq.alloc _) ⟨_, 0, none⟩ 1 1 [.int .i64 (x : Int)] rfl rfl ?c1 ?c2 ?c3 ?c4 ?c5 ?_))
            case c1 => exact one_new _ _ (by simp) _ _
            case c2 => simp [Value.oneCell']
            case c3 => unfold maxLen; omega
            case c4 => omega
            case c5 => first | omega | (simp; omega)
            intro v' w7 hO3 hgr _
            have hK7 : Kept w5 w7 := (hKq.alloc _).grew hgr (hOq.alloc _) (Nat.le_refl _)
            have hO4 : w7.ownsRow w5.heap.size 3 1 v' (K ++ [x]).length (nats (K ++ [x])) := by
              rw [nats_snoc, List.length_append, ← HM.out]
              simpa using hO3
            clear hO3 hgr hOq
            go_wp2_with fail
            go_loopg [17] i (fun q s17 wr => ∃ t : Nat, t ≤ i ∧ q = i - t ∧ s17 = .int .i64 t ∧ Quiet w7 wr)
            case atStart => exact ⟨0, Nat.zero_le _, rfl, by first | rfl | go_num, Quiet.refl _⟩
            case round =>
              obtain ⟨t, ht, rfl, rfl, hQ3⟩ := hrel
              by_cases hlt3 : t < i
              · have hGt := (hG5.kept hK7).kept hQ3.kept
                have u0 := hGt.sl i hlt
                have y0 := (hGt.rw i hlt).cell (i := t) (by omega)
                have c0 := hQ3.kept.cellSome ((hK7).cellSome (hC5.out i hlt))
                have c1 := hQ3.kept.cellSome ((hK7).cellSome (hC5.out t (by omega)))
                have s3 : (t : Int) < (i : Int) := by omega
                have s4 : (t : Int) < (k : Int) := by omega
                have b0 : (0 : Int) ≤ (t : Int) := by omega
                have hpr := Lib.hid (HP.out i t hlt hlt3)
                simp only [slV] at u0
                generalize R i = ri at *
                obtain ⟨fb, HFB⟩ : ∃ b, Hid (b = F i t) := ⟨_, rfl⟩
                rw [← HFB.out] at y0 hpr
                obtain ⟨ci, HCI⟩ : ∃ b, Hid (b = C i) := ⟨_, rfl⟩
                obtain ⟨ct, HCT⟩ : ∃ b, Hid (b = C t) := ⟨_, rfl⟩
                rw [← HCI.out] at c0 hpr
                rw [← HCT.out] at c1 hpr
                clear HFB HCI HCT hGt
                cases fb with
                | false =>
                  go_wp2_with fail
                  go_quiet (fail)
                  go_wp2_with fail
                  go_roundg (i - (t + 1))
                  case measure => omega
                  case rel => exact ⟨t + 1, by omega, rfl, by first | rfl | go_num, by obtain ⟨n1, rfl⟩ := hQ3; exact ⟨n1 + nq, by simp⟩⟩
                | true =>
                  have hne := hpr.out rfl
                  have e1 : ((ci : Int) == (ct : Int)) = false := by rw [nat_beq]; simpa using hne
                  clear hne
                  go_wp2_with fail
                  go_quiet (fail)
                  go_wp2_with fail
                  go_roundg (i - (t + 1))
                  case measure => omega
                  case rel => exact ⟨t + 1, by omega, rfl, by first | rfl | go_num, by obtain ⟨n1, rfl⟩ := hQ3; exact ⟨n1 + nq, by simp⟩⟩
              · obtain rfl : t = i := by omega
                have hKf := hK7.trans hQ3.kept
                have hOf := own_kept hO4 hQ3.kept
                rw [← hnx2.out] at hOf
                clear hQ3
                go_wp2_with fail
                go_roundg (k - (t + 1))
                case measure => omega
                case rel => exact ⟨t + 1, by omega, rfl, by first | rfl | go_num, by rw [HMV.out], hKf, hOf⟩
    · obtain rfl : i = k := by omega
      have hKf := HKW.trans hK
      have hm9 := hmb.out i (by omega)
      obtain ⟨mm, HMM⟩ : ∃ m, Hid (m = mxN (fun t => cnt (F t) i) i) := ⟨_, rfl⟩
      rw [← HMM.out] at hm9 hq2 ⊢
      obtain ⟨va, vcap, rfl⟩ := own_shape hO
      obtain ⟨m, HM⟩ : ∃ m, Hid (m = (knd C i).length) := ⟨_, rfl⟩
      rw [← HM.out] at hq1 hq2 ⊢
      have e1 : (q : Int) ≤ (m : Int) := by omega
      have e2 : (m : Int) ≤ (mm : Int) + 1 := by omega
      have e3 : decide (q ≤ m) = true := decide_eq_true hq1
      clear hO hK
      go_wp2_with fail
      go_ret
      exact ⟨rfl, hKf⟩
end Go.Proofs.YtfbiinjpljmapaaDoor
