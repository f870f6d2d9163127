/-
  The reference's Turan.
-/
import Derived.Test.YtfbiinjpljmapaaDoorJa
import Derived.BigQuiet
namespace Go.Proofs.YtfbiinjpljmapaaDoor
open Go.RowKit Go.Deep

theorem own_zeroT (W : World) (base : Nat) (t : TypeId) (s : Nat) (hb : base ≤ W.heap.size) : (W.alloc (.cells #[] t)).ownsRow base t s (.slice (some ⟨W.heap.size, 0, none⟩) 0 0) 0 [] := by
  refine ⟨by simp, .inr ⟨W.heap.size, 0, #[], rfl, hb, ?_, Nat.le_refl _, Nat.zero_le _, by simp, by simp⟩⟩
  rw [blk_alloc_new]
theorem pair_new (W : World) (h : Nat) (hh : W.heap.size = h) (a b : Value) (t : TypeId) : ∀ (j : Nat) (u : Value), [a, b][j]? = some u → (W.alloc (.cells #[a, b] t)).cell? ((⟨h, 0, none⟩ : Addr).add j) = some u := by
  subst hh
  intro j u h
  rw [add_at, Nat.zero_add]
  unfold World.cell?
  dsimp only
  rw [blk_alloc_new]
  have hj : j = 0 ∨ j = 1 := by
    have := (List.getElem?_eq_some_iff.1 h).1
    simp at this
    omega
  rcases hj with rfl | rfl <;> exact h
theorem nats_snoc (l : List Nat) (x : Nat) : nats (l ++ [x]) = nats l ++ [.int .i64 (x : Int)] := by simp [nats]
theorem rep_snoc (k p : Nat) : List.replicate (k + 1) p = List.replicate k p ++ [p] := List.replicate_succ'
theorem prtL_len {n r k : Nat} (hk : k ≤ r) : (prtL n r k).length = fstN n r k := by
  induction k with
  | zero => rfl
  | succ k ih =>
    rw [prtL_succ, List.length_append, ih (by omega), List.length_replicate]
    rfl
set_option maxRecDepth 100000 in
set_option maxHeartbeats 8000000 in
theorem refTuran_any (w : World) (n r : Nat) (hn : n ≤ 9) (hr : 1 ≤ r) (hr2 : r ≤ 9) :
    Calls Tryd.prog 21 #[.int .i64 n, .int .i64 r] w (PairsPost w (turanL n r)) := by
  obtain ⟨i3, hi, hz0, hz1, hz2⟩ := info_parts Tryd.info3
  obtain ⟨ip, gi, gz0, gz1, gz2⟩ := info_parts Tryd.infoPair
  have HF := Lib.hid (fun k hk => fst_le (n := n) (r := r) (k := k) hn hr hr2 hk)
  have HLN := Lib.hid (tur_both (n := n) (r := r) hn hr hr2).2
  have HANS : Hid (turL (prtL n r r) n n = turanL n r) := rfl
  have r0 : ¬ (r : Int) = 0 := by omega
  have hq : n / r ≤ n := Nat.div_le_self _ _
  have hm : n % r < r := Nat.mod_lt _ (by omega)
  have hv : Hid (∀ p, partN n r p = if p < n % r then n / r + 1 else n / r) := fun p => rfl
  obtain ⟨q, HQ⟩ : ∃ q, Hid (q = n / r) := ⟨_, rfl⟩
  obtain ⟨m, HM⟩ : ∃ m, Hid (m = n % r) := ⟨_, rfl⟩
  have e1 : Int.tdiv (n : Int) (r : Int) = (q : Int) := by rw [HQ.out]; exact (Int.ofNat_tdiv n r).symm
  have e2 : Int.tmod (n : Int) (r : Int) = (m : Int) := by rw [HM.out]; exact (Int.ofNat_tmod n r).symm
  rw [← HQ.out] at hq hv
  rw [← HM.out] at hm hv
  have w0 : IntKind.i64.wrap (q : Int) = q := IntWalk.i64_in _ (by omega)
  clear HQ HM
  go_enter Tryd.func21, Tryd.ntmps21
  go_wp2_with fail
  go_loopg [5, 6] r (fun g s5 s6 wr => ∃ k : Nat, k ≤ r ∧ g = r - k ∧ s6 = .int .i64 k ∧ Kept w wr ∧ wr.ownsRow w.heap.size 3 1 s5 (prtL n r k).length (nats (prtL n r k)))
  case atStart => exact ⟨0, Nat.zero_le _, rfl, by first | rfl | go_num, (Kept.refl w).alloc _, own_zeroT w w.heap.size 3 1 (Nat.le_refl _)⟩
  case round =>
    obtain ⟨k, hk, rfl, rfl, hK, hO⟩ := hrel
    by_cases hlt : k < r
    · have s1 : (k : Int) < (r : Int) := by omega
      have hpk := hv.out k
      have hf1 := HF.out (k + 1) (by omega)
      have hsz := hK.size
      have hnext := Lib.hid (prtL_succ n r k)
      have hb : (prtL n r k).length + partN n r k ≤ n := by rw [prtL_len (by omega)]; exact hf1
      obtain ⟨p, HP⟩ : ∃ p, Hid (p = partN n r k) := ⟨_, rfl⟩
      obtain ⟨l, HL⟩ : ∃ l, Hid (l = prtL n r k) := ⟨_, rfl⟩
      rw [← HP.out] at hnext hb hpk
      rw [← HL.out] at hnext hb hO
      obtain ⟨va, vcap, rfl⟩ := own_shape hO
      have hO0 : wr.ownsRow w.heap.size 3 1 (.slice va l.length vcap) (l ++ List.replicate 0 k).length (nats (l ++ List.replicate 0 k)) := by simpa using hO
      have CUT : Hid (∃ b : Bool, Hid (b = decide ((k : Int) < (m : Int))) ∧ (p : Int) = if b then (q : Int) + 1 else q) := ⟨_, rfl, by
        rw [hpk]
        by_cases h : k < m
        · simp [h]
        · simp [h]⟩
      clear hpk hf1 HL hO HP
      by_cases hkm : k < m
      · have s2 : (k : Int) < (m : Int) := by omega
        have hpq : (q : Int) + 1 = (p : Int) := by
          obtain ⟨b, hb1, hb2⟩ := CUT.out
          rw [hb2, hb1.out, decide_eq_true s2]
          rfl
        have wq : IntKind.i64.wrap (p : Int) = p := IntWalk.i64_in _ (by omega)
        clear CUT
        go_wp2_with fail
        (go_loopg [5, 8] p (fun g s5 s8 wi => ∃ j : Nat, j ≤ p ∧ g = p - j ∧ s8 = .int .i64 j ∧ Kept w wi ∧ wi.ownsRow w.heap.size 3 1 s5 (l ++ List.replicate j k).length (nats (l ++ List.replicate j k))))
        case atStart => exact ⟨0, Nat.zero_le _, rfl, by first | rfl | go_num, hK, hO0⟩
        case round =>
          clear hK hO0
          obtain ⟨j, hj, rfl, rfl, hK, hO⟩ := hrel
          have hsz := hK.size
          by_cases hjl : j < p
          · have s3 : (j : Int) < (p : Int) := by omega
            have hll : (l ++ List.replicate j k).length ≤ n := by rw [List.length_append, List.length_replicate]; omega
            have hN2 : Hid (l ++ List.replicate (j + 1) k = (l ++ List.replicate j k) ++ [k]) := by show _ = _; rw [rep_snoc, List.append_assoc]
            obtain ⟨pl, HPL⟩ : ∃ pl, Hid (pl = l ++ List.replicate j k) := ⟨_, rfl⟩
            rw [← HPL.out] at hO hll hN2
            obtain ⟨vb, vcap2, rfl⟩ := own_shape hO
            go_wp2_with (first | (at_builtin; refine wpList_append_own _ rfl _ _ 27 rfl w.heap.size 3 i3 (.int .i64 0) 1 8 Tryd.underlying27 hi hz0 hz1 hz2 rfl (by decide) _ _ _ rfl (hO.alloc _) ⟨_, 0, none⟩ 1 1 [.int .i64 k] rfl rfl ?c1 ?c2 ?c3 ?c4 ?c5 ?_))
            case c1 => exact cell_one_new _ _ _
            case c2 => simp [Value.oneCell']
            case c3 => unfold maxLen; omega
            case c4 => omega
            case c5 => first | omega | (simp; omega)
            intro ov' w2 hO3 hgr _
            have hK2 : Kept w w2 := (hK.alloc _).grew hgr (hO.alloc _) (Nat.le_refl _)
            have hO4 : w2.ownsRow w.heap.size 3 1 ov' (l ++ List.replicate (j + 1) k).length (nats (l ++ List.replicate (j + 1) k)) := by
              rw [hN2.out, nats_snoc, List.length_append]
              exact hO3
            clear hO3 hgr hO
            go_wp2_with fail
            go_roundg (p - (j + 1))
            case measure => omega
            case rel => exact ⟨j + 1, by omega, rfl, by go_num, hK2, hO4⟩
          · obtain rfl : j = p := by omega
            rw [← hnext.out] at hO
            go_wp2_with fail
            go_roundg (r - (k + 1))
            case measure => omega
            case rel => exact ⟨k + 1, by omega, rfl, by go_num, hK, hO⟩
      · have s2 : ¬ (k : Int) < (m : Int) := by omega
        have hpq : (q : Int) = (p : Int) := by
          obtain ⟨b, hb1, hb2⟩ := CUT.out
          rw [hb2, hb1.out, decide_eq_false s2]
          rfl
        clear CUT
        go_wp2_with fail
        (go_loopg [5, 8] p (fun g s5 s8 wi => ∃ j : Nat, j ≤ p ∧ g = p - j ∧ s8 = .int .i64 j ∧ Kept w wi ∧ wi.ownsRow w.heap.size 3 1 s5 (l ++ List.replicate j k).length (nats (l ++ List.replicate j k))))
        case atStart => exact ⟨0, Nat.zero_le _, rfl, by first | rfl | go_num, hK, hO0⟩
        case round =>
          clear hK hO0
          obtain ⟨j, hj, rfl, rfl, hK, hO⟩ := hrel
          have hsz := hK.size
          by_cases hjl : j < p
          · have s3 : (j : Int) < (p : Int) := by omega
            have hll : (l ++ List.replicate j k).length ≤ n := by rw [List.length_append, List.length_replicate]; omega
            have hN2 : Hid (l ++ List.replicate (j + 1) k = (l ++ List.replicate j k) ++ [k]) := by show _ = _; rw [rep_snoc, List.append_assoc]
            obtain ⟨pl, HPL⟩ : ∃ pl, Hid (pl = l ++ List.replicate j k) := ⟨_, rfl⟩
            rw [← HPL.out] at hO hll hN2
            obtain ⟨vb, vcap2, rfl⟩ := own_shape hO
            go_wp2_with (first | (at_builtin; refine wpList_append_own _ rfl _ _ 27 rfl w.heap.size 3 i3 (.int .i64 0) 1 8 Tryd.underlying27 hi hz0 hz1 hz2 rfl (by decide) _ _ _ rfl (hO.alloc _) ⟨_, 0, none⟩ 1 1 [.int .i64 k] rfl rfl ?c1 ?c2 ?c3 ?c4 ?c5 ?_))
            case c1 => exact cell_one_new _ _ _
            case c2 => simp [Value.oneCell']
            case c3 => unfold maxLen; omega
            case c4 => omega
            case c5 => first | omega | (simp; omega)
            intro ov' w2 hO3 hgr _
            have hK2 : Kept w w2 := (hK.alloc _).grew hgr (hO.alloc _) (Nat.le_refl _)
            have hO4 : w2.ownsRow w.heap.size 3 1 ov' (l ++ List.replicate (j + 1) k).length (nats (l ++ List.replicate (j + 1) k)) := by
              rw [hN2.out, nats_snoc, List.length_append]
              exact hO3
            clear hO3 hgr hO
            go_wp2_with fail
            go_roundg (p - (j + 1))
            case measure => omega
            case rel => exact ⟨j + 1, by omega, rfl, by go_num, hK2, hO4⟩
          · obtain rfl : j = p := by omega
            rw [← hnext.out] at hO
            go_wp2_with fail
            go_roundg (r - (k + 1))
            case measure => omega
            case rel => exact ⟨k + 1, by omega, rfl, by go_num, hK, hO⟩
    · obtain rfl : k = r := by omega
      have hl := HLN.out
      obtain ⟨L, HL⟩ : ∃ l, Hid (l = prtL n k k) := ⟨_, rfl⟩
      rw [← HL.out] at hl hO HANS
      rw [hl] at hO
      clear HL HLN HF hv hq hm w0 e1 e2
      obtain ⟨va, vcap, rfl⟩ := own_shape hO
      have hK1 : Kept w (wr.alloc (.cells #[] 59)) := hK.alloc _
      have hO1 := hO.alloc (.cells #[] 59)
      have hP1 := own_zeroT wr w.heap.size 59 2 hK.size
      go_wp2_with fail
      generalize wr.alloc (.cells #[] 59) = W1 at *
      clear hK hO
      go_loopg [9, 10] n (fun g s9 s10 wr => ∃ i : Nat, i ≤ n ∧ g = n - i ∧ s10 = .int .i64 i ∧ Kept w wr ∧ wr.ownsRow w.heap.size 3 1 (.slice va n vcap) n (nats L) ∧ wr.ownsRow w.heap.size 59 2 s9 (turL L n i).length (prs (turL L n i)))
      case atStart => exact ⟨0, Nat.zero_le _, rfl, by first | rfl | go_num, hK1, hO1, hP1⟩
      case round =>
        clear hK1 hO1 hP1
        obtain ⟨i, hi2, rfl, rfl, hK, hO, hP⟩ := hrel
        by_cases hin : i < n
        · have s1 : (i : Int) < (n : Int) := by omega
          have hlen1 := turL_len L n i
          have hlen2 : i * n ≤ 9 * 9 := Nat.mul_le_mul (by omega) (by omega)
          have hnext := Lib.hid (turL_succ L n i)
          obtain ⟨pl, HPL⟩ : ∃ pl, Hid (pl = turL L n i) := ⟨_, rfl⟩
          rw [← HPL.out] at hP hlen1 hnext
          obtain ⟨pa, pcap, rfl⟩ := own_shape hP
          have hP0 : wr.ownsRow w.heap.size 59 2 (.slice pa pl.length pcap) (pl ++ turR L i (i + 1)).length (prs (pl ++ turR L i (i + 1))) := by rw [turR_zero, List.append_nil]; exact hP
          have hplen : pl.length ≤ 81 := by omega
          clear HPL hP hlen1 hlen2
          go_wp2_with fail
          go_loopg [9, 11] (n - (i + 1)) (fun g s9 s11 wi => ∃ j : Nat, j ≤ n ∧ i + 1 ≤ j ∧ g = n - j ∧ s11 = .int .i64 j ∧ Kept w wi ∧ wi.ownsRow w.heap.size 3 1 (.slice va n vcap) n (nats L) ∧ wi.ownsRow w.heap.size 59 2 s9 (pl ++ turR L i j).length (prs (pl ++ turR L i j)))
          case atStart => exact ⟨i + 1, by omega, Nat.le_refl _, rfl, by first | rfl | go_num, hK, hO, hP0⟩
          case round =>
            clear hK hO hP0
            obtain ⟨j, hj, hj2, rfl, rfl, hK, hO, hP⟩ := hrel
            have hsz := hK.size
            by_cases hjn : j < n
            · have s2 : (j : Int) < (n : Int) := by omega
              have s3 : (0 : Int) ≤ (j : Int) := by omega
              have s4 : (0 : Int) ≤ (i : Int) := by omega
              have hN := hO
              rw [← hl] at hN
              obtain ⟨_, lb, lo, _, e, hla, hlc⟩ := NatsAt.of_own hN
              cases e
              obtain rfl := hla (by omega)
              have y0 : wr.cell? ⟨lb, lo + i, none⟩ = some (.int .i64 ((L.getD i 0 : Nat) : Int)) := hlc i (by omega)
              have y1 : wr.cell? ⟨lb, lo + j, none⟩ = some (.int .i64 ((L.getD j 0 : Nat) : Int)) := hlc j (by omega)
              have hts := Lib.hid (turR_succ L i j)
              have hrl := turR_len L i j
              have hpl : (pl ++ turR L i j).length ≤ 81 + 9 := by rw [List.length_append]; omega
              obtain ⟨ql, HQL⟩ : ∃ ql, Hid (ql = pl ++ turR L i j) := ⟨_, rfl⟩
              rw [← HQL.out] at hP hpl
              have hnx : Hid (pl ++ turR L i (j + 1) = ql ++ (if i < j ∧ ¬ L.getD i 0 = L.getD j 0 then [(i, j)] else [])) := by
                show _ = _
                rw [hts.out, HQL.out, List.append_assoc]
              obtain ⟨x, HX⟩ : ∃ x, Hid (x = L.getD i 0) := ⟨_, rfl⟩
              obtain ⟨y, HY⟩ : ∃ y, Hid (y = L.getD j 0) := ⟨_, rfl⟩
              rw [← HX.out] at y0 hnx
              rw [← HY.out] at y1 hnx
              obtain ⟨pa2, pcap2, rfl⟩ := own_shape hP
              clear hN hlc HX HY HQL hts hrl
              by_cases hxy : x = y
              · subst hxy
                have hn3 : Hid (pl ++ turR L i (j + 1) = ql) := by show _ = _; rw [hnx.out, if_neg (by simp)]; simp
                have he : ((x : Int) != (x : Int)) = false := by simp
                go_wp2_with fail
                go_quiet (fail)
                go_wp2_with fail
                go_roundg (n - (j + 1))
                case measure => omega
                case rel => exact ⟨j + 1, by omega, by omega, rfl, by first | rfl | go_num, hK.drewN _, own_kept hO ((Kept.refl _).drewN _), by rw [hn3.out]; exact own_kept hP ((Kept.refl _).drewN _)⟩
              · have hn3 : Hid (pl ++ turR L i (j + 1) = ql ++ [(i, j)]) := by show _ = _; rw [hnx.out, if_pos ⟨by omega, hxy⟩]
                have he : ((x : Int) != (y : Int)) = true := by simp; omega
                go_wp2_with fail
                go_quiet (fail)
                go_wp2_with (first | (at_builtin; refine wpList_append_own _ rfl _ _ 22 rfl w.heap.size 59 ip (.agg #[.int .i64 0, .int .i64 0]) 2 16 Tryd.underlying22 gi gz0 gz1 gz2 rfl (by decide) _ _ _ rfl ((own_kept hP ((Kept.refl _).drewN _)).alloc _) ⟨_, 0, none⟩ 1 1 [.int .i64 (i : Int), .int .i64 (j : Int)] rfl rfl ?c1 ?c2 ?c3 ?c4 ?c5 ?_))
                case c1 => exact pair_new _ _ (by simp) _ _ _
                case c2 => simp [Value.oneCell']
                case c3 => unfold maxLen; omega
                case c4 => omega
                case c5 => first | omega | (simp; omega)
                intro v' w2 hO3 hgr _
                have hP1 := own_kept hP ((Kept.refl wr).drewN nq)
                have hO1 := own_kept hO ((Kept.refl wr).drewN nq)
                have hX2 := grew_X hgr (hP1.alloc (.cells #[.int .i64 (i : Int), .int .i64 (j : Int)] 59))
                have hK2 : Kept w w2 := ((hK.drewN nq).alloc _).step hX2 (fun i hi => hi)
                have hO42 : w2.ownsRow w.heap.size 3 1 (.slice (some ⟨lb, lo, none⟩) n vcap) n (nats L) := own_grow (hO1.alloc _) (hP1.alloc _) (by decide) hgr
                have hP5 : w2.ownsRow w.heap.size 59 2 v' (pl ++ turR L i (j + 1)).length (prs (pl ++ turR L i (j + 1))) := by
                  rw [hn3.out, prs_snoc]
                  simpa using hO3
                clear hO3 hX2 hgr hK hO hP hP1 hO1
                go_wp2_with fail
                go_roundg (n - (j + 1))
                case measure => omega
                case rel => exact ⟨j + 1, by omega, by omega, rfl, by first | rfl | go_num, hK2, hO42, hP5⟩
            · obtain rfl : j = n := by omega
              rw [← hnext.out] at hP
              go_wp2_with fail
              go_roundg (j - (i + 1))
              case measure => omega
              case rel => exact ⟨i + 1, by omega, rfl, by first | rfl | go_num, hK, hO, hP⟩
        · obtain rfl : i = n := by omega
          rw [HANS.out] at hP
          go_wp2_with fail
          go_ret
          exact ⟨_, rfl, hP, hK⟩
end Go.Proofs.YtfbiinjpljmapaaDoor
