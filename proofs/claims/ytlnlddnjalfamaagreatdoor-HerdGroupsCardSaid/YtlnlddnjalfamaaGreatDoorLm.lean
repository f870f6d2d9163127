/-
  Package herd: free, Free.
-/
import Derived.Test.YtlnlddnjalfamaaGreatDoorLk
import Derived.Test.YtlnlddnjalfamaaGreatDoorHq
namespace Go.Proofs.YtlnlddnjalfamaaGreatDoor
open Go.RowKit Go.Deep

/-- what free returns -/
def FreePost (w : World) (n : Nat) (L : List (Nat × Nat)) (e : Ending) (w' : World) : Prop := ∃ c, e = .returned (.slice (some ⟨c, 0, none⟩) n n) ∧ w.heap.size ≤ c ∧ w'.rowIs c 84 n (fun i => setV (hrdL L i)) ∧ Kept w w'
theorem prs_cells {w : World} {base : Nat} {v : Value} {L : List (Nat × Nat)} (h : w.ownsRow base 94 2 v L.length (prs L)) : ∃ a b cap, v = .slice a L.length cap ∧ (0 < L.length → a = some ⟨b, 0, none⟩ ∧ base ≤ b) ∧ ∀ i, i < L.length → w.cell? ⟨b, i * 2, none⟩ = some (.int .i64 ((L.getD i (0, 0)).1 : Nat)) ∧ w.cell? ⟨b, i * 2 + 1, none⟩ = some (.int .i64 ((L.getD i (0, 0)).2 : Nat)) := by
  have h2 := h
  rcases h.2 with ⟨rfl, e⟩ | ⟨g, cap, cur, rfl, hb, rest⟩
  · refine ⟨none, 0, 0, ?_, fun h0 => absurd h0 (by omega), fun i hi => absurd hi (by omega)⟩
    rw [e]
  · refine ⟨_, g, cap, rfl, fun _ => ⟨rfl, hb⟩, fun i hi => ?_⟩
    obtain ⟨p1, p2⟩ := prs_get L i hi
    rw [h.cellAt _ (by omega), h.cellAt _ (by omega), p1, p2]
    exact ⟨rfl, rfl⟩
theorem getD_eq {L : List (Nat × Nat)} {k : Nat} (h : k < L.length) : L.getD k (0, 0) = L[k] := by
  rw [List.getD_eq_getElem?_getD, List.getElem?_eq_getElem h]
  rfl
set_option maxRecDepth 100000 in
set_option maxHeartbeats 8000000 in
theorem free_any (w : World) (g n cap r : Nat) (H : Nat → Nat) (hG : w.rowIs g 84 n (fun i => setV (H i))) (hH : ∀ i, i < n → H i < 65536) (hb : ∀ i j, i < n → (H i).testBit j = true → j < n) (hn : n ≤ 9) (hn1 : 1 ≤ n) :
    Calls Tryz.prog 67 #[.slice (some ⟨g, 0, none⟩) n cap, .int .i64 r] w (FreePost w n (frL n r (pairsH H n))) := by
  have hmk := mkHerd n (by omega)
  have hrow := World.rowIs_made w (.int .u16 0) n 84
  have hok := pairsH_ok (by omega) hH hb
  have hsort := pairsH_sorted H n
  have hlen := pairsH_len H n
  have hgl := hG.lt
  have hK0 : Kept w (w.alloc (.cells (madeCells #[.int .u16 0] n) 84)) := (Kept.refl w).alloc _
  have hsz0 : (w.alloc (.cells (madeCells #[.int .u16 0] n) 84)).heap.size = w.heap.size + 1 := by simp
  have hG0 := hK0.row hG
  have PR := Lib.hid (fun W (h : W.rowIs g 84 n (fun i => setV (H i))) => pairs_any W (.slice (some ⟨g, 0, none⟩) n cap) n H (CellsAt.of_row h) hH (by omega))
  unfold PairsPost at PR
  obtain ⟨L, HL⟩ : ∃ L, Hid (L = pairsH H n) := ⟨_, rfl⟩
  rw [← HL.out] at hok hlen PR hsort ⊢
  have hl81 : L.length ≤ 81 := by have : n * 9 ≤ 9 * 9 := Nat.mul_le_mul_right _ hn; omega
  have HOK := Lib.hid hok
  have HSO := Lib.hid hsort
  clear hok hlen HL hsort hG hH hb
  go_enter Tryz.func67, Tryz.ntmps67
  go_wp2_with fail
  obtain ⟨c, HC⟩ : ∃ c, Hid (c = w.heap.size) := ⟨_, rfl⟩
  rw [← HC.out] at hrow hsz0 hgl ⊢
  have hcw : w.heap.size ≤ c := by rw [HC.out]; exact Nat.le_refl _
  generalize w.alloc (.cells (madeCells #[.int .u16 0] n) 84) = W1 at *
  clear hmk
  go_wp2_with (first | (go_at_call 68; refine (PR.out _ hG0).mono ?_; clear PR; rintro e w2 ⟨lv, rfl, hO, hk2⟩; obtain ⟨a, b, lcap, rfl, ha, hcl⟩ := prs_cells hO))
  have HCL := Lib.hid hcl
  have hrow2 := hk2.row hrow
  have hK2 := hK0.trans hk2
  have hb2 : 0 < L.length → b ≠ c := fun h => by have := (ha h).2; omega
  have ha2 : 0 < L.length → a = some ⟨b, 0, none⟩ := fun h => (ha h).1
  have hcz : c < w2.heap.size := hrow2.lt
  clear hO hcl hrow hK0 hk2 ha hG0
  obtain ⟨N, HN⟩ : ∃ N, Hid (N = L.length) := ⟨_, rfl⟩
  rw [← HN.out] at HCL hb2 ha2 hl81 ⊢
  go_loopg [14] N (fun q s14 wr => ∃ k : Nat, k ≤ N ∧ q = N - k ∧ s14 = .int .i64 k ∧ KeptX (fun i => i = c) w2 wr ∧ wr.rowIs c 84 n (fun i => setV (hrdL (frL n r (L.take k)) i)))
  case atStart => exact ⟨0, Nat.zero_le _, rfl, by first | rfl | go_num, KeptX.refl _ _, hrow2.congr (fun i _ => rfl)⟩
  case round =>
    clear hrow2
    obtain ⟨k, hk, rfl, rfl, hX, hR⟩ := hrel
    by_cases hlt : k < N
    · have s1 : (k : Int) < (N : Int) := by omega
      have a0 : (0 : Int) ≤ (k : Int) := by omega
      obtain rfl := ha2 (by omega)
      have hbc := hb2 (by omega)
      obtain ⟨c0, c1⟩ := HCL.out k hlt
      have t0 := hX.cellSome c0 hbc
      have t1 := hX.cellSome c1 hbc
      have hNL := HN.out
      have hmem : L.getD k (0, 0) ∈ L := by
        rw [getD_eq (show k < L.length by omega)]
        exact List.getElem_mem _
      have hpk := HOK.out _ hmem
      have htk : L.take (k + 1) = L.take k ++ [L.getD k (0, 0)] := by
        rw [List.take_add_one, List.getElem?_eq_getElem (show k < L.length by omega), getD_eq (show k < L.length by omega)]
        rfl
      have hstep : Hid (frL n r (L.take (k + 1)) = stepF n r (frL n r (L.take k)) (L.getD k (0, 0))) := by
        show _ = _
        rw [htk, frL_snoc]
      have hsub : ∀ p, p ∈ frL n r (L.take k) → p ∈ L.take k := fun p hp => (frL_sub n r (L.take k)).subset hp
      have hokO : okL n (frL n r (L.take k)) := fun p hp => HOK.out p (List.mem_of_mem_take (hsub p hp))
      have hnot : ¬ L.getD k (0, 0) ∈ frL n r (L.take k) := fun hp => by
        have h1 := hsub _ hp
        have h2 := HSO.out
        rw [← List.take_append_drop k L, List.pairwise_append] at h2
        have hd : L.getD k (0, 0) ∈ L.drop k := by
          rw [getD_eq (show k < L.length by omega), List.drop_eq_getElem_cons (show k < L.length by omega)]
          exact List.mem_cons_self
        exact lt2_irr _ (h2.2.2 _ h1 _ hd)
      obtain ⟨out, HOUT⟩ : ∃ o, Hid (o = frL n r (L.take k)) := ⟨_, rfl⟩
      rw [← HOUT.out] at hokO hnot hstep hR
      obtain ⟨p, HP⟩ : ∃ p, Hid (p = L.getD k (0, 0)) := ⟨_, rfl⟩
      rw [← HP.out] at hpk hnot hstep t0 t1
      clear hsub htk hmem hNL c0 c1 HOUT HP
      obtain ⟨p1, p2⟩ := p
      simp only at hpk t0 t1
      obtain ⟨h12, h2n⟩ := hpk
      have hno12 : (hrdL out p1).testBit p2 = false := by
        cases e : (hrdL out p1).testBit p2 with
        | false => rfl
        | true =>
          rw [hrdL_bit hokO] at e
          rcases e with e | e
          · exact absurd e hnot
          · have := hokO _ e; simp at this; omega
      have hno21 : (hrdL out p2).testBit p1 = false := by
        cases e : (hrdL out p2).testBit p1 with
        | false => rfl
        | true =>
          rw [hrdL_bit hokO] at e
          rcases e with e | e
          · have := hokO _ e; simp at this; omega
          · exact absurd e hnot
      have hlt16 := hrdL_lt (n := n) (by omega) hokO
      have hpj := part_join (K := hrdL out) (a := p1) (b := p2) (n := n) (by omega) (by omega) (by omega) h2n hlt16 hno12 hno21
      have hjlt := joinH_lt (a := p1) (b := p2) hlt16 (by omega) h2n (by omega)
      have JN := Lib.hid (fun W (h : W.rowIs c 84 n (fun i => setV (hrdL out i))) => join_any W c n n (hrdL out) p1 p2 p1 p2 rfl rfl (by omega) h2n (by omega) (by omega) h hlt16)
      have hsn := hrdL_snoc out (p1, p2)
      have hgs : gsz n (out ++ [(p1, p2)]) = size16 (best (joinH (hrdL out) p1 p2) n) := by
        unfold gsz
        rw [hsn]
      have EX := Lib.hid (fun W (h : W.rowIs c 84 n (fun i => setV (joinH (hrdL out) p1 p2 i))) => exceeds_any W c n n r (joinH (hrdL out) p1 p2) h hjlt (by omega) (by omega))
      rw [← hgs] at EX
      have PT := Lib.hid (fun W (h : W.rowIs c 84 n (fun i => setV (joinH (hrdL out) p1 p2 i))) => part_any W c n n (joinH (hrdL out) p1 p2) p1 p2 p1 p2 rfl rfl (by omega) h2n (by omega) (by omega) h hjlt)
      have HPJ := Lib.hid hpj
      have HSN := Lib.hid hsn
      have hst2 : Hid (frL n r (L.take (k + 1)) = if gsz n (out ++ [(p1, p2)]) ≤ r then out ++ [(p1, p2)] else out) := hstep.out
      obtain ⟨gs, HGS⟩ : ∃ x, Hid (x = gsz n (out ++ [(p1, p2)])) := ⟨_, rfl⟩
      rw [← HGS.out] at EX hst2
      clear hpj hsn hgs hno12 hno21 hlt16 hjlt hstep hnot hokO HGS
      have d0 : (wr.alloc (.cells #[.int .i64 p1, .int .i64 p2] 94)).cell? ⟨wr.heap.size, 0, none⟩ = some (.int .i64 p1) := by unfold World.cell?; dsimp only; rw [blk_alloc_new]; rfl
      have d1 : (wr.alloc (.cells #[.int .i64 p1, .int .i64 p2] 94)).cell? ⟨wr.heap.size, 1, none⟩ = some (.int .i64 p2) := by unfold World.cell?; dsimp only; rw [blk_alloc_new]; rfl
      have hszr := hX.size
      have hne : ¬ wr.heap.size = c := by omega
      have hKa : Kept wr (wr.alloc (.cells #[.int .i64 p1, .int .i64 p2] 94)) := (Kept.refl wr).alloc _
      have hwk : ∀ {x y : World}, Kept x y → KeptX (fun i => i = c) x y := fun h => h.weaken (fun _ h => h.elim)
      by_cases hg : r < gs
      · have hfin : Hid (frL n r (L.take (k + 1)) = out) := by show _ = _; rw [hst2.out, if_neg (by omega)]
        have hd : decide (r < gs) = true := decide_eq_true hg
        rw [hd] at EX
        clear hst2 hd
        go_wp2_with (first | (go_at_call 72; refine (JN.out _ (((Kept.refl _).alloc _).row hR)).mono ?_; rintro e w3 ⟨rfl, hX3, hR3⟩) | (go_at_call 96; refine (EX.out _ hR3).mono ?_; clear EX; rintro e w4 ⟨rfl, hk4⟩; have z0 := hk4.cellSome (hX3.cellSome d0 hne); have z1 := hk4.cellSome (hX3.cellSome d1 hne)) | (go_at_call 97; refine (PT.out _ (hk4.row hR3)).mono ?_; clear PT; rintro e w5 ⟨rfl, hX5, hR5⟩))
        have hXf := (((hX.trans (hwk hKa)).trans hX3).trans (hwk hk4)).trans hX5
        go_roundg (N - (k + 1))
        case measure => omega
        case rel => exact ⟨k + 1, by omega, rfl, by first | rfl | go_num, hXf, by rw [hfin.out]; exact hR5.congr (fun i hi => by rw [HPJ.out i hi])⟩
      · have hfin : Hid (frL n r (L.take (k + 1)) = out ++ [(p1, p2)]) := by show _ = _; rw [hst2.out, if_pos (by omega)]
        have hd : decide (r < gs) = false := decide_eq_false hg
        rw [hd] at EX
        clear hst2 hd PT HPJ
        go_wp2_with (first | (go_at_call 72; refine (JN.out _ (((Kept.refl _).alloc _).row hR)).mono ?_; rintro e w3 ⟨rfl, hX3, hR3⟩) | (go_at_call 96; refine (EX.out _ hR3).mono ?_; clear EX; rintro e w4 ⟨rfl, hk4⟩))
        have hXf := ((hX.trans (hwk hKa)).trans hX3).trans (hwk hk4)
        go_roundg (N - (k + 1))
        case measure => omega
        case rel => exact ⟨k + 1, by omega, rfl, by first | rfl | go_num, hXf, by rw [hfin.out]; exact (hk4.row hR3).congr (fun i _ => by rw [HSN.out])⟩
    · obtain rfl : k = N := by omega
      rw [HN.out, List.take_length] at hR
      go_wp2_with fail
      go_ret
      exact ⟨c, rfl, hcw, hR, Kept.step hK2 hX (fun i hi => by rw [hi]; exact hcw)⟩
theorem along_bits {A B : Nat → Int} {n : Nat} (m : Nat) (h : allN (pairB (n : Int) A B) m = true) {i j : Nat} (hb : (alongH A B m i).testBit j = true) : j < n := by
  rw [along_adj (n := (n : Int)) m h i j] at hb
  induction m with
  | zero => cases hb
  | succ m ih =>
    obtain ⟨a0, b0, a1, b1, _⟩ := pairB_true (allN_at h (Nat.lt_succ_self m))
    have hb2 : setF (adjP A B m) (A m).toNat (B m).toNat i j = true := hb
    unfold setF at hb2
    rw [Bool.or_eq_true, Bool.or_eq_true, Bool.and_eq_true, Bool.and_eq_true] at hb2
    simp only [decide_eq_true_eq] at hb2
    rcases hb2 with (h1 | h1) | h1
    · exact ih (allN_prev h) h1
    · omega
    · omega
theorem own_nil {w : World} {base e size : Nat} {v : Value} {n : Nat} {xs : List Value} (h : w.ownsRow base e size v n xs) : ∃ a cap, v = .slice a n cap ∧ (a = none → cap = 0) := by
  rcases h.2 with ⟨rfl, e⟩ | ⟨g, cap, cur, rfl, _⟩
  · exact ⟨none, 0, by rw [e], fun _ => rfl⟩
  · exact ⟨_, cap, rfl, fun h => by cases h⟩
/-- what Free returns -/
def FreeAns (w : World) (n r : Int) (A B : Nat → Int) (m : Nat) (e : Ending) (w' : World) : Prop :=
  Kept w w' ∧ if goodH n A B m && withinB r 9 then ∃ (a : Option Addr) (cap : Nat), e = .returned (.tuple #[.slice a (frL n.toNat r.toNat (pairsH (alongH A B m) n.toNat)).length cap, .int .i64 0]) ∧ (a = none → cap = 0) ∧ PrsAt w' (.slice a (frL n.toNat r.toNat (pairsH (alongH A B m) n.toNat)).length cap) (frL n.toNat r.toNat (pairsH (alongH A B m) n.toNat)) else e = .returned (.tuple #[.slice none 0 0, .int .i64 1])
set_option maxRecDepth 100000 in
set_option maxHeartbeats 4000000 in
theorem Free_any (w : World) (n r : Int) (v : Value) (m : Nat) (A B : Nat → Int) (hP : PairsAt w v m A B) (hm : m ≤ 1000000) :
    Calls Tryz.prog 31 #[.int .i64 n, .int .i64 r, v] w (FreeAns w n r A B m) := by
  have HO := Lib.hid (herdOf_any w n v m A B hP hm)
  have WR := Lib.hid (fun W => isWithin_any W r 9)
  have hgf := Lib.hid (show goodH n A B m = true → (1 ≤ n ∧ n ≤ 9) ∧ allN (pairB n A B) m = true by
    intro h
    unfold goodH at h
    simp only [Bool.and_eq_true, decide_eq_true_eq] at h
    exact ⟨h.1.1, h.2⟩)
  obtain ⟨gb, HGB⟩ : ∃ gb, Hid (gb = goodH n A B m) := ⟨_, rfl⟩
  obtain ⟨rb, HRB⟩ : ∃ b, Hid (b = withinB r 9) := ⟨_, rfl⟩
  have e2 : decide (1 ≤ r ∧ r ≤ 9) = rb := HRB.out.symm
  rw [e2] at WR
  have hrf := Lib.hid (show rb = true → 1 ≤ r ∧ r ≤ 9 by rw [← e2]; exact of_decide_eq_true)
  unfold HerdOfPost at HO
  unfold FreeAns
  rw [← HGB.out] at HO hgf ⊢
  rw [← HRB.out]
  clear HGB HRB e2
  cases gb with
  | false =>
    go_enter Tryz.func31, Tryz.ntmps31
    go_wp2_with (first | (go_at_call 41; refine HO.out.mono ?_; rintro e w2 ⟨hk2, he⟩; rw [if_neg (by simp)] at he; subst he))
    go_ret2
    exact ⟨hk2, rfl⟩
  | true =>
    obtain ⟨⟨hn1, hn9⟩, hp⟩ := hgf.out rfl
    obtain ⟨N, rfl⟩ : ∃ N : Nat, n = N := ⟨n.toNat, by omega⟩
    have hlts := alongH_lt (n := N) (k := m) (by omega) hp
    have hbits : ∀ i j, i < N → (alongH A B m i).testBit j = true → j < N := fun i j _ h => along_bits m hp h
    simp only [Int.toNat_natCast] at HO ⊢
    cases rb with
    | false =>
      clear hlts hbits hp hgf hrf
      go_enter Tryz.func31, Tryz.ntmps31
      go_wp2_with (first | (go_at_call 41; refine HO.out.mono ?_; rintro e w2 ⟨hk2, he⟩; rw [if_pos trivial] at he; obtain ⟨g, rfl, hgs, hG⟩ := he) | (go_at_call 66; refine (WR.out _).mono ?_; rintro e w3 ⟨rfl, rfl⟩))
      go_ret2
      exact ⟨hk2, rfl⟩
    | true =>
      obtain ⟨hr1, hr9⟩ := hrf.out rfl
      obtain ⟨R, rfl⟩ : ∃ R : Nat, r = R := ⟨r.toNat, by omega⟩
      simp only [Int.toNat_natCast]
      obtain ⟨H, HH⟩ : ∃ H, Hid (H = alongH A B m) := ⟨_, rfl⟩
      rw [← HH.out] at hlts hbits HO ⊢
      have FA := Lib.hid (fun (W : World) (g : Nat) (hG : W.rowIs g 84 N (fun i => setV (H i))) => free_any W g N N R H hG hlts hbits (by omega) (by omega))
      unfold FreePost at FA
      have hok := pairsH_ok (by omega) hlts hbits
      have hsub := frL_sub N R (pairsH H N)
      have hokO : okL N (frL N R (pairsH H N)) := fun p hp => hok p (hsub.subset hp)
      have hph := pairs_hrd (by omega) hokO (List.Pairwise.sublist hsub (pairsH_sorted H N))
      have PR := Lib.hid (fun (W : World) (g : Nat) (hG : W.rowIs g 84 N (fun i => setV (hrdL (frL N R (pairsH H N)) i))) => pairs_any W (.slice (some ⟨g, 0, none⟩) N N) N (hrdL (frL N R (pairsH H N))) (CellsAt.of_row hG) (hrdL_lt (by omega) hokO) (by omega))
      unfold PairsPost at PR
      rw [hph] at PR
      clear hlts hbits hp hgf hrf hok hsub hokO hph HH
      go_enter Tryz.func31, Tryz.ntmps31
      go_wp2_with (first | (go_at_call 41; refine HO.out.mono ?_; rintro e w2 ⟨hk2, he⟩; rw [if_pos trivial] at he; obtain ⟨g, rfl, hgs, hG⟩ := he) | (go_at_call 66; refine (WR.out _).mono ?_; rintro e w3 ⟨rfl, rfl⟩) | (go_at_call 67; refine (FA.out _ _ hG).mono ?_; rintro e w4 ⟨c, rfl, hcs, hC, hk4⟩) | (go_at_call 68; refine (PR.out _ _ hC).mono ?_; rintro e w5 ⟨v5, rfl, hO5, hk5⟩))
      obtain ⟨a5, cap5, rfl, hn5⟩ := own_nil hO5
      go_ret2
      exact ⟨(hk2.trans hk4).trans hk5, _, _, rfl, hn5, PrsAt.of_own hO5⟩
end Go.Proofs.YtlnlddnjalfamaaGreatDoor
