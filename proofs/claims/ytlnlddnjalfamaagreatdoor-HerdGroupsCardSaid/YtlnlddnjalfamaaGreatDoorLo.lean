/-
  The reference's Free.
-/
import Derived.Test.YtlnlddnjalfamaaGreatDoorLm
import Derived.Test.YtlnlddnjalfamaaGreatDoorLh
import Derived.Laws.AppendOwnNone
namespace Go.Proofs.YtlnlddnjalfamaaGreatDoor
open Go.RowKit Go.Deep

theorem filt_ext {P : Nat → Bool} {n : Nat} (h : ∀ t, n ≤ t → P t = false) : ∀ m, n ≤ m → filt P m = filt P n := by
  intro m hm
  obtain ⟨d, rfl⟩ : ∃ d, m = n + d := ⟨m - n, by omega⟩
  clear hm
  induction d with
  | zero => rfl
  | succ d ih => rw [← Nat.add_assoc, filt_succ, ih, h (n + d) (by omega)]; simp
/-- the pairs of horse i with the greater ones below j -/
def rowT (F : Nat → Nat → Bool) (i j : Nat) : List (Nat × Nat) := (filt (fun t => decide (i < t) && F i t) j).map fun t => (i, t)
theorem rowT_succ (F : Nat → Nat → Bool) (i j : Nat) : rowT F i (j + 1) = rowT F i j ++ (if i < j ∧ F i j = true then [(i, j)] else []) := by
  unfold rowT
  rw [filt_succ, List.map_append]
  congr 1
  by_cases h : i < j <;> cases e : F i j <;> simp [h]
theorem rowT_start (F : Nat → Nat → Bool) (i : Nat) : rowT F i (i + 1) = [] := by
  unfold rowT filt
  rw [List.map_eq_nil_iff, List.filter_eq_nil_iff]
  intro t ht
  have := List.mem_range.1 ht
  simp
  omega
theorem pairsH_row {H : Nat → Nat} {F : Nat → Nat → Bool} {n i : Nat} (hn : n ≤ 9) (hi : i < n) (hH : H i < 65536) (hF : ∀ t, (H i).testBit t = F i t) (hb : ∀ t, F i t = true → t < n) : pairsH H (i + 1) = pairsH H i ++ rowT F i n := by
  rw [pairsH_succ]
  congr 1
  unfold rowT
  congr 1
  rw [horsesL_filt]
  rw [filt_cong (Q := fun t => decide (i < t) && F i t) (fun t _ => by rw [aft_bit _ _ _ hH (by omega), hF, Bool.and_comm])]
  exact filt_ext (fun t ht => by
    cases e : F i t with
    | false => simp
    | true => have := hb t e; omega) 9 hn
theorem rowT_len (F : Nat → Nat → Bool) (i j : Nat) : (rowT F i j).length ≤ j := by
  unfold rowT
  rw [List.length_map]
  exact filt_len _ _
theorem prs_src {w : World} {ad : Addr} {n cap : Nat} {l : List (Nat × Nat)} (h : PrsAt w (.slice (some ad) n cap) l) : ∀ j u, (prs l)[j]? = some u → w.cell? (ad.add j) = some u := by
  intro j u hu
  have hj : j < l.length * 2 := by
    rcases Nat.lt_or_ge j (l.length * 2) with e | e
    · exact e
    · rw [List.getElem?_eq_none (by rw [prs_len]; exact e)] at hu; cases hu
  obtain ⟨a, b, o, cap', e, ha, hc⟩ := h
  cases e
  have := ha (by omega)
  cases this
  rw [add_at]
  obtain ⟨p1, p2⟩ := prs_get l (j / 2) (by omega)
  obtain ⟨c1, c2⟩ := hc (j / 2) (by omega)
  by_cases e : j % 2 = 0
  · rw [show j / 2 * 2 = j by omega] at p1 c1
    rw [p1] at hu
    cases hu
    exact c1
  · rw [show j / 2 * 2 + 1 = j by omega] at p2
    rw [show o + j / 2 * 2 + 1 = o + j by omega] at c2
    rw [p2] at hu
    cases hu
    exact c2
theorem prs_one (l : List (Nat × Nat)) : ∀ v ∈ prs l, v.oneCell' = true := by
  intro v hv
  unfold prs at hv
  rw [List.mem_flatMap] at hv
  obtain ⟨p, _, h⟩ := hv
  simp at h
  rcases h with rfl | rfl <;> rfl
theorem okL_good {n : Nat} {L : List (Nat × Nat)} (h1 : 1 ≤ n) (hn : n ≤ 9) (h : okL n L) (hl : L.length ≤ 100) : goodH (n : Int) (prA L) (prB L) L.length = true := by
  unfold goodH
  rw [okL_pairs h]
  simp
  omega
theorem ref_size {n : Nat} {L : List (Nat × Nat)} (hn : n ≤ 9) (h : okL n L) : (horsesL (rbest (adjP (prA L) (prB L) L.length) n (2 ^ n)) n).length = gsz n L := by
  have hs := adj_sym (n := (n : Int)) L.length n (okL_pairs h)
  rw [rbest_best (H := hrdL L) (by omega) hs (fun i j _ _ => along_adj (n := (n : Int)) L.length (okL_pairs h) i j)]
  have hb : best (hrdL L) n < 2 ^ n := Nat.lt_pow_two_of_testBit _ fun i hi => by
    cases e : (best (hrdL L) n).testBit i with
    | false => rfl
    | true => have := (best_spec (hrdL L) (show n ≤ 14 by omega)).1.1 i e; omega
  exact horses_size (by omega) hb
def RFreePost (w : World) (L : List (Nat × Nat)) (e : Ending) (w' : World) : Prop := ∃ a cap, e = .returned (.slice a L.length cap) ∧ PrsAt w' (.slice a L.length cap) L ∧ Kept w w'
set_option maxRecDepth 100000 in
set_option maxHeartbeats 8000000 in
theorem refFree_any (w : World) (n r : Nat) (v : Value) (m : Nat) (A B : Nat → Int) (hn1 : 1 ≤ n) (hn : n ≤ 9) (hP : PairsAt w v m A B) (hm : m ≤ 1000000) (hp : allN (pairB (n : Int) A B) m = true) :
    Calls Tryz.prog 33 #[.int .i64 n, .int .i64 r, v] w (RFreePost w (frL n r (pairsH (alongH A B m) n))) := by
  obtain ⟨ip, gi, gz0, gz1, gz2⟩ := info_parts Tryz.infoPair
  have hlts := alongH_lt (n := n) (k := m) (by omega) hp
  have hF : ∀ i t, (alongH A B m i).testBit t = adjP A B m i t := fun i t => along_adj (n := (n : Int)) m hp i t
  have hbt : ∀ i t, adjP A B m i t = true → t < n := fun i t h => along_bits m hp (by rw [hF]; exact h)
  have hokP := pairsH_ok (n := n) (by omega) hlts (fun i j _ h => hbt i j (by rw [← hF]; exact h))
  have hrow : Hid (∀ i, i < n → pairsH (alongH A B m) (i + 1) = pairsH (alongH A B m) i ++ rowT (adjP A B m) i n) := fun i hi => pairsH_row hn hi (hlts i hi) (hF i) (hbt i)
  have hsubP : ∀ i, i ≤ n → ∀ p, p ∈ pairsH (alongH A B m) i → p ∈ pairsH (alongH A B m) n := fun i hi p h => by
    rw [pairsH_mem (by omega) (fun t ht => hlts t (by omega))] at h
    rw [pairsH_mem (by omega) hlts]
    exact ⟨by omega, h.2⟩
  have HOKI : Hid (∀ i, i ≤ n → okL n (pairsH (alongH A B m) i)) := fun i hi p h => hokP p (hsubP i hi p h)
  have AP := Lib.hid (Along_any w n v m A B hn1 (by omega) hP hm hp)
  unfold AlongPost at AP
  have AL := Lib.hid (fun W u (L : List (Nat × Nat)) (hL : okL n L) (hl : L.length ≤ 1000) (h : PrsAt W u L) => Along_any W n u L.length (prA L) (prB L) hn1 (by omega) h (by omega) (okL_pairs hL))
  unfold AlongPost at AL
  have RG := Lib.hid (fun W u (L : List (Nat × Nat)) (hL : okL n L) (h : GridAt W u n (adjP (prA L) (prB L) L.length)) => show Calls Tryz.prog 18 #[u] W fun e w' => ∃ x cap, e = .returned (.slice x (gsz n L) cap) ∧ Kept W w' by
    have h1 := refGroup_any W u n _ h hn
    unfold RGroupPost at h1
    rw [ref_size hn hL] at h1
    refine h1.mono ?_
    rintro e w' ⟨x, cap, rfl, _, hk⟩
    exact ⟨_, _, rfl, hk⟩)
  obtain ⟨H, HH⟩ : ∃ H, Hid (H = alongH A B m) := ⟨_, rfl⟩
  rw [← HH.out] at hrow HOKI ⊢
  obtain ⟨F, HF⟩ : ∃ F, Hid (F = adjP A B m) := ⟨_, rfl⟩
  rw [← HF.out] at hrow AP
  have hlen : Hid (∀ i, i ≤ n → (pairsH H i).length ≤ 81) := fun i hi => by
    have h1 := pairsH_len H i
    have : i * 9 ≤ 9 * 9 := Nat.mul_le_mul_right _ (by omega)
    omega
  clear hlts hF hbt hokP hsubP HH HF
  go_enter Tryz.func33, Tryz.ntmps33
  go_wp2_with (first | (go_at_call 15; refine AP.out.mono ?_; clear AP; rintro e w1 ⟨v1, rfl, hg1, hk1⟩))
  obtain ⟨g, gcap, R, rfl, hG⟩ := hg1
  have hK1 := hk1.alloc (.cells #[] 94)
  have hG1 := hG.kept ((Kept.refl w1).alloc (.cells #[] 94))
  have hP0 : PrsAt (w1.alloc (.cells #[] 94)) (.slice (some ⟨w1.heap.size, 0, none⟩) 0 0) (frL n r (pairsH H 0)) := ⟨_, 0, 0, _, rfl, fun h => absurd h (by simp [frL, pairsH]), fun i hi => absurd hi (by simp [frL, pairsH])⟩
  have hL0 : Hid ((frL n r (pairsH H 0)).length = 0) := rfl
  generalize w1.alloc (.cells #[] 94) = W1 at *
  clear hG hk1
  go_loopg [8, 9] n (fun q s8 s9 wr => ∃ i : Nat, i ≤ n ∧ q = n - i ∧ s9 = .int .i64 i ∧ Kept w wr ∧ Kept W1 wr ∧ ∃ ad cap, s8 = .slice (some ad) (frL n r (pairsH H i)).length cap ∧ PrsAt wr (.slice (some ad) (frL n r (pairsH H i)).length cap) (frL n r (pairsH H i)))
  case atStart => exact ⟨0, Nat.zero_le _, rfl, by first | rfl | go_num, hK1, Kept.refl _, _, 0, by rw [hL0.out], by rw [hL0.out]; exact hP0⟩
  case round =>
    obtain ⟨i, hi, rfl, rfl, hK, hKW, ad, cap, rfl, hPr⟩ := hrel
    by_cases hlt : i < n
    · have s1 : (i : Int) < (n : Int) := by omega
      have hrw := Lib.hid (hrow.out i hlt)
      have hst : Hid (pairsH H i ++ rowT F i (i + 1) = pairsH H i) := by show _ = _; rw [rowT_start, List.append_nil]
      have hrs := Lib.hid (rowT_succ F i)
      have hokr : Hid (∀ j, j ≤ n → okL n (pairsH H i ++ rowT F i j)) := fun j hj p h => by
        rw [List.mem_append] at h
        rcases h with h | h
        · exact HOKI.out i hi p h
        · have h2 := HOKI.out (i + 1) (by omega) p
          rw [hrw.out, List.mem_append] at h2
          refine h2 (Or.inr ?_)
          unfold rowT at h ⊢
          rw [List.mem_map] at h ⊢
          obtain ⟨t, ht, e⟩ := h
          have ht := List.mem_filter.1 ht
          exact ⟨t, List.mem_filter.2 ⟨List.mem_range.2 (by have := List.mem_range.1 ht.1; omega), ht.2⟩, e⟩
      have hl90 : Hid (∀ j, j ≤ n → (pairsH H i ++ rowT F i j).length ≤ 90) := fun j hj => by
        rw [List.length_append]
        have h1 := hlen.out i hi
        have h2 := rowT_len F i j
        omega
      go_wp2_with fail
      go_loopg [8, 10] (n - (i + 1)) (fun q s8 s10 wr => ∃ j : Nat, i + 1 ≤ j ∧ j ≤ n ∧ q = n - j ∧ s10 = .int .i64 j ∧ Kept w wr ∧ Kept W1 wr ∧ ∃ ad cap, s8 = .slice (some ad) (frL n r (pairsH H i ++ rowT F i j)).length cap ∧ PrsAt wr (.slice (some ad) (frL n r (pairsH H i ++ rowT F i j)).length cap) (frL n r (pairsH H i ++ rowT F i j)))
      case atStart => exact ⟨i + 1, Nat.le_refl _, by omega, rfl, by first | rfl | go_num, hK, hKW, ad, cap, by rw [hst.out], by rw [hst.out]; exact hPr⟩
      case round =>
        clear hK hKW hPr ad cap
        obtain ⟨j, hij, hj, rfl, rfl, hK, hKW, ad, cap, rfl, hPr⟩ := hrel
        by_cases hlt3 : j < n
        · have s2 : (j : Int) < (n : Int) := by omega
          have a0 : (0 : Int) ≤ (i : Int) := by omega
          have a1 : (0 : Int) ≤ (j : Int) := by omega
          have hG2 := hG1.kept hKW
          have u0 := hG2.sl i hlt
          have y0 := (hG2.rw i hlt).cell (i := j) hlt3
          have hnx := hrs.out j
          have hoks := hokr.out j (by omega)
          have hokn := hokr.out (j + 1) (by omega)
          have hl9 := hl90.out j (by omega)
          simp only [slV] at u0
          generalize R i = rx at *
          obtain ⟨fb, HFB⟩ : ∃ b, Hid (b = F i j) := ⟨_, rfl⟩
          rw [← HFB.out] at y0 hnx
          clear HFB hG2
          cases fb with
          | false =>
            have hC : Hid (pairsH H i ++ rowT F i (j + 1) = pairsH H i ++ rowT F i j) := by show _ = _; rw [hnx]; simp
            clear hnx
            go_wp2_with fail
            go_roundg (n - (j + 1))
            case measure => omega
            case rel => exact ⟨j + 1, by omega, by omega, rfl, by first | rfl | go_num, hK, hKW, ad, cap, by rw [hC.out], by rw [hC.out]; exact hPr⟩
          | true =>
            have hC : Hid (pairsH H i ++ rowT F i (j + 1) = (pairsH H i ++ rowT F i j) ++ [(i, j)]) := by
              show _ = _
              rw [hnx, if_pos ⟨by omega, rfl⟩, List.append_assoc]
            have hfr : Hid (frL n r (pairsH H i ++ rowT F i (j + 1)) = if gsz n (frL n r (pairsH H i ++ rowT F i j) ++ [(i, j)]) ≤ r then frL n r (pairsH H i ++ rowT F i j) ++ [(i, j)] else frL n r (pairsH H i ++ rowT F i j)) := by
              show _ = _
              rw [hC.out, frL_snoc]
              rfl
            have hsub := frL_sub n r (pairsH H i ++ rowT F i j)
            have hlo := hsub.length_le
            have hokw : okL n (frL n r (pairsH H i ++ rowT F i j) ++ [(i, j)]) := fun p h => by
              rw [List.mem_append] at h
              rcases h with h | h
              · exact hoks p (hsub.subset h)
              · simp at h
                subst h
                exact ⟨by show i < j; omega, hlt3⟩
            obtain ⟨out, HOUT⟩ : ∃ o, Hid (o = frL n r (pairsH H i ++ rowT F i j)) := ⟨_, rfl⟩
            rw [← HOUT.out] at hPr hfr hokw hlo ⊢
            obtain ⟨N, HN⟩ : ∃ N, Hid (N = out.length) := ⟨_, rfl⟩
            have hP2 := hPr
            rw [← HN.out] at hlo hP2 ⊢
            have AW := Lib.hid (fun W u h => AL.out W u (out ++ [(i, j)]) hokw (by rw [List.length_append, ← HN.out, List.length_singleton]; omega) h)
            have RW := Lib.hid (fun W u h => RG.out W u (out ++ [(i, j)]) hokw h)
            have hO1 := own_zeroP wr wr.heap.size 94 2 (Nat.le_refl _)
            have hS1 : Hid (∀ i u, (prs out)[i]? = some u → (wr.alloc (.cells #[] 94)).cell? (ad.add i) = some u) := prs_src (PairsAt.kept hP2 ((Kept.refl wr).alloc _))
            have hPk : Hid (PrsAt wr (.slice (some ad) N cap) out) := hP2
            clear hoks hokn hsub hokw hnx hC hP2 hPr
            go_wp2_with (first | (at_builtin; refine wpList_append_own _ rfl _ _ 22 rfl wr.heap.size 94 ip (.agg #[.int .i64 0, .int .i64 0]) 2 16 Tryz.underlying22 gi gz0 gz1 gz2 rfl (by decide) _ _ _ rfl hO1 ad N cap (prs out) rfl ?b0 ?b1 ?b2 ?b3 ?b4 ?b5 ?_))
            case b0 => rw [prs_len, HN.out]
            case b1 => exact hS1.out
            case b2 => exact prs_one out
            case b3 => unfold maxLen; omega
            case b4 => omega
            case b5 => first | omega | (simp; done) | (simp; omega)
            intro v8 w8 hO2 hgr1 _
            have hK3 := ((Kept.refl wr).alloc (.cells #[] 94)).grew hgr1 hO1 (Nat.le_refl _)
            obtain ⟨va, vcap, rfl⟩ := own_shape hO2
            have hsz1 := hK3.size
            go_wp2_with (first | (at_builtin; refine wpList_append_own _ rfl _ _ 22 rfl wr.heap.size 94 ip (.agg #[.int .i64 0, .int .i64 0]) 2 16 Tryz.underlying22 gi gz0 gz1 gz2 rfl (by decide) _ _ _ rfl (hO2.alloc _) ⟨_, 0, none⟩ 1 1 [.int .i64 (i : Int), .int .i64 (j : Int)] rfl rfl ?d1 ?d2 ?d3 ?d4 ?d5 ?_))
            case d1 => exact pair_new _ _ (by simp) _ _ _
            case d2 => simp [Value.oneCell']
            case d3 => unfold maxLen; omega
            case d4 => omega
            case d5 => first | omega | (simp; omega)
            intro v9 w9 hO3 hgr2 _
            have hK4 := (hK3.alloc (.cells #[.int .i64 (i : Int), .int .i64 (j : Int)] 94)).grew hgr2 (hO2.alloc _) (Nat.le_refl _)
            have hO4 : w9.ownsRow wr.heap.size 94 2 v9 (out ++ [(i, j)]).length (prs (out ++ [(i, j)])) := by
              rw [prs_snoc, List.length_append, ← HN.out]
              exact hO3
            clear hO3 hO2 hgr1 hgr2 hK3
            have hL4 := PrsAt.of_own hO4
            obtain ⟨b9, cap9, rfl⟩ : ∃ b cap, v9 = .slice (some ⟨b, 0, none⟩) (N + 1) cap := by
              rcases hO4.2 with ⟨_, e⟩ | ⟨g, c, cur, e, _⟩
              · simp at e
              · exact ⟨g, c, by rw [e, List.length_append, ← HN.out]; rfl⟩
            have hfy : Hid (gsz n (out ++ [(i, j)]) ≤ r → frL n r (pairsH H i ++ rowT F i (j + 1)) = out ++ [(i, j)]) := fun h => by rw [hfr.out, if_pos h]
            have hfn : Hid (¬ gsz n (out ++ [(i, j)]) ≤ r → frL n r (pairsH H i ++ rowT F i (j + 1)) = out) := fun h => by rw [hfr.out, if_neg h]
            obtain ⟨gz, HGZ⟩ : ∃ x, Hid (x = gsz n (out ++ [(i, j)])) := ⟨_, rfl⟩
            rw [← HGZ.out] at RW hfy hfn
            clear hfr HGZ hO4
            by_cases hgr : gz ≤ r
            · have z1 : (gz : Int) ≤ (r : Int) := by omega
              have z2 : decide (gz ≤ r) = true := decide_eq_true hgr
              have hfin := Lib.hid (hfy.out hgr)
              clear hfy hfn
              go_wp2_with (first | (go_at_call 15; refine (AW.out _ _ hL4).mono ?_; clear AW; rintro e w10 ⟨v10, rfl, hg10, hk10⟩) | (go_at_call 18; refine (RW.out _ _ hg10).mono ?_; clear RW; rintro e w11 ⟨x11, cap11, rfl, hk11⟩))
              go_roundg (n - (j + 1))
              case measure => omega
              case rel => exact ⟨j + 1, by omega, by omega, rfl, by first | rfl | go_num, ((hK.trans hK4).trans hk10).trans hk11, ((hKW.trans hK4).trans hk10).trans hk11, _, cap9, by rw [hfin.out, List.length_append, ← HN.out]; rfl, by
                rw [hfin.out]
                have h := (PairsAt.kept (PairsAt.kept hL4 hk10) hk11)
                rw [show (out ++ [(i, j)]).length = N + 1 by rw [List.length_append, ← HN.out]; rfl]
                exact h⟩
            · have z1 : ¬ (gz : Int) ≤ (r : Int) := by omega
              have z2 : decide (gz ≤ r) = false := decide_eq_false hgr
              have hfin := Lib.hid (hfn.out hgr)
              clear hfy hfn
              go_wp2_with (first | (go_at_call 15; refine (AW.out _ _ hL4).mono ?_; clear AW; rintro e w10 ⟨v10, rfl, hg10, hk10⟩) | (go_at_call 18; refine (RW.out _ _ hg10).mono ?_; clear RW; rintro e w11 ⟨x11, cap11, rfl, hk11⟩))
              go_roundg (n - (j + 1))
              case measure => omega
              case rel => exact ⟨j + 1, by omega, by omega, rfl, by first | rfl | go_num, ((hK.trans hK4).trans hk10).trans hk11, ((hKW.trans hK4).trans hk10).trans hk11, ad, cap, by rw [hfin.out, ← HN.out], by rw [hfin.out, ← HN.out]; exact PairsAt.kept (PairsAt.kept (PairsAt.kept hPk.out hK4) hk10) hk11⟩
        · obtain rfl : j = n := by omega
          rw [← hrw.out] at hPr ⊢
          go_wp2_with fail
          go_roundg (j - (i + 1))
          case measure => omega
          case rel => exact ⟨i + 1, by omega, rfl, by first | rfl | go_num, hK, hKW, ad, cap, rfl, hPr⟩
    · obtain rfl : i = n := by omega
      go_wp2_with fail
      go_ret
      exact ⟨_, _, rfl, hPr, hK⟩
end Go.Proofs.YtlnlddnjalfamaaGreatDoor
