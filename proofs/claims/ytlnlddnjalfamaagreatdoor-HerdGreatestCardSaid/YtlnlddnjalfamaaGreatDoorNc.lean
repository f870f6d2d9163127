/-
  HerdGreatest.
-/
import Derived.Test.YtlnlddnjalfamaaGreatDoorNa
import Derived.Test.YtlnlddnjalfamaaGreatDoorNb
import Derived.Test.YtlnlddnjalfamaaGreatDoorLh
import Derived.Test.YtlnlddnjalfamaaGreatDoorKc
import Derived.Test.YtlnlddnjalfamaaGreatDoorKd
import Derived.Test.YtlnlddnjalfamaaGreatDoorIm
import Derived.Deep.RegionWith
import Derived.RegionTactic
namespace Go.Proofs.YtlnlddnjalfamaaGreatDoor
open Go.RowKit Go.Deep

theorem Tryz.infoQ : (Tryz.prog.info? 55).map (fun i => (i.zero, i.size, i.bytes)) = some (some (.agg #[.bool false, .slice none 0 0, .bool false, .slice none 0 0]), 4, 64) := by kernel_rfl
theorem filt_end {P : Nat → Bool} {n : Nat} (h : ∀ t, n ≤ t → P t = false) : ∀ m, n ≤ m → filt P m = filt P n := by
  intro m hm
  obtain ⟨d, rfl⟩ : ∃ d, m = n + d := ⟨m - n, by omega⟩
  clear hm
  induction d with
  | zero => rfl
  | succ d ih => rw [← Nat.add_assoc, filt_succ, ih, h (n + d) (by omega)]; simp
/-- a row of fractions, grown so far -/
def QOwn (w : World) (base : Nat) (v : Value) (k : Nat) : Prop := ∃ xs, w.ownsRow base 55 4 v k xs ∧ ∀ i, i < k → Num.EntQ w (xs.getD (i * 4) undef) (xs.getD (i * 4 + 1) undef) (xs.getD (i * 4 + 2) undef) (xs.getD (i * 4 + 3) undef) 0 1
theorem grownQ {w w' : World} {base : Nat} {a b c d : Value} {v : Value} {k : Nat} {xs : List Value} {x y : Int} (h : w.ownsRow base 55 4 v k xs) (he : Num.EntQ w a b c d x y) (hg : w.grownBy w' v.ownBlock) : Num.EntQ w' a b c d x y := by
  rcases h.2 with ⟨rfl, _⟩ | ⟨g, cap, cur, rfl, _⟩
  · exact he.kept ((Kept.refl w).grown hg (fun k hk => by cases hk))
  · obtain ⟨N, f, hr⟩ := Num.own_rowIs h
    exact he.keptX ((KeptX.refl (fun k => k = g) w).grown hg (fun k hk => Or.inl (by simpa [Value.ownBlock] using hk.symm))) hr (by decide)
theorem QOwn.next {w w' : World} {base : Nat} {v v' : Value} {k : Nat} {a b c d : Value} {xs : List Value} (h : w.ownsRow base 55 4 v k xs) (hE : ∀ i, i < k → Num.EntQ w (xs.getD (i * 4) undef) (xs.getD (i * 4 + 1) undef) (xs.getD (i * 4 + 2) undef) (xs.getD (i * 4 + 3) undef) 0 1)
    (he : Num.EntQ w a b c d 0 1) (hg : w.grownBy w' v.ownBlock) (h' : w'.ownsRow base 55 4 v' (k + 1) (xs ++ [a, b, c, d])) : QOwn w' base v' (k + 1) := by
  have hl : xs.length = k * 4 := h.1
  refine ⟨_, h', fun i hi => ?_⟩
  by_cases e : i = k
  · subst e
    have g0 : (xs ++ [a, b, c, d]).getD (i * 4) undef = a := by rw [List.getD_eq_getElem?_getD, List.getElem?_append_right (by omega), show i * 4 - xs.length = 0 by omega]; rfl
    have g1 : (xs ++ [a, b, c, d]).getD (i * 4 + 1) undef = b := by rw [List.getD_eq_getElem?_getD, List.getElem?_append_right (by omega), show i * 4 + 1 - xs.length = 1 by omega]; rfl
    have g2 : (xs ++ [a, b, c, d]).getD (i * 4 + 2) undef = c := by rw [List.getD_eq_getElem?_getD, List.getElem?_append_right (by omega), show i * 4 + 2 - xs.length = 2 by omega]; rfl
    have g3 : (xs ++ [a, b, c, d]).getD (i * 4 + 3) undef = d := by rw [List.getD_eq_getElem?_getD, List.getElem?_append_right (by omega), show i * 4 + 3 - xs.length = 3 by omega]; rfl
    rw [g0, g1, g2, g3]
    exact grownQ h he hg
  · have g : ∀ p, p < 4 → (xs ++ [a, b, c, d]).getD (i * 4 + p) undef = xs.getD (i * 4 + p) undef := fun p hp => by
      rw [List.getD_eq_getElem?_getD, List.getElem?_append_left (by omega), List.getD_eq_getElem?_getD]
    have g0 := g 0 (by omega)
    rw [Nat.add_zero] at g0
    rw [g0, g 1 (by omega), g 2 (by omega), g 3 (by omega)]
    exact grownQ h (hE i (by omega)) hg
theorem QOwn.row {w : World} {base : Nat} {v : Value} {k : Nat} (h : QOwn w base v k) (hk : 0 < k) : (∃ g cap, v = .slice (some ⟨g, 0, none⟩) k cap ∧ base ≤ g) ∧ Num.QRow w v k (fun _ => 0) (fun _ => 1) := by
  obtain ⟨xs, hO, hE⟩ := h
  rcases hO.2 with ⟨_, h0⟩ | ⟨g, cap, cur, rfl, hb, hc, h1, _, hs, ht⟩
  · omega
  · refine ⟨⟨g, cap, rfl, hb⟩, g, cap, cur.size, fun i => cur.getD i undef, rfl, ⟨cur, hc, rfl, fun i hi => by simp [Array.getD, hi]⟩, by rw [hs]; exact Nat.mul_le_mul_right 4 h1, fun i hi => ?_⟩
    have key : ∀ j, j < k * 4 → cur.getD j undef = xs.getD j undef := fun j hj => by
      have hjc : j < cur.size := by rw [hs]; exact Nat.lt_of_lt_of_le hj (Nat.mul_le_mul_right 4 h1)
      rw [← ht, List.getD_eq_getElem?_getD, List.getElem?_take, if_pos hj]
      simp [Array.getD, hjc]
    show Num.EntQ w (cur.getD (i * 4) undef) (cur.getD (i * 4 + 1) undef) (cur.getD (i * 4 + 2) undef) (cur.getD (i * 4 + 3) undef) 0 1
    rw [key (i * 4) (by omega), key (i * 4 + 1) (by omega), key (i * 4 + 2) (by omega), key (i * 4 + 3) (by omega)]
    exact hE i hi
theorem four_new (W : World) (h : Nat) (hh : W.heap.size = h) (a b c d : Value) (t : TypeId) : ∀ (j : Nat) (u : Value), [a, b, c, d][j]? = some u → (W.alloc (.cells #[a, b, c, d] t)).cell? ((⟨h, 0, none⟩ : Addr).add j) = some u := by
  subst hh
  intro j u hu
  have hj : j < 4 := by simpa using (List.getElem?_eq_some_iff.1 hu).1
  rw [add_at]
  unfold World.cell?
  dsimp only
  rw [blk_alloc_new]
  have : j = 0 ∨ j = 1 ∨ j = 2 ∨ j = 3 := by omega
  rcases this with rfl | rfl | rfl | rfl <;> simpa using hu
/-- n at the first k numbers of a list, 1 elsewhere -/
def memY (L : List Nat) (n : Int) (k t : Nat) : Int := if t ∈ L.take k then n else 1
theorem memY_succ (L : List Nat) (n : Int) (k : Nat) (h : k < L.length) : updZ (memY L n k) (L.getD k 0) n = memY L n (k + 1) := by
  funext t
  unfold updZ memY
  rw [take_snoc h]
  by_cases e : t = L.getD k 0
  · rw [if_pos e, if_pos (by rw [e]; simp)]
  · rw [if_neg e]
    by_cases h2 : t ∈ L.take k
    · rw [if_pos h2, if_pos (List.mem_append_left _ h2)]
    · rw [if_neg h2, if_neg (fun h3 => by
        rcases List.mem_append.1 h3 with h4 | h4
        · exact h2 h4
        · exact e (by simpa using h4))]
theorem gr_one : ∀ k : Fin 10, 1 ≤ k.val → qTB 1 (cF k.val) 1 = (1, k.val) ∧ qTB 0 (cF k.val) 1 = (0, 1) := by decide +kernel
def gX (k : Nat) : Nat := (k - 1) / Nat.gcd (k - 1) (2 * k)
def gY (k : Nat) : Nat := 2 * k / Nat.gcd (k - 1) (2 * k)
theorem gr_text : ∀ k : Fin 10, 1 ≤ k.val → grT k.val = fracS (gX k.val) (gY k.val) ∧ gX k.val < 100 ∧ 0 < gY k.val ∧ gY k.val < 100 ∧ Nat.gcd (gX k.val) (gY k.val) = 1 := by decide +kernel
theorem make_one (w : World) (k : Nat) (h1 : 1 ≤ k) (hk : k ≤ 9) : Calls Tryz.prog 30 #[.int .i64 1, .int .i64 k] w (Num.QPostT w 1 k) := by
  have h := Num.Make_ty w 1 k (by omega) (by omega) (by omega)
  have hg : (Int.gcd ((1 : Nat) : Int) (k : Int) : Int) = 1 := by
    show ((Nat.gcd 1 k : Nat) : Int) = 1
    simp
  rw [hg, Int.ediv_one, Int.ediv_one] at h
  exact h
theorem make_two (w : World) (k : Nat) (h1 : 1 ≤ k) (hk : k ≤ 9) : Calls Tryz.prog 30 #[.int .i64 ((k : Int) - 1), .int .i64 (2 * (k : Int))] w (Num.QPostT w (gX k : Nat) (gY k : Nat)) := by
  have h := Num.Make_ty w (k - 1) (2 * k) (by omega) (by omega) (by omega)
  have e1 : (((k - 1 : Nat) : Nat) : Int) = (k : Int) - 1 := by omega
  have e2 : ((2 * k : Nat) : Int) = 2 * (k : Int) := by omega
  have ex : (((k - 1 : Nat)) : Int) / (Int.gcd ((k - 1 : Nat) : Int) ((2 * k : Nat) : Int) : Int) = ((gX k : Nat) : Int) := (Int.natCast_ediv (k - 1) (Nat.gcd (k - 1) (2 * k))).symm
  have ey : ((2 * k : Nat) : Int) / (Int.gcd ((k - 1 : Nat) : Int) ((2 * k : Nat) : Int) : Int) = ((gY k : Nat) : Int) := (Int.natCast_ediv (2 * k) (Nat.gcd (k - 1) (2 * k))).symm
  rw [ex, ey, e1, e2] at h
  exact h
set_option maxRecDepth 100000 in
set_option maxHeartbeats 16000000 in
theorem hgreatest_any (w : World) (n : Int) (hn : -9223372036854775808 ≤ n ∧ n ≤ 9223372036854775807) (a : Option Addr) (l cap : Nat) (A B : Nat → Int) (hE : PairsAt w (.slice a l cap) l A B) (hl : l ≤ cap) (hnil : a = none → cap = 0) (hcap : cap ≤ maxLen) :
    Calls Tryz.prog 5 #[.agg #[.int .i64 n, .slice a l cap]] w (LivesPost w) := by
  have LV := Lib.hid lives_any
  obtain ⟨i1, hi, hz0, hz1, hz2⟩ := info_parts Tryz.infoQ
  obtain ⟨k, hk⟩ : ∃ k, k = min l 101 := ⟨_, rfl⟩
  have hk101 : k ≤ 101 := by omega
  have FW := Lib.hid (fun W (h : PairsAt W (.slice a l cap) l A B) => few_any W n a l cap k A B hk h hl hnil hcap)
  have RH := Lib.hid (fun W v (h : PairsAt W v k A B) => refHerd_any W n hn v k A B h (by omega))
  have GA0 := fun W v (h : PairsAt W v k A B) => Greatest_any W n v k A B h (by omega)
  unfold GreatestAns at GA0
  have hK0 : Kept w (w.alloc (.cells #[.int .i64 n, .slice a l cap] 24)) := (Kept.refl w).alloc _
  have hE0 := hE.kept hK0
  have HG := Lib.hid (show goodH n A B k = true → (1 ≤ n ∧ n ≤ 9) ∧ allN (pairB n A B) k = true by
    intro h
    unfold goodH at h
    simp only [Bool.and_eq_true, decide_eq_true_eq] at h
    exact ⟨h.1.1, h.2⟩)
  obtain ⟨gb, HGB⟩ : ∃ gb, Hid (gb = goodH n A B k) := ⟨_, rfl⟩
  rw [← HGB.out] at RH GA0 HG
  clear HGB hE hk hnil hcap hl
  cases gb with
  | false =>
    simp only [Bool.false_eq_true, if_false] at GA0
    have GA := Lib.hid GA0
    clear GA0 HG
    go_enter Tryz.func5, Tryz.ntmps5
    go_wp2_with (first | (go_at_call 9; refine (FW.out _ hE0).mono ?_; clear FW; rintro e w1 ⟨ea, ecap, rfl, hE1, hk1⟩) | (go_at_call 28; refine (GA.out _ _ hE1).mono ?_; clear GA; rintro e w2 ⟨hk2, rfl⟩; have hE2 := hE1.kept hk2) | (go_at_call 13; refine (RH.out _ _ hE2).mono ?_; clear RH; rintro e w5 ⟨rfl, hq5⟩) | (go_at_call 14; refine (LV.out _).mono ?_; rintro e w6 ⟨rfl, hk6⟩))
    go_ret
    exact ⟨rfl, (((hK0.trans hk1).trans hk2).trans hq5.kept).trans hk6⟩
  | true =>
    obtain ⟨⟨hn1, hn9⟩, hp⟩ := HG.out rfl
    obtain ⟨N, rfl⟩ : ∃ N : Nat, n = N := ⟨n.toNat, by omega⟩
    simp only [Int.toNat_natCast, if_true] at GA0
    have hsym := adj_sym (n := (N : Int)) k N hp
    have hF : ∀ i j, (alongH A B k i).testBit j = adjP A B k i j := fun i j => along_adj (n := (N : Int)) k hp i j
    have hrb := rbest_best (n := N) (by omega) hsym (fun i j _ _ => hF i j)
    have hbl : horsesL (best (alongH A B k) N) 9 = horsesL (best (alongH A B k) N) N := filt_end (fun t ht => by
      cases e : (best (alongH A B k) N).testBit t with
      | false => rfl
      | true => have := (best_spec (alongH A B k) (show N ≤ 14 by omega)).1.1 t e; omega) 9 (by omega)
    obtain ⟨hbs1, hbs2⟩ := best_size (H := alongH A B k) (n := N) (by omega) (by omega)
    have hbsl := best_sub (H := alongH A B k) (n := N) (by omega)
    have hbit := (best_spec (alongH A B k) (n := N) (by omega)).1.1
    have AL := Lib.hid (fun W v (h : PairsAt W v k A B) => Along_any W N v k A B (by omega) (by omega) h (by omega) hp)
    unfold AlongPost at AL
    have RG := Lib.hid (fun W v (h : GridAt W v N (adjP A B k)) => refGroup_any W v N _ h (by omega))
    unfold RGroupPost at RG
    rw [hrb, ← hbl] at RG
    clear hrb hbl hsym hF
    obtain ⟨G, HGG⟩ : ∃ G, Hid (G = best (alongH A B k) N) := ⟨_, rfl⟩
    rw [← HGG.out] at GA0 RG hbs1 hbs2 hbsl hbit
    obtain ⟨kk, HKK⟩ : ∃ kk, Hid (kk = size16 G) := ⟨_, rfl⟩
    rw [← HKK.out] at GA0 hbs1 hbs2 hbsl
    obtain ⟨tT, tx, ty0, ty, tg⟩ := gr_text ⟨kk, by omega⟩ hbs1
    obtain ⟨o1, o0⟩ := gr_one ⟨kk, by omega⟩ hbs1
    dsimp only at tT tx ty0 ty tg o1 o0
    rw [tT] at GA0
    have hfin : Hid (∀ i, i < N → grS G kk i = fracS (grX G i) (if G.testBit i then kk else 1) ∧ grX G i < 100 ∧ 0 < (if G.testBit i then kk else 1) ∧ (if G.testBit i then kk else 1) < 100 ∧ Nat.gcd (grX G i) (if G.testBit i then kk else 1) = 1) := fun i hi => by
      unfold grS partS grX
      cases e : G.testBit i with
      | false =>
        simp only [Bool.false_eq_true, if_false]
        rw [o0]
        exact ⟨rfl, by omega, by omega, by omega, rfl⟩
      | true =>
        simp only [if_true]
        rw [o1]
        exact ⟨rfl, by omega, by omega, by omega, by simp⟩
    have hXf : Hid (∀ i, i < N → memZ (horsesL G 9) (horsesL G 9).length i = ((grX G i : Nat) : Int) ∧ memY (horsesL G 9) (kk : Int) (horsesL G 9).length i = (((if G.testBit i then kk else 1 : Nat)) : Int)) := fun i hi => by
      refine ⟨?_, ?_⟩
      · rw [memZ_bit G i (by omega)]
        unfold grX
        split <;> rfl
      · unfold memY
        rw [List.take_length]
        have hm : i ∈ horsesL G 9 ↔ G.testBit i = true := by simp [horsesL, show i < 9 by omega]
        cases e : G.testBit i with
        | false => rw [if_neg (fun h => by rw [hm, e] at h; cases h)]; simp
        | true => rw [if_pos (by rw [hm, e])]; simp
    have hin : Hid (∀ j, j < (horsesL G 9).length → (horsesL G 9).getD j 0 < N) := fun j hj => hbit _ (horsesL_bit (getD_mem hj))
    obtain ⟨lg, HLG⟩ : ∃ x, Hid (x = horsesL G 9) := ⟨_, rfl⟩
    rw [← HLG.out] at RG hbsl hXf hin
    have IV := Lib.hid (fun W v (h : Num.QAt W v (gX kk : Nat) (gY kk : Nat)) => Num.IsS_any W v (gX kk) (gY kk) tx ty0 ty tg h)
    generalize fracS (gX kk) (gY kk) = TV at *
    have GA := Lib.hid GA0
    have MK := Lib.hid (fun W => make_one W kk hbs1 (by omega))
    have MK2 := Lib.hid (fun W => make_two W kk hbs1 (by omega))
    have AR := Lib.hid (fun W va vb (h1 : StrsAt W va N (grS G kk)) (h2 : Num.QRow W vb N (fun i => ((grX G i : Nat) : Int)) (fun i => (((if G.testBit i then kk else 1 : Nat)) : Int))) => Num.Are_any W va vb N (grS G kk) (grX G) (fun i => if G.testBit i then kk else 1) h1 h2 (by omega) hfin.out)
    clear GA0 HG hp hfin tT tx ty0 ty tg o1 o0 HGG HKK HLG hbit
    unfold Num.QPostT at MK MK2
    go_enter Tryz.func5, Tryz.ntmps5
    go_wp2_with (first | (go_at_call 9; refine (FW.out _ hE0).mono ?_; clear FW; rintro e w1 ⟨ea, ecap, rfl, hE1, hk1⟩) | (go_at_call 28; refine (GA.out _ _ hE1).mono ?_; clear GA; rintro e w2 ⟨hk2, gv, rfl, hgv⟩; have hE2 := hE1.kept hk2) | (go_at_call 13; refine (RH.out _ _ hE2).mono ?_; clear RH; rintro e w5 ⟨rfl, hq5⟩; have hE5 := hE2.kept hq5.kept) | (go_at_call 15; refine (AL.out _ _ hE5).mono ?_; clear AL; rintro e w6 ⟨v6, rfl, hg6, hk6⟩) | (go_at_call 18; refine (RG.out _ _ hg6).mono ?_; clear RG; rintro e w8 ⟨a8, cap8, rfl, hv8, hk8⟩))
    have hgv8 := CellsAt.kept hgv ((hq5.kept.trans hk6).trans hk8)
    have hK8 := (((((hK0.trans hk1).trans hk2).trans hq5.kept).trans hk6).trans hk8)
    obtain ⟨ga, gb, go, gc, rfl, hga, _⟩ := id hgv8
    obtain rfl := hga (by omega)
    obtain rfl := hbsl
    obtain ⟨B8, HB8⟩ : ∃ b, Hid (b = w8.heap.size) := ⟨_, rfl⟩
    have hO0 := Num.own_zeroT w8 B8 55 4 (by rw [HB8.out]; exact Nat.le_refl _)
    have hk9 : Kept w8 (w8.alloc (.cells #[] 55)) := (Kept.refl w8).alloc _
    go_loopg [9, 10] N (fun q s9 s10 wr => ∃ j : Nat, j ≤ N ∧ q = N - j ∧ s10 = .int .i64 j ∧ Kept w8 wr ∧ QOwn wr B8 s9 j)
    case atStart => exact ⟨0, Nat.zero_le _, rfl, rfl, hk9, ⟨[], hO0, fun i hi => by omega⟩⟩
    case round =>
      clear hO0 hk9
      obtain ⟨j, hj, rfl, rfl, hK, hO⟩ := hrel
      by_cases hlt : j < N
      · obtain ⟨xs, hO, hEE⟩ := hO
        have HEE := Lib.hid hEE
        clear hEE
        have s1 : (j : Int) < (N : Int) := by omega
        obtain ⟨va, vcap, rfl⟩ := own_shape hO
        have hsz : B8 ≤ wr.heap.size := by rw [HB8.out]; exact hK.size
        go_wp2_with (first | (go_at_call 29; refine (Num.Whole_ty _ 0 (by decide) (by decide)).mono ?_; rintro e w9 ⟨v9, rfl, hq9, ht9, hk9⟩; obtain ⟨m0, p0, l0, q0, m1, p1, l1, q1, rfl, _, _⟩ := hq9.shape; have hsz9 := Nat.le_trans hsz hk9.size) | (at_builtin; refine wpList_append_own _ rfl _ _ 49 rfl B8 55 i1 (.agg #[.bool false, .slice none 0 0, .bool false, .slice none 0 0]) 4 64 Tryz.underlying49 hi hz0 hz1 hz2 rfl (by decide) _ _ _ rfl ((own_kept hO hk9).alloc _) ⟨_, 0, none⟩ 1 1 [.bool m0, .slice p0 l0 q0, .bool m1, .slice p1 l1 q1] rfl rfl ?c1 ?c2 ?c3 ?c4 ?c5 ?_))
        case c1 => exact four_new _ _ (by simp) _ _ _ _ _
        case c2 => simp [Value.oneCell']
        case c3 => unfold maxLen; omega
        case c4 => omega
        case c5 => first | omega | (simp; omega)
        intro v' w2 hO3 hgr _
        have hO9 := own_kept hO hk9
        have hnx := QOwn.next (hO9.alloc (.cells #[.bool m0, .slice p0 l0 q0, .bool m1, .slice p1 l1 q1] 55)) (fun i hi => (HEE.out i hi).kept (hk9.alloc _)) (Num.EntQ.kept ⟨hq9, ht9⟩ ((Kept.refl w9).alloc _)) hgr hO3
        have hK2 : Kept w8 w2 := ((hK.trans hk9).alloc _).grew hgr (hO9.alloc _) (by rw [HB8.out]; exact Nat.le_refl _)
        clear hO3 hgr hO hO9 hq9 ht9 hk9 hK hsz hsz9 HEE
        go_wp2_with fail
        go_roundg (N - (j + 1))
        case measure => omega
        case rel => exact ⟨j + 1, by omega, rfl, by first | rfl | go_num, hK2, hnx⟩
      · obtain rfl : j = N := by omega
        obtain ⟨⟨g, gcap, rfl, hgb⟩, hQ⟩ := hO.row (by omega)
        have s1 : ¬ (j : Int) < (j : Int) := by omega
        obtain ⟨_, lb, lo, _, ee, hla, hlc⟩ := hv8
        cases ee
        have HLC := Lib.hid hlc
        clear hlc
        have hQ0 : Num.QRow wr (.slice (some ⟨g, 0, none⟩) j gcap) j (memZ lg 0) (memY lg (lg.length : Int) 0) := by
          have e1 : memZ lg 0 = fun _ => 0 := by funext t; simp [memZ]
          have e2 : memY lg (lg.length : Int) 0 = fun _ => 1 := by funext t; simp [memY]
          rw [e1, e2]
          exact hQ
        have hgw : w8.heap.size ≤ g := by rw [← HB8.out]; exact hgb
        clear hQ hO
        go_wp2_with fail
        go_loopg [11] lg.length (fun q s11 wr => ∃ i : Nat, i ≤ lg.length ∧ q = lg.length - i ∧ s11 = .int .i64 i ∧ Kept w8 wr ∧ Num.QRow wr (.slice (some ⟨g, 0, none⟩) j gcap) j (memZ lg i) (memY lg (lg.length : Int) i))
        case atStart => exact ⟨0, Nat.zero_le _, rfl, rfl, hK, hQ0⟩
        case round =>
          clear hQ0 hK
          obtain ⟨i, hil, rfl, rfl, hK, hQ⟩ := hrel
          by_cases hlt2 : i < lg.length
          · obtain rfl := hla (by omega)
            have y0 := hK.cellSome (HLC.out i hlt2)
            have hx := hin.out i hlt2
            have hz := Lib.hid (memZ_succ lg i hlt2)
            have hy := Lib.hid (memY_succ lg (lg.length : Int) i hlt2)
            obtain ⟨x, HX⟩ : ∃ x, Hid (x = lg.getD i 0) := ⟨_, rfl⟩
            rw [← HX.out] at hx hz hy
            (try dsimp only at y0)
            rw [← HX.out] at y0
            obtain ⟨g', cap', NN, f, ee, hR, hN4, hEnt⟩ := hQ
            cases ee
            have HEnt := Lib.hid hEnt
            have HR := Lib.hid hR
            have HY0 := Lib.hid (show ∀ W, Kept w8 W → W.cell? ⟨lb, lo + i, none⟩ = some (.int .i64 (x : Int)) from fun W hW => by
              have h := hW.cellSome (HLC.out i hlt2)
              (try dsimp only at h)
              rw [← HX.out] at h
              exact h)
            have s2 : (i : Int) < (lg.length : Int) := by omega
            have s3 : (0 : Int) ≤ (i : Int) := by omega
            have s4 : (x : Int) < (j : Int) := by omega
            have s5 : (0 : Int) ≤ (x : Int) := by omega
            clear hEnt HX
            clear hR
            go_upto_region 14 with fail
            refine wp_region_held_drew (S := (fun w' => w'.cell? ⟨lb, lo + i, none⟩ = some (.int .i64 (x : Int)))) (by kernel_rfl) ?_ (fun hHeld => ?_)
            · (try dsimp only)
              exact HY0.out _ (hK.trans (by repeat (first | assumption | exact Kept.refl _ | apply Kept.drew | apply Kept.drewN | apply Kept.alloc | refine Kept.trans ?_ (by assumption))))
            refine wpAnyH_take (i := 0) (oi := { dst := some 62, op := Go.Op.move (Go.Operand.tmp 9), type := 49, pos := "law.go:108", after := #[], guard := none }) (v := ?v1) rfl (by kernel_rfl) (by kernel_rfl) (by kernel_rfl) (fun _ _ _ h => h) (Or.inl ⟨by rfl, ?hy1⟩) (by assumption) ?rs1
            case hy1 =>
              intro w hSw
              (try dsimp only at hSw)
              go_simp
              try with_reducible rfl
            (try simp only [Act.put, List.setIfInBounds_toArray, List.set_cons_zero, List.set_cons_succ])
            refine wpAnyH_take (i := 1) (oi := { dst := some 63, op := Go.Op.move (Go.Operand.tmp 8), type := 27, pos := "law.go:108", after := #[], guard := none }) (v := ?v2) rfl (by kernel_rfl) (by kernel_rfl) (by kernel_rfl) (fun _ _ _ h => h) (Or.inl ⟨by rfl, ?hy2⟩) (by assumption) ?rs2
            case hy2 =>
              intro w hSw
              (try dsimp only at hSw)
              go_simp
              try with_reducible rfl
            (try simp only [Act.put, List.setIfInBounds_toArray, List.set_cons_zero, List.set_cons_succ])
            refine wpAnyH_take (i := 2) (oi := { dst := some 64, op := Go.Op.move (Go.Operand.tmp 11), type := 3, pos := "law.go:108", after := #[], guard := none }) (v := ?v3) rfl (by kernel_rfl) (by kernel_rfl) (by kernel_rfl) (fun _ _ _ h => h) (Or.inl ⟨by rfl, ?hy3⟩) (by assumption) ?rs3
            case hy3 =>
              intro w hSw
              (try dsimp only at hSw)
              go_simp
              try with_reducible rfl
            (try simp only [Act.put, List.setIfInBounds_toArray, List.set_cons_zero, List.set_cons_succ])
            refine wpAnyH_take (i := 3) (oi := { dst := some 65, op := Go.Op.indexAddr 27 (Go.Operand.tmp 63) (Go.Operand.tmp 64), type := 0, pos := "law.go:108", after := #[{ on := 1, ground := Go.Ground.data }, { on := 2, ground := Go.Ground.data }], guard := none }) (v := ?v4) rfl (by kernel_rfl) (by kernel_rfl) (by kernel_rfl) (fun _ _ _ h => h) (Or.inl ⟨by rfl, ?hy4⟩) (by assumption) ?rs4
            case hy4 =>
              intro w hSw
              (try dsimp only at hSw)
              go_simp
              try with_reducible rfl
            (try simp only [Act.put, List.setIfInBounds_toArray, List.set_cons_zero, List.set_cons_succ])
            refine wpAnyH_take (i := 4) (oi := { dst := some 66, op := Go.Op.load 3 (Go.Operand.tmp 65), type := 3, pos := "law.go:108", after := #[{ on := 3, ground := Go.Ground.data }], guard := none }) (v := ?v5) rfl (by kernel_rfl) (by kernel_rfl) (by kernel_rfl) (fun _ _ _ h => h) (Or.inl ⟨by rfl, ?hy5⟩) (by assumption) ?rs5
            case hy5 =>
              intro w hSw
              (try dsimp only at hSw)
              go_simp
              try with_reducible rfl
            (try simp only [Act.put, List.setIfInBounds_toArray, List.set_cons_zero, List.set_cons_succ])
            refine wpAnyH_take (i := 5) (oi := { dst := some 67, op := Go.Op.move (Go.Operand.tmp 8), type := 27, pos := "law.go:108", after := #[], guard := none }) (v := ?v6) rfl (by kernel_rfl) (by kernel_rfl) (by kernel_rfl) (fun _ _ _ h => h) (Or.inl ⟨by rfl, ?hy6⟩) (by assumption) ?rs6
            case hy6 =>
              intro w hSw
              (try dsimp only at hSw)
              go_simp
              try with_reducible rfl
            (try simp only [Act.put, List.setIfInBounds_toArray, List.set_cons_zero, List.set_cons_succ])
            refine wpAnyH_take (i := 6) (oi := { dst := some 68, op := Go.Op.call { callee := Go.Callee.builtin Go.Builtin.len, args := #[Go.Operand.tmp 67], argTypes := #[27] }, type := 3, pos := "law.go:108", after := #[{ on := 5, ground := Go.Ground.data }], guard := none }) (v := ?v7) rfl (by kernel_rfl) (by kernel_rfl) (by kernel_rfl) (fun _ _ _ h => h) (Or.inl ⟨by rfl, ?hy7⟩) (by assumption) ?rs7
            case hy7 =>
              intro w hSw
              (try dsimp only at hSw)
              go_simp
              try with_reducible rfl
            (try simp only [Act.put, List.setIfInBounds_toArray, List.set_cons_zero, List.set_cons_succ])
            refine wpAnyH_ready (rs := [7]) (by kernel_rfl) (by simp) ?_
            refine AllReadyH.cons (o := { dst := some 69, op := Go.Op.call { callee := Go.Callee.value (Go.Operand.func 30), args := #[Go.Operand.const (Go.Value.int Go.IntKind.i64 1), Go.Operand.tmp 68], argTypes := #[3, 3] }, type := 55, pos := "law.go:108", after := #[{ on := 6, ground := Go.Ground.data }], guard := none }) rfl (fun K7 hK7 => ?_) AllReadyH.nil
            go_simp
            (go_at_call 30; refine (MK.out _).mono ?_; rintro e u7 ⟨v7, rfl, hq7, ht7, hu7⟩; obtain ⟨m0, p0, l0, q0, m1, p1, l1, q1, rfl, _, _⟩ := hq7.shape)
            (try go_wp2_with fail)
            have hR7 := Kept.row (show Kept wr u7 from (by repeat (first | assumption | exact Kept.refl _ | apply Kept.drew | apply Kept.drewN | apply Kept.alloc | refine Kept.trans ?_ (by assumption)))) HR.out
            have f0 := hR7.cell (i := x * 4) (by omega)
            have f1 := hR7.cell (i := x * 4 + 1) (by omega)
            have f2 := hR7.cell (i := x * 4 + 2) (by omega)
            have f3 := hR7.cell (i := x * 4 + 3) (by omega)
            have z0 := hR7.frozen (x * 4)
            have z1 := hR7.frozen (x * 4 + 1)
            have z2 := hR7.frozen (x * 4 + 2)
            have z3 := hR7.frozen (x * 4 + 3)
            refine hK7.out _ _ ?_ (fun hHeld => ?_)
            · (try dsimp only)
              exact HY0.out _ (hK.trans (by repeat (first | assumption | exact Kept.refl _ | apply Kept.drew | apply Kept.drewN | apply Kept.alloc | refine Kept.trans ?_ (by assumption))))
            (try simp only [Act.put, List.setIfInBounds_toArray, List.set_cons_zero, List.set_cons_succ])
            refine wpAnyH_take (i := 8) (oi := { dst := some 70, op := Go.Op.indexAddr 49 (Go.Operand.tmp 62) (Go.Operand.tmp 66), type := 0, pos := "law.go:108", after := #[{ on := 0, ground := Go.Ground.data }, { on := 4, ground := Go.Ground.data }, { on := 0, ground := Go.Ground.phase }, { on := 1, ground := Go.Ground.phase }, { on := 2, ground := Go.Ground.phase }, { on := 3, ground := Go.Ground.phase }, { on := 4, ground := Go.Ground.phase }, { on := 5, ground := Go.Ground.phase }, { on := 6, ground := Go.Ground.phase }, { on := 7, ground := Go.Ground.phase }], guard := none }) (v := ?v8) rfl (by kernel_rfl) (by kernel_rfl) (by kernel_rfl) (fun _ _ _ h => h) (Or.inl ⟨by rfl, ?hy8⟩) (by assumption) ?rs8
            case hy8 =>
              intro w hSw
              (try dsimp only at hSw)
              go_simp
              try with_reducible rfl
            (try simp only [Act.put, List.setIfInBounds_toArray, List.set_cons_zero, List.set_cons_succ])
            refine wpAnyH_ready (rs := [9]) (by kernel_rfl) (by simp) ?_
            refine AllReadyH.cons (o := { dst := none, op := Go.Op.store 55 (Go.Operand.tmp 70) (Go.Operand.tmp 69), type := 0, pos := "law.go:108", after := #[{ on := 8, ground := Go.Ground.data }, { on := 7, ground := Go.Ground.data }, { on := 7, ground := Go.Ground.chain }, { on := 0, ground := Go.Ground.phase }, { on := 1, ground := Go.Ground.phase }, { on := 2, ground := Go.Ground.phase }, { on := 3, ground := Go.Ground.phase }, { on := 4, ground := Go.Ground.phase }, { on := 5, ground := Go.Ground.phase }, { on := 6, ground := Go.Ground.phase }, { on := 7, ground := Go.Ground.phase }], guard := none }) rfl (fun K9 hK9 => ?_) AllReadyH.nil
            go_simp
            skip
            (try go_wp2_with fail)
            have hKF : Kept w8 ((((u7.setCell ⟨g, x * 4, none⟩ (.bool m0)).setCell ⟨g, x * 4 + 1, none⟩ (.slice p0 l0 q0)).setCell ⟨g, x * 4 + 2, none⟩ (.bool m1)).setCell ⟨g, x * 4 + 3, none⟩ (.slice p1 l1 q1)) := ((((hK.trans (show Kept wr u7 from (by repeat (first | assumption | exact Kept.refl _ | apply Kept.drew | apply Kept.drewN | apply Kept.alloc | refine Kept.trans ?_ (by assumption))))).setCell hgw _).setCell hgw _).setCell hgw _).setCell hgw _
            refine hK9.out _ _ ?_ (fun hHeld => ?_)
            · (try dsimp only)
              exact HY0.out _ hKF
            (try simp only [Act.put, List.setIfInBounds_toArray, List.set_cons_zero, List.set_cons_succ])
            refine wpAnyH_done (by kernel_rfl) ?_ _
            have hQF := Num.QRow.set (cap := gcap) hR7 hN4 (fun t ht => (HEnt.out t ht).kept (show Kept wr u7 from (by repeat (first | assumption | exact Kept.refl _ | apply Kept.drew | apply Kept.drewN | apply Kept.alloc | refine Kept.trans ?_ (by assumption))))) x hx ⟨hq7, ht7⟩
            rw [hz.out, hy.out] at hQF
            have HQF := Lib.hid hQF
            clear hQF hR7 f0 f1 f2 f3 z0 z1 z2 z3 hq7 ht7 hu7 hHeld hK HEnt HR
            generalize ((((u7.setCell ⟨g, x * 4, none⟩ (.bool m0)).setCell ⟨g, x * 4 + 1, none⟩ (.slice p0 l0 q0)).setCell ⟨g, x * 4 + 2, none⟩ (.bool m1)).setCell ⟨g, x * 4 + 3, none⟩ (.slice p1 l1 q1)) = WF at *
            go_wp2_with fail
            go_roundg (lg.length - (i + 1))
            case measure => omega
            case rel => exact ⟨i + 1, by omega, rfl, by first | rfl | go_num, hKF, HQF.out⟩
          · obtain rfl : i = lg.length := by omega
            have hQf : Num.QRow wr (.slice (some ⟨g, 0, none⟩) j gcap) j (fun t => ((grX G t : Nat) : Int)) (fun t => (((if G.testBit t then lg.length else 1 : Nat)) : Int)) := by
              obtain ⟨g', cap', NN, f, ee, hR, hN4, hEnt⟩ := hQ
              refine ⟨g', cap', NN, f, ee, hR, hN4, fun t ht => ?_⟩
              have h := hEnt t ht
              rw [(hXf.out t ht).1, (hXf.out t ht).2] at h
              exact h
            have hgvr := CellsAt.kept hgv8 hK
            have s2 : ¬ (lg.length : Int) < (lg.length : Int) := by omega
            clear hQ hgv8 hXf hin HLC hla
            go_wp2_with (first | (go_at_call 30; refine (MK2.out _).mono ?_; rintro e u1 ⟨v1, rfl, hqa, hta, hka⟩; obtain ⟨m0, p0, l0, q0, m1, p1, l1, q1, rfl, _, _⟩ := hqa.shape) | (go_at_call 24; refine (IV.out _ _ hqa).mono ?_; rintro e u2 ⟨rfl, hkb⟩) | (go_at_call 26; refine (AR.out _ _ _ (CellsAt.kept hgvr (hka.trans hkb)) (hQf.kept (hka.trans hkb))).mono ?_; rintro e u3 ⟨rfl, hkc⟩) | (go_at_call 14; refine (LV.out _).mono ?_; rintro e u4 ⟨rfl, hkd⟩))
            go_ret
            exact ⟨rfl, ((((hK8.trans hK).trans hka).trans hkb).trans hkc).trans hkd⟩
end Go.Proofs.YtlnlddnjalfamaaGreatDoor
