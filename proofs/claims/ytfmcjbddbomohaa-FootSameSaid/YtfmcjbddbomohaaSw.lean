/-
  The law FootSame: its walk.
-/
import Derived.Test.YtfmcjbddbomohaaSe
import Derived.Test.YtfmcjbddbomohaaMw
namespace Go.Proofs.Ytfmcjbddbomohaa
open Go.RowKit Go.Deep

/-- v reads as n bytes -/
def BytesAt (w : World) (v : Value) (n : Nat) (Z : Nat → Nat) : Prop :=
  ∃ (a : Option Addr) (b o cap : Nat), v = .slice a n cap ∧ (0 < n → a = some ⟨b, o, none⟩) ∧ ∀ i, i < n → w.cell? ⟨b, o + i, none⟩ = some (.int .u8 ((Z i : Nat) : Int))
theorem BytesAt.kept {w w' : World} {v : Value} {n : Nat} {Z : Nat → Nat} (h : BytesAt w v n Z) (k : Kept w w') : BytesAt w' v n Z := by
  obtain ⟨a, b, o, cap, e, ha, hc⟩ := h
  exact ⟨a, b, o, cap, e, ha, fun i hi => k.cellSome (hc i hi)⟩
theorem pteqY (a b c d : Int) (h1 : a = c) (h2 : b = d) (w : World) : (binOp .eql 78 (.agg #[.int .i64 a, .int .i64 b]) (.agg #[.int .i64 c, .int .i64 d])).run Try.prog w = .ok (.bool true) w := by
  subst h1; subst h2
  go_simp
theorem pteqI (a b c d : Int) (h : ¬ (a = c ∧ b = d)) (w : World) : (binOp .eql 78 (.agg #[.int .i64 a, .int .i64 b]) (.agg #[.int .i64 c, .int .i64 d])).run Try.prog w = .ok (.bool false) w := by
  by_cases hx : a = c
  · have z1 : (a == c) = true := by simp [hx]
    have z2 : (b == d) = false := by simp; exact fun e => h ⟨hx, e⟩
    clear h hx
    go_simp
  · have z1 : (a == c) = false := by simpa using hx
    clear h hx
    go_simp
theorem own_frozen {w : World} {base e size n g cap : Nat} {xs : List Value} (h : w.ownsRow base e size (.slice (some ⟨g, 0, none⟩) n cap) n xs) (j : Nat) : w.frozen? ⟨g, j, none⟩ = false := by
  rcases h.2 with ⟨hv, _⟩ | ⟨g', cap', cur, e1, _, e3, _⟩
  · cases hv
  · cases e1; simp [World.frozen?, e3]
/-- what the comparison says before the point t -/
def SameV (b : Bool) (t L1 L2 : Nat) (P1 Q1 P3 Q3 : Nat → Int) : Prop := (b = true → L1 = L2 ∧ ∀ k, k < t → P1 k = P3 k ∧ Q1 k = Q3 k) ∧ (b = false → ¬ (L1 = L2 ∧ ∀ k, k < L1 → P1 k = P3 k ∧ Q1 k = Q3 k))
def c100 (x : Int) : Prop := -100 ≤ x ∧ x ≤ 100
theorem pairs_zero {w : World} {g n cap : Nat} {P Q : Nat → Int} (h : PairsAt w (.slice (some ⟨g, 0, none⟩) n cap) n P Q) (hn : 0 < n) : ∀ i, i < n → w.cell? ⟨g, i * 2, none⟩ = some (.int .i64 (P i)) ∧ w.cell? ⟨g, i * 2 + 1, none⟩ = some (.int .i64 (Q i)) := by
  obtain ⟨a, b, o, c, e, ha, hc⟩ := h
  cases e
  have := ha hn
  cases this
  intro i hi
  have := hc i hi
  simp only [Nat.zero_add] at this
  exact this
/-- one of the points, its first number one greater -/
def incF (r : Nat) (P : Nat → Int) : Nat → Int := fun k => if k = r then P k + 1 else P k
theorem pairs_inc {w : World} {g r n cap : Nat} {P Q : Nat → Int} (h : PairsAt w (.slice (some ⟨g, 0, none⟩) n cap) n P Q) (hr : r < n) {x : Int} (hx : x = P r) : PairsAt (w.setCell ⟨g, r * 2, none⟩ (.int .i64 (x + 1))) (.slice (some ⟨g, 0, none⟩) n cap) n (incF r P) Q := by
  obtain ⟨a, b, o, c, e, ha, hc⟩ := h
  cases e
  have := ha (by omega)
  cases this
  refine ⟨_, g, 0, cap, rfl, fun _ => rfl, fun i hi => ?_⟩
  have h1 := hc i hi
  simp only [Nat.zero_add] at h1 ⊢
  constructor
  · by_cases e : i = r
    · subst e
      rw [World.cell?_setCell_same' _ _ _ (by rw [h1.1]; rfl)]
      unfold incF
      rw [if_pos rfl, hx]
    · rw [World.cell?_setCell_other _ _ _ _ (fun e => by injection e; omega)]
      unfold incF
      rw [if_neg e]; exact h1.1
  · rw [World.cell?_setCell_other _ _ _ _ (fun e => by injection e; omega)]; exact h1.2
theorem c100_snoc {P Q : Nat → Int} {L : Nat} {x y : Int} (h : ∀ u, u < L → c100 (P u) ∧ c100 (Q u)) (hx : c100 x) (hy : c100 y) : ∀ u, u < L + 1 → c100 (snocF P L x u) ∧ c100 (snocF Q L y u) := by
  intro u hu
  unfold snocF
  by_cases e : u = L
  · rw [if_pos e, if_pos e]; exact ⟨hx, hy⟩
  · rw [if_neg e, if_neg e]; exact h u (by omega)
theorem news2 (W : World) (x y : Int) : ∀ (j : Nat) u, [Value.int .i64 x, .int .i64 y][j]? = some u → (W.alloc (.cells #[.int .i64 x, .int .i64 y] 78)).cell? ((⟨W.heap.size, 0, none⟩ : Addr).add j) = some u := fun j u h => by
  have hb := box2 W (.int .i64 x) (.int .i64 y) 78
  have : j = 0 ∨ j = 1 := by
    rcases Nat.lt_or_ge j 2 with e | e
    · omega
    · rw [List.getElem?_eq_none (by simp; omega)] at h; cases h
  rcases this with rfl | rfl
  · cases h; rw [add_at]; exact hb.1
  · cases h; rw [add_at]; exact hb.2
set_option maxRecDepth 100000 in
set_option maxHeartbeats 8000000 in
theorem sames_any (w : World) (xa ya : Option Addr) (q qcap r rcap : Nat) (X Y : Nat → Int) (Z : Nat → Nat) (mv : Bool) (hx : Int8sAt w (.slice xa q qcap) q X Y) (hX : small X) (hY : small Y) (hq : q ≤ maxLen) (hy : BytesAt w (.slice ya r rcap) r Z) (hZ : ∀ i, Z i < 256) (hr : r ≤ maxLen) :
    Calls Try.prog 14 #[.slice xa q qcap, .slice ya r rcap, .bool mv] w (LivesPost w) := by
  obtain ⟨i1, hi0, hq0, hq1, hq2⟩ := info_parts Try.infoPoint
  go_enter Try.func14, Try.ntmps14
  go_wp2_with fail
  refine (made_any _ xa q qcap 15 X Y hx hX hY hq (by omega) (by omega)).mono ?_
  rintro e w1 ⟨g1, c1, rfl, _, hP1, hk1, _⟩
  have hy1 := hy.kept hk1
  have hm := madeN_bd (q := q) (most := 15) (by omega)
  have hIA : InR (madeN q 15) (madeF q 1 X) (madeF q 2 Y) := made_in
  have hS : Hid (∀ i, c100 (madeF q 1 X i) ∧ c100 (madeF q 2 Y i)) := fun i => made_small i
  generalize madeN q 15 = m at *
  generalize madeF q 1 X = A at *
  generalize madeF q 2 Y = B at *
  obtain ⟨hm1, hm2⟩ := hm
  obtain ⟨ya', yb, yo, yc, e, hya, hyc⟩ := hy1
  cases e
  have HY := Lib.hid hyc
  have HZ := Lib.hid hZ
  have HIA := Lib.hid hIA
  unfold maxLen at hr
  have HP := Lib.hid hP1
  obtain ⟨a1, b1, o1, c1', e1, ha1, hc1⟩ := hP1
  cases e1
  have := ha1 (by omega)
  cases this
  have HC := Lib.hid hc1
  clear hx hX hY hq hy hyc hZ hIA hc1 ha1
  have hO0 := own_zeroT w1 w1.heap.size 78 2 (Nat.le_refl _)
  have hK0 : Kept w1 (w1.alloc (.cells #[] 78)) := (Kept.refl w1).alloc _
  go_wp2_with fail
  have hO1 : (w1.alloc (.cells #[] 78)).ownsRow w1.heap.size 78 2 (.slice (some ⟨w1.heap.size, 0, none⟩) 0 0) 0 (pairs A B 0) := hO0
  clear hO0
  generalize w1.alloc (.cells #[] 78) = W0 at *
  go_loopg [8, 9] m (fun g s8 s9 wr => ∃ (t L : Nat) (P Q : Nat → Int), t ≤ m ∧ g = m - t ∧ s9 = .int .i64 t ∧ L ≤ 2 * t ∧ t ≤ L ∧ Kept w1 wr ∧ wr.ownsRow w1.heap.size 78 2 s8 L (pairs P Q L) ∧ Hid (∀ u, u < L → c100 (P u) ∧ c100 (Q u)))
  case atStart => exact ⟨0, 0, A, B, by omega, by omega, rfl, by omega, by omega, hK0, hO1, fun u hu => absurd hu (by omega)⟩
  case round =>
    clear hK0 hO1
    obtain ⟨t, L, P, Q, htm, rfl, rfl, hL2, hL1, hK, hO, hB⟩ := hrel
    obtain ⟨oa, ocap, rfl, _, _, _, hob⟩ := own_form hO
    by_cases hlt : t < m
    · obtain ⟨c0, c1⟩ := HC.out t hlt
      simp only [Nat.zero_add] at c0 c1
      have hSt := hS.out t
      obtain ⟨x, HXX⟩ : ∃ x, Hid (x = A t) := ⟨_, rfl⟩
      obtain ⟨y, HYY⟩ : ∃ y, Hid (y = B t) := ⟨_, rfl⟩
      rw [← HXX.out] at c0 hSt
      rw [← HYY.out] at c1 hSt
      have HB2 : Hid (∀ u, u < L + 1 → c100 (snocF P L x u) ∧ c100 (snocF Q L y u)) := c100_snoc hB.out hSt.1 hSt.2
      have HB3 : Hid (∀ u, u < L + 1 + 1 → c100 (snocF (snocF P L x) (L + 1) x u) ∧ c100 (snocF (snocF Q L y) (L + 1) y u)) := c100_snoc HB2.out hSt.1 hSt.2
      clear hSt hB hob
      have s1 : (t : Int) < (m : Int) := by omega
      have s2 : (0 : Int) ≤ (t : Int) := by omega
      have t0 := hK.cellSome c0
      have t1 := hK.cellSome c1
      have hK1 := hK
      have hO1 := hO
      clear hK hO

      have HN1 : Hid (∀ (j : Nat) u, [Value.int .i64 x, .int .i64 y][j]? = some u → (wr.alloc (.cells #[.int .i64 x, .int .i64 y] 78)).cell? ((⟨wr.heap.size, 0, none⟩ : Addr).add j) = some u) := news2 wr x y
      have HO1 := Lib.hid (hO1.alloc (.cells #[.int .i64 x, .int .i64 y] 78))
      have hsz1 : w1.heap.size ≤ (wr.alloc (.cells #[.int .i64 x, .int .i64 y] 78)).heap.size := Kept.size (hK1.alloc _)
      clear hO1
      go_wp2_with (first | (at_builtin; refine wpList_append_own _ rfl _ _ 22 rfl w1.heap.size 78 i1 (.agg #[.int .i64 0, .int .i64 0]) 2 16 Try.underlying22 hi0 hq0 hq1 hq2 rfl (by decide) _ _ _ rfl HO1.out ⟨wr.heap.size, 0, none⟩ 1 1 [.int .i64 x, .int .i64 y] rfl rfl HN1.out (by simp [Value.oneCell']) ?c3 ?c4 hsz1 ?_))
      case c3 => unfold maxLen; omega
      case c4 => omega
      intro v2 W2 hO' hgr _
      have hK2 : Kept w1 W2 := (hK1.alloc _).step (grew_X hgr HO1.out) (fun i hi => hi)
      have hO2 : W2.ownsRow w1.heap.size 78 2 v2 (L + 1) (pairs (snocF P (L) x) (snocF Q (L) y) (L + 1)) := by
        rw [pairs_snocF]; exact hO'
      clear HO1 HN1 hgr hO' hsz1
      have u0 := hK2.cellSome c0
      have u1 := hK2.cellSome c1
      obtain ⟨oa2, ocap2, rfl, _⟩ := own_form hO2
      clear hK1 t0 t1
      by_cases hg : t < r ∧ Z t % 2 = 1
      · obtain ⟨hg1, hg2⟩ := hg
        obtain rfl := hya (by omega)
        have z0 := hK2.cellSome (HY.out t hg1)
        have zb := HZ.out t
        obtain ⟨z, HZZ⟩ : ∃ z, Hid (z = Z t) := ⟨_, rfl⟩
        rw [← HZZ.out] at z0 zb hg2
        have ez : (z : Int).tmod 2 = 1 := by rw [show (2 : Int) = ((2 : Nat) : Int) from rfl, ← Int.ofNat_tmod, hg2]; rfl
        have s3 : (t : Int) < (r : Int) := by omega

        have HN2 : Hid (∀ (j : Nat) u, [Value.int .i64 x, .int .i64 y][j]? = some u → (W2.alloc (.cells #[.int .i64 x, .int .i64 y] 78)).cell? ((⟨W2.heap.size, 0, none⟩ : Addr).add j) = some u) := news2 W2 x y
        have HO2 := Lib.hid (hO2.alloc (.cells #[.int .i64 x, .int .i64 y] 78))
        have hsz2 : w1.heap.size ≤ (W2.alloc (.cells #[.int .i64 x, .int .i64 y] 78)).heap.size := Kept.size (hK2.alloc _)
        clear hO2
        go_wp2_with (first | (at_builtin; refine wpList_append_own _ rfl _ _ 22 rfl w1.heap.size 78 i1 (.agg #[.int .i64 0, .int .i64 0]) 2 16 Try.underlying22 hi0 hq0 hq1 hq2 rfl (by decide) _ _ _ rfl HO2.out ⟨W2.heap.size, 0, none⟩ 1 1 [.int .i64 x, .int .i64 y] rfl rfl HN2.out (by simp [Value.oneCell']) ?c3 ?c4 hsz2 ?_))
        case c3 => unfold maxLen; omega
        case c4 => omega
        intro v3 W3 hO' hgr _
        have hK3 : Kept w1 W3 := (hK2.alloc _).step (grew_X hgr HO2.out) (fun i hi => hi)
        have hO3 : W3.ownsRow w1.heap.size 78 2 v3 (L + 1 + 1) (pairs (snocF (snocF P L x) (L + 1) x) (snocF (snocF Q L y) (L + 1) y) (L + 1 + 1)) := by
          rw [pairs_snocF]; exact hO'
        clear HO2 HN2 hgr hO' hsz2
        go_wp2_with fail
        go_roundg (m - (t + 1))
        case measure => omega
        case rel => exact ⟨t + 1, L + 1 + 1, _, _, by omega, by omega, by go_num, by omega, by omega, hK3, hO3, HB3⟩
      · by_cases hg1 : t < r
        · obtain rfl := hya (by omega)
          have z0 := hK2.cellSome (HY.out t hg1)
          have zb := HZ.out t
          have hg2 : ¬ Z t % 2 = 1 := fun h => hg ⟨hg1, h⟩
          obtain ⟨z, HZZ⟩ : ∃ z, Hid (z = Z t) := ⟨_, rfl⟩
          rw [← HZZ.out] at z0 zb hg2
          have ez : (z : Int).tmod 2 = 0 := by rw [show (2 : Int) = ((2 : Nat) : Int) from rfl, ← Int.ofNat_tmod, show z % 2 = 0 by omega]; rfl
          have s3 : (t : Int) < (r : Int) := by omega
          clear hg hg2
          go_wp2_with fail
          go_roundg (m - (t + 1))
          case measure => omega
          case rel => exact ⟨t + 1, L + 1, _, _, by omega, by omega, by go_num, by omega, by omega, hK2, hO2, HB2⟩
        · have s3 : ¬ (t : Int) < (r : Int) := by omega
          clear hg
          go_wp2_with fail
          go_roundg (m - (t + 1))
          case measure => omega
          case rel => exact ⟨t + 1, L + 1, _, _, by omega, by omega, by go_num, by omega, by omega, hK2, hO2, HB2⟩
    · obtain rfl : m = t := by omega
      have hQ0 := own_pairs hO
      obtain ⟨g2, rfl, hg2⟩ := hob (by omega)
      have hKW0 := hk1.trans hK
      have hA0 := HP.out.kept hK
      have hI0 : InR L P Q := fun u hu => by have := hB.out u hu; unfold c100 at this; unfold pl; omega
      have s1 : ¬ (m : Int) < (m : Int) := by omega
      have hfr := fun j => own_frozen hO j
      clear HC hS hO hob
      by_cases hmv : mv = true ∧ 0 < r
      · obtain ⟨rfl, hr0⟩ := hmv
        obtain rfl := hya hr0
        have z0 := hK.cellSome (HY.out 0 hr0)
        simp only [Nat.add_zero] at z0
        have zb := HZ.out 0
        have hBr := hB.out (Z 0 % L) (Nat.mod_lt _ (by omega))
        have hr1 : Z 0 % L < L := Nat.mod_lt _ (by omega)
        have ez : ((Z 0 : Nat) : Int).tmod (L : Int) = ((Z 0 % L : Nat) : Int) := (Int.ofNat_tmod _ _).symm
        obtain ⟨x, HXX⟩ : ∃ x, Hid (x = P (Z 0 % L)) := ⟨_, rfl⟩
        have hQ := pairs_inc hQ0 hr1 HXX.out
        have p0 : wr.cell? ⟨g2, Z 0 % L * 2, none⟩ = some (.int .i64 x) := by
          obtain ⟨a5, b5, o5, c5, e5, ha5, hc5⟩ := hQ0
          cases e5
          have := ha5 (by omega)
          cases this
          have := (hc5 _ hr1).1
          rw [Nat.zero_add] at this
          rw [HXX.out]; exact this
        have hI : InR L (incF (Z 0 % L) P) Q := fun u hu => by
          have := hB.out u hu
          unfold c100 at this
          unfold incF pl
          split <;> omega
        rw [← HXX.out] at hBr
        obtain ⟨z, HZZ⟩ : ∃ z, Hid (z = Z 0) := ⟨_, rfl⟩
        rw [← HZZ.out] at z0 zb ez hQ p0 hI hr1
        obtain ⟨rr, HRR⟩ : ∃ rr, Hid (rr = z % L) := ⟨_, rfl⟩
        rw [← HRR.out] at ez hQ p0 hI hr1
        have hb2 : -100 ≤ x ∧ x ≤ 100 := hBr.1
        have f0 := hfr (rr * 2)
        have ew : IntKind.i64.wrap (x + 1) = x + 1 := IntWalk.i64_in _ (by omega)
        have ew2 : IntKind.i64.wrap (z : Int) = (z : Int) := IntWalk.i64_in _ (by omega)
        have s2 : (0 : Int) < (r : Int) := by omega
        have s3 : (rr : Int) < (L : Int) := by omega
        have s4 : (0 : Int) ≤ (rr : Int) := by omega
        have s5 : ((L : Int) == 0) = false := by simp; omega
        have hK1 := hK.setCell (p := ⟨g2, rr * 2, none⟩) hg2 (.int .i64 (x + 1))
        have hKW := hk1.trans hK1
        have hA := HP.out.kept hK1
        clear hK hKW0 hA0 hI0 hB hBr hQ0 hK1 hg2 hr0
        generalize incF rr P = P2 at *
        go_wp2_with fail
        generalize wr.setCell ⟨g2, rr * 2, none⟩ (.int .i64 (x + 1)) = W at *
        refine (once_any _ _ m _ A B hA hm1 (by omega)).mono ?_
        rintro e w3 ⟨v3, L1, P1, Q1, rfl, hO3, hN1, hk3⟩
        have hC1 := own_pairs hO3
        obtain ⟨a3, cap3, rfl, _, _, _, hob3⟩ := own_form hO3
        have hL1p : 1 ≤ L1 := by have := hN1.1; omega
        obtain ⟨g3, rfl, _⟩ := hob3 (by omega)
        have hA3 := hA.kept hk3
        have hQ3 := hQ.kept hk3
        have hK3 := hKW.trans hk3
        have HN1 := Lib.hid hN1
        clear hA hQ hKW hk3 hO3 hob3 hN1
        go_wp2_with fail
        refine (once_any _ _ L _ P2 Q hQ3 (by omega) (by omega)).mono ?_
        rintro e w4 ⟨v4, L2, P3, Q3, rfl, hO4, hN2, hk4⟩
        have hC2 := own_pairs hO4
        obtain ⟨a4, cap4, rfl, _, _, _, hob4⟩ := own_form hO4
        have hL2p : 1 ≤ L2 := by have := hN2.1; omega
        obtain ⟨g4, rfl, _⟩ := hob4 (by omega)
        have hA4 := hA3.kept hk4
        have hQ4 := hQ3.kept hk4
        have hC3 := hC1.kept hk4
        have hK4 := hK3.trans hk4
        have HN2 := Lib.hid hN2
        have hl1 : L1 ≤ 1000 := by have := HN1.out.1; have := cls_le (A := A) (B := B) (m - 1); omega
        have hl2 : L2 ≤ 1000 := by have := HN2.out.1; have := cls_le (A := P2) (B := Q) (L - 1); omega
        clear hA3 hQ3 hK3 hk4 hO4 hob4 hC1 hN2
        have hE1 : Hid (∀ i, i < L1 → w4.cell? ⟨g3, i * 2, none⟩ = some (.int .i64 (P1 i)) ∧ w4.cell? ⟨g3, i * 2 + 1, none⟩ = some (.int .i64 (Q1 i))) := pairs_zero hC3 (by omega)
        have hE2 : Hid (∀ i, i < L2 → w4.cell? ⟨g4, i * 2, none⟩ = some (.int .i64 (P3 i)) ∧ w4.cell? ⟨g4, i * 2 + 1, none⟩ = some (.int .i64 (Q3 i))) := pairs_zero hC2 (by omega)
        clear hC2 hC3
        go_wp2_with fail
        go_loopg [13, 14] L1 (fun g s13 s14 wr => ∃ (t : Nat) (b : Bool), t ≤ L1 ∧ g = L1 - t ∧ s13 = .bool b ∧ s14 = .int .i64 t ∧ Kept w4 wr ∧ Hid (SameV b t L1 L2 P1 Q1 P3 Q3))
        case atStart => exact ⟨0, _, Nat.zero_le _, by omega, rfl, rfl, Kept.refl _, ⟨fun h => ⟨by (have h2 : (L1 : Int) = (L2 : Int) := by simpa using h); omega, fun k hk => absurd hk (by omega)⟩, fun h h' => by simp [h'.1] at h⟩⟩
        case round =>
          obtain ⟨t, b, htl, rfl, rfl, rfl, hKq, hV⟩ := hrel
          by_cases hgo : b = true ∧ t < L1
          · obtain ⟨rfl, hlt⟩ := hgo
            obtain ⟨hLL, hV1⟩ := hV.out.1 rfl
            obtain ⟨c0, c1⟩ := hE1.out t hlt
            obtain ⟨c2, c3⟩ := hE2.out t (by omega)
            have t0 := hKq.cellSome c0
            have t1 := hKq.cellSome c1
            have t2 := hKq.cellSome c2
            have t3 := hKq.cellSome c3
            have HV1 := Lib.hid hV1
            obtain ⟨x1, HX1⟩ : ∃ x, Hid (x = P1 t) := ⟨_, rfl⟩
            obtain ⟨y1, HY1⟩ : ∃ x, Hid (x = Q1 t) := ⟨_, rfl⟩
            obtain ⟨x2, HX2⟩ : ∃ x, Hid (x = P3 t) := ⟨_, rfl⟩
            obtain ⟨y2, HY2⟩ : ∃ x, Hid (x = Q3 t) := ⟨_, rfl⟩
            rw [← HX1.out] at t0
            rw [← HY1.out] at t1
            rw [← HX2.out] at t2
            rw [← HY2.out] at t3
            have s1 : (t : Int) < (L1 : Int) := by omega
            have s2 : (t : Int) < (L2 : Int) := by omega
            have s3 : (0 : Int) ≤ (t : Int) := by omega
            have HLL := Lib.hid hLL
            clear c0 c1 c2 c3 hV1 hLL
            by_cases heq : x1 = x2 ∧ y1 = y2
            · have hne := pteqY x1 y1 x2 y2 heq.1 heq.2
              have hV2 : Hid (SameV true (t + 1) L1 L2 P1 Q1 P3 Q3) := ⟨fun _ => ⟨HLL.out, fun k hk => by
                by_cases e : k = t
                · subst e; rw [← HX1.out, ← HY1.out, ← HX2.out, ← HY2.out]; exact heq
                · exact HV1.out k (by omega)⟩, fun h => by cases h⟩
              clear heq
              go_wp2_with fail
              go_quiet (fail)
              go_wp2_with fail
              go_roundg (L1 - (t + 1))
              case measure => omega
              case rel => exact ⟨t + 1, true, by omega, by omega, rfl, by go_num, hKq.drewN _, hV2⟩
            · have hne := pteqI x1 y1 x2 y2 heq
              have hV2 : Hid (SameV false (t + 1) L1 L2 P1 Q1 P3 Q3) := ⟨(fun h => by cases h), fun _ h => heq (by rw [HX1.out, HY1.out, HX2.out, HY2.out]; exact h.2 t hlt)⟩
              clear heq
              go_wp2_with fail
              go_quiet (fail)
              go_wp2_with fail
              go_roundg (L1 - (t + 1))
              case measure => omega
              case rel => exact ⟨t + 1, false, by omega, by omega, rfl, by go_num, hKq.drewN _, hV2⟩
          · have hT : Two wr m L _ _ A B P2 Q := ⟨hA4.kept hKq, hQ4.kept hKq, HIA.out, hI, hm1, by omega, by omega, by omega⟩
            have hbd := fre_bd HIA.out hI hm1 (show 1 ≤ L by omega)
            have hKf := hK4.trans hKq
            cases b with
            | true =>
              obtain rfl : t = L1 := Nat.le_antisymm htl (Nat.le_of_not_lt fun h => hgo ⟨rfl, h⟩)
              obtain ⟨hLL, hV1⟩ := hV.out.1 rfl
              have hz : fre m A B L P2 Q = 0 := by
                have := zero_of_same hm1 (by omega) HN1.out HN2.out hLL hV1
                have h2 : rst max (distF A B P2 Q) m L 0 0 = fre m A B L P2 Q := rfl
                omega
              have s1 : ¬ (t : Int) < (t : Int) := by omega
              clear hgo hV hV1 hbd hE1 hE2 hLL
              go_wp2_with fail
              refine (Frechet_good _ m L _ _ A B P2 Q hT).mono ?_
              rw [hz]
              rintro e w5 ⟨rfl, hk5⟩
              go_wp2_with fail
              refine (lives_any _).mono ?_
              rintro e w6 ⟨rfl, hk6⟩
              go_wp2_with fail
              go_ret
              exact ⟨rfl, (hKf.trans hk5).trans hk6⟩
            | false =>
              have hV1 := hV.out.2 rfl
              have hz : ¬ fre m A B L P2 Q = 0 := fun h => hV1 (same_of_zero hm1 (by omega) HN1.out HN2.out h)
              obtain ⟨d, HD⟩ : ∃ d, Hid (d = fre m A B L P2 Q) := ⟨_, rfl⟩
              rw [← HD.out] at hz
              have zd : (d == 0) = false := by simpa using hz
              clear hgo hV hV1 hbd hE1 hE2 hz
              by_cases hlt : (t : Int) < (L1 : Int)
              all_goals
                go_wp2_with fail
                refine (Frechet_good _ m L _ _ A B P2 Q hT).mono ?_
                rw [← HD.out]
                rintro e w5 ⟨rfl, hk5⟩
                go_wp2_with fail
                refine (lives_any _).mono ?_
                rintro e w6 ⟨rfl, hk6⟩
                go_wp2_with fail
                go_ret
                exact ⟨rfl, (hKf.trans hk5).trans hk6⟩
      · obtain ⟨P2, HPP⟩ : ∃ P2, Hid (P2 = P) := ⟨_, rfl⟩
        have hQ := hQ0
        have hA := hA0
        have hI := hI0
        have hKW := hKW0
        rw [← HPP.out] at hQ hI
        have hcs : mv = false ∨ (mv = true ∧ r = 0) := by
          cases mv
          · exact Or.inl rfl
          · exact Or.inr ⟨rfl, Nat.eq_zero_of_not_pos fun h => hmv ⟨rfl, h⟩⟩
        clear hmv hQ0 hA0 hI0 hKW0 hB hK hg2 hfr
        rcases hcs with rfl | ⟨rfl, rfl⟩
        all_goals
          go_wp2_with fail
          refine (once_any _ _ m _ A B hA hm1 (by omega)).mono ?_
          rintro e w3 ⟨v3, L1, P1, Q1, rfl, hO3, hN1, hk3⟩
          have hC1 := own_pairs hO3
          obtain ⟨a3, cap3, rfl, _, _, _, hob3⟩ := own_form hO3
          have hL1p : 1 ≤ L1 := by have := hN1.1; omega
          obtain ⟨g3, rfl, _⟩ := hob3 (by omega)
          have hA3 := hA.kept hk3
          have hQ3 := hQ.kept hk3
          have hK3 := hKW.trans hk3
          have HN1 := Lib.hid hN1
          clear hA hQ hKW hk3 hO3 hob3 hN1
          go_wp2_with fail
          refine (once_any _ _ L _ P2 Q hQ3 (by omega) (by omega)).mono ?_
          rintro e w4 ⟨v4, L2, P3, Q3, rfl, hO4, hN2, hk4⟩
          have hC2 := own_pairs hO4
          obtain ⟨a4, cap4, rfl, _, _, _, hob4⟩ := own_form hO4
          have hL2p : 1 ≤ L2 := by have := hN2.1; omega
          obtain ⟨g4, rfl, _⟩ := hob4 (by omega)
          have hA4 := hA3.kept hk4
          have hQ4 := hQ3.kept hk4
          have hC3 := hC1.kept hk4
          have hK4 := hK3.trans hk4
          have HN2 := Lib.hid hN2
          have hl1 : L1 ≤ 1000 := by have := HN1.out.1; have := cls_le (A := A) (B := B) (m - 1); omega
          have hl2 : L2 ≤ 1000 := by have := HN2.out.1; have := cls_le (A := P2) (B := Q) (L - 1); omega
          clear hA3 hQ3 hK3 hk4 hO4 hob4 hC1 hN2
          have hE1 : Hid (∀ i, i < L1 → w4.cell? ⟨g3, i * 2, none⟩ = some (.int .i64 (P1 i)) ∧ w4.cell? ⟨g3, i * 2 + 1, none⟩ = some (.int .i64 (Q1 i))) := pairs_zero hC3 (by omega)
          have hE2 : Hid (∀ i, i < L2 → w4.cell? ⟨g4, i * 2, none⟩ = some (.int .i64 (P3 i)) ∧ w4.cell? ⟨g4, i * 2 + 1, none⟩ = some (.int .i64 (Q3 i))) := pairs_zero hC2 (by omega)
          clear hC2 hC3
          go_wp2_with fail
          go_loopg [13, 14] L1 (fun g s13 s14 wr => ∃ (t : Nat) (b : Bool), t ≤ L1 ∧ g = L1 - t ∧ s13 = .bool b ∧ s14 = .int .i64 t ∧ Kept w4 wr ∧ Hid (SameV b t L1 L2 P1 Q1 P3 Q3))
          case atStart => exact ⟨0, _, Nat.zero_le _, by omega, rfl, rfl, Kept.refl _, ⟨fun h => ⟨by (have h2 : (L1 : Int) = (L2 : Int) := by simpa using h); omega, fun k hk => absurd hk (by omega)⟩, fun h h' => by simp [h'.1] at h⟩⟩
          case round =>
            obtain ⟨t, b, htl, rfl, rfl, rfl, hKq, hV⟩ := hrel
            by_cases hgo : b = true ∧ t < L1
            · obtain ⟨rfl, hlt⟩ := hgo
              obtain ⟨hLL, hV1⟩ := hV.out.1 rfl
              obtain ⟨c0, c1⟩ := hE1.out t hlt
              obtain ⟨c2, c3⟩ := hE2.out t (by omega)
              have t0 := hKq.cellSome c0
              have t1 := hKq.cellSome c1
              have t2 := hKq.cellSome c2
              have t3 := hKq.cellSome c3
              have HV1 := Lib.hid hV1
              obtain ⟨x1, HX1⟩ : ∃ x, Hid (x = P1 t) := ⟨_, rfl⟩
              obtain ⟨y1, HY1⟩ : ∃ x, Hid (x = Q1 t) := ⟨_, rfl⟩
              obtain ⟨x2, HX2⟩ : ∃ x, Hid (x = P3 t) := ⟨_, rfl⟩
              obtain ⟨y2, HY2⟩ : ∃ x, Hid (x = Q3 t) := ⟨_, rfl⟩
              rw [← HX1.out] at t0
              rw [← HY1.out] at t1
              rw [← HX2.out] at t2
              rw [← HY2.out] at t3
              have s1 : (t : Int) < (L1 : Int) := by omega
              have s2 : (t : Int) < (L2 : Int) := by omega
              have s3 : (0 : Int) ≤ (t : Int) := by omega
              have HLL := Lib.hid hLL
              clear c0 c1 c2 c3 hV1 hLL
              by_cases heq : x1 = x2 ∧ y1 = y2
              · have hne := pteqY x1 y1 x2 y2 heq.1 heq.2
                have hV2 : Hid (SameV true (t + 1) L1 L2 P1 Q1 P3 Q3) := ⟨fun _ => ⟨HLL.out, fun k hk => by
                  by_cases e : k = t
                  · subst e; rw [← HX1.out, ← HY1.out, ← HX2.out, ← HY2.out]; exact heq
                  · exact HV1.out k (by omega)⟩, fun h => by cases h⟩
                clear heq
                go_wp2_with fail
                go_quiet (fail)
                go_wp2_with fail
                go_roundg (L1 - (t + 1))
                case measure => omega
                case rel => exact ⟨t + 1, true, by omega, by omega, rfl, by go_num, hKq.drewN _, hV2⟩
              · have hne := pteqI x1 y1 x2 y2 heq
                have hV2 : Hid (SameV false (t + 1) L1 L2 P1 Q1 P3 Q3) := ⟨(fun h => by cases h), fun _ h => heq (by rw [HX1.out, HY1.out, HX2.out, HY2.out]; exact h.2 t hlt)⟩
                clear heq
                go_wp2_with fail
                go_quiet (fail)
                go_wp2_with fail
                go_roundg (L1 - (t + 1))
                case measure => omega
                case rel => exact ⟨t + 1, false, by omega, by omega, rfl, by go_num, hKq.drewN _, hV2⟩
            · have hT : Two wr m L _ _ A B P2 Q := ⟨hA4.kept hKq, hQ4.kept hKq, HIA.out, hI, hm1, by omega, by omega, by omega⟩
              have hbd := fre_bd HIA.out hI hm1 (show 1 ≤ L by omega)
              have hKf := hK4.trans hKq
              cases b with
              | true =>
                obtain rfl : t = L1 := Nat.le_antisymm htl (Nat.le_of_not_lt fun h => hgo ⟨rfl, h⟩)
                obtain ⟨hLL, hV1⟩ := hV.out.1 rfl
                have hz : fre m A B L P2 Q = 0 := by
                  have := zero_of_same hm1 (by omega) HN1.out HN2.out hLL hV1
                  have h2 : rst max (distF A B P2 Q) m L 0 0 = fre m A B L P2 Q := rfl
                  omega
                have s1 : ¬ (t : Int) < (t : Int) := by omega
                clear hgo hV hV1 hbd hE1 hE2 hLL
                go_wp2_with fail
                refine (Frechet_good _ m L _ _ A B P2 Q hT).mono ?_
                rw [hz]
                rintro e w5 ⟨rfl, hk5⟩
                go_wp2_with fail
                refine (lives_any _).mono ?_
                rintro e w6 ⟨rfl, hk6⟩
                go_wp2_with fail
                go_ret
                exact ⟨rfl, (hKf.trans hk5).trans hk6⟩
              | false =>
                have hV1 := hV.out.2 rfl
                have hz : ¬ fre m A B L P2 Q = 0 := fun h => hV1 (same_of_zero hm1 (by omega) HN1.out HN2.out h)
                obtain ⟨d, HD⟩ : ∃ d, Hid (d = fre m A B L P2 Q) := ⟨_, rfl⟩
                rw [← HD.out] at hz
                have zd : (d == 0) = false := by simpa using hz
                clear hgo hV hV1 hbd hE1 hE2 hz
                by_cases hlt : (t : Int) < (L1 : Int)
                all_goals
                  go_wp2_with fail
                  refine (Frechet_good _ m L _ _ A B P2 Q hT).mono ?_
                  rw [← HD.out]
                  rintro e w5 ⟨rfl, hk5⟩
                  go_wp2_with fail
                  refine (lives_any _).mono ?_
                  rintro e w6 ⟨rfl, hk6⟩
                  go_wp2_with fail
                  go_ret
                  exact ⟨rfl, (hKf.trans hk5).trans hk6⟩
end Go.Proofs.Ytfmcjbddbomohaa
