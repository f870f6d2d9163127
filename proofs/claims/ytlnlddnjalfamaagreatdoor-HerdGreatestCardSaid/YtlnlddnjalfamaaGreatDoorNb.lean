/-
  The reference's fractions in rows; Are.
-/
import Derived.Test.YtlnlddnjalfamaaGreatDoorUh
import Derived.Test.YtlnlddnjalfamaaGreatDoorHp
import Derived.Test.YtlnlddnjalfamaaGreatDoorHt
import Derived.Deep.RegionWith
import Derived.RegionTactic
namespace Go.Proofs.YtlnlddnjalfamaaGreatDoor.Num
open Go.RowKit Go.Deep

theorem two_dec : ∀ i : Fin 100, 0 < i.val → DecL (twoS i.val).data.toList (i.val : Int) := by unfold DecL DecD; decide +kernel
theorem strL_two (i : Nat) : strL (twoS i).data.toList = twoS i := by unfold strL; simp
theorem two_len (i : Nat) : (twoS i).data.toList.length ≤ 100 := by
  have := twoS_size i
  have h : (twoS i).data.toList.length = (twoS i).size := by rw [Array.length_toList]; rfl
  omega
theorem IsS_any (w : World) (v : Value) (x y : Nat) (hx : x < 100) (hy0 : 0 < y) (hy : y < 100) (hg : Nat.gcd x y = 1) (hX : QAt w v x y) :
    Calls Tryz.prog 24 #[.string (fracS x y), v] w fun e w' => e = .returned (.bool true) ∧ Kept w w' := by
  have hbig : (100 : Int) < 10 ^ 60 := by decide
  have h := IsF_any w v (x : Int) (y : Int) (twoS x).data.toList (twoS y).data.toList hX (by show ((Nat.gcd x y : Nat) : Int) = 1; rw [hg]; rfl) (by omega) (by omega) (by omega) (by omega) (fun W u hz => by
    rw [strL_two]
    by_cases h0 : x = 0
    · subst h0
      exact fig_zero W u hz
    · refine (fig_any W u x hz (by omega)).mono ?_
      rintro e w' ⟨l, rfl, hl, hk⟩
      have e1 := hl.same (two_dec ⟨x, hx⟩ (by show 0 < x; omega))
      exact ⟨by rw [e1, strL_two], hk⟩) (two_dec ⟨y, hy⟩ hy0) (two_len x) (two_len y)
  have e : fracS x y = (if (y : Int) = 1 then strL (twoS x).data.toList else strL (twoS x).data.toList ++ (⟨#[47]⟩ ++ strL (twoS y).data.toList)) := by
    unfold fracS
    rw [strL_two, strL_two]
    by_cases h1 : y = 1
    · rw [if_pos h1, if_pos (by omega)]
    · rw [if_neg h1, if_neg (by omega)]
  rw [e]
  exact h
theorem QAt.keptTy {w w' : World} {v : Value} {x y : Int} {r N : Nat} {t : TypeId} {f : Nat → Value} (h : QAt w v x y) (hT : QTy w v) (k : KeptX (fun k => k = r) w w') (hr : w.rowIs r t N f) (ht : t ≠ 3) : QAt w' v x y ∧ QTy w' v := by
  obtain ⟨m, s, m2, s2, rfl, h1, h2⟩ := h
  obtain ⟨m', s', m2', s2', e, h3, h4⟩ := hT
  injection e with e
  injection e with e
  injection e with e1 e
  injection e with e2 e
  injection e with e3 e
  injection e with e4 e
  injection e1 with e1
  injection e3 with e3
  subst e1
  subst e2
  subst e3
  subst e4
  exact ⟨⟨m, s, m2, s2, rfl, h1.keptTy h3 k hr ht, h2.keptTy h4 k hr ht⟩, ⟨m, s, m2, s2, rfl, h3.keptX k hr ht, h4.keptX k hr ht⟩⟩
/-- four cells hold a fraction -/
def EntQ (w : World) (a b c d : Value) (x y : Int) : Prop := QAt w (.agg #[a, b, c, d]) x y ∧ QTy w (.agg #[a, b, c, d])
theorem EntQ.kept {w w' : World} {a b c d : Value} {x y : Int} (h : EntQ w a b c d x y) (k : Kept w w') : EntQ w' a b c d x y := ⟨h.1.kept k, h.2.kept k⟩
theorem EntQ.keptX {w w' : World} {a b c d : Value} {x y : Int} {r N : Nat} {t : TypeId} {f : Nat → Value} (h : EntQ w a b c d x y) (k : KeptX (fun k => k = r) w w') (hr : w.rowIs r t N f) (ht : t ≠ 3) : EntQ w' a b c d x y := h.1.keptTy h.2 k hr ht
theorem EntQ.shape {w : World} {a b c d : Value} {x y : Int} (h : EntQ w a b c d x y) : ∃ m p l q m2 p2 l2 q2, a = .bool m ∧ b = .slice p l q ∧ c = .bool m2 ∧ d = .slice p2 l2 q2 := by
  obtain ⟨m, p, l, q, m2, p2, l2, q2, e, _, _⟩ := h.1.shape
  injection e with e
  injection e with e
  injection e with e1 e
  injection e with e2 e
  injection e with e3 e
  injection e with e4 e
  exact ⟨m, p, l, q, m2, p2, l2, q2, e1, e2, e3, e4⟩
/-- a row of fractions -/
def QRow (w : World) (v : Value) (n : Nat) (X Y : Nat → Int) : Prop := ∃ (g cap N : Nat) (f : Nat → Value), v = .slice (some ⟨g, 0, none⟩) n cap ∧ w.rowIs g 55 N f ∧ n * 4 ≤ N ∧ ∀ i, i < n → EntQ w (f (i * 4)) (f (i * 4 + 1)) (f (i * 4 + 2)) (f (i * 4 + 3)) (X i) (Y i)
theorem QRow.kept {w w' : World} {v : Value} {n : Nat} {X Y : Nat → Int} (h : QRow w v n X Y) (k : Kept w w') : QRow w' v n X Y := by
  obtain ⟨g, cap, N, f, h1, h2, h3, h4⟩ := h
  exact ⟨g, cap, N, f, h1, k.row h2, h3, fun i hi => (h4 i hi).kept k⟩

/-- a store into a row of fractions -/
theorem QRow.set {w : World} {g n cap N : Nat} {f : Nat → Value} {X Y : Nat → Int} (h2 : w.rowIs g 55 N f) (h3 : n * 4 ≤ N) (h4 : ∀ i, i < n → EntQ w (f (i * 4)) (f (i * 4 + 1)) (f (i * 4 + 2)) (f (i * 4 + 3)) (X i) (Y i))
    (i : Nat) (hi : i < n) {a b c d : Value} {x y : Int} (he : EntQ w a b c d x y) :
    QRow ((((w.setCell ⟨g, i * 4, none⟩ a).setCell ⟨g, i * 4 + 1, none⟩ b).setCell ⟨g, i * 4 + 2, none⟩ c).setCell ⟨g, i * 4 + 3, none⟩ d) (.slice (some ⟨g, 0, none⟩) n cap) n (updZ X i x) (updZ Y i y) := by
  have hX : KeptX (fun k => k = g) w ((((w.setCell ⟨g, i * 4, none⟩ a).setCell ⟨g, i * 4 + 1, none⟩ b).setCell ⟨g, i * 4 + 2, none⟩ c).setCell ⟨g, i * 4 + 3, none⟩ d) := ((((KeptX.refl (fun k => k = g) w).setIn _ a).setIn _ b).setIn _ c).setIn _ d
  refine ⟨g, cap, N, _, rfl, (((h2.set (i * 4) a).set (i * 4 + 1) b).set (i * 4 + 2) c).set (i * 4 + 3) d, h3, fun j hj => ?_⟩
  by_cases e : j = i
  · subst e
    have h5 := he.keptX hX h2 (by decide)
    unfold updZ
    rw [if_pos rfl, if_pos rfl]
    have e1 : ¬ j * 4 = j * 4 + 1 := by omega
    have e2 : ¬ j * 4 = j * 4 + 2 := by omega
    have e3 : ¬ j * 4 = j * 4 + 3 := by omega
    have e4 : ¬ j * 4 + 1 = j * 4 + 2 := by omega
    have e5 : ¬ j * 4 + 1 = j * 4 + 3 := by omega
    have e6 : ¬ j * 4 + 2 = j * 4 + 3 := by omega
    simp only [e1, e2, e3, e4, e5, e6, if_true, if_false]
    exact h5
  · have h5 := (h4 j hj).keptX hX h2 (by decide)
    unfold updZ
    rw [if_neg e, if_neg e]
    have n1 : ∀ p q, p < 4 → q < 4 → ¬ j * 4 + p = i * 4 + q := fun p q _ _ => by omega
    have a0 := n1 0 0 (by omega) (by omega)
    have a1 := n1 0 1 (by omega) (by omega)
    have a2 := n1 0 2 (by omega) (by omega)
    have a3 := n1 0 3 (by omega) (by omega)
    have b0 := n1 1 0 (by omega) (by omega)
    have b1 := n1 1 1 (by omega) (by omega)
    have b2 := n1 1 2 (by omega) (by omega)
    have b3 := n1 1 3 (by omega) (by omega)
    have c0 := n1 2 0 (by omega) (by omega)
    have c1 := n1 2 1 (by omega) (by omega)
    have c2 := n1 2 2 (by omega) (by omega)
    have c3 := n1 2 3 (by omega) (by omega)
    have d0 := n1 3 0 (by omega) (by omega)
    have d1 := n1 3 1 (by omega) (by omega)
    have d2 := n1 3 2 (by omega) (by omega)
    have d3 := n1 3 3 (by omega) (by omega)
    simp only [Nat.add_zero] at a0 a1 a2 a3 b0 c0 d0
    simp only [a0, a1, a2, a3, b0, b1, b2, b3, c0, c1, c2, c3, d0, d1, d2, d3, if_false]
    exact h5
set_option maxRecDepth 100000 in
set_option maxHeartbeats 4000000 in
theorem Are_any (w : World) (va vb : Value) (n : Nat) (S : Nat → ByteArray) (X Y : Nat → Nat) (hA : StrsAt w va n S) (hB : QRow w vb n (fun i => (X i : Int)) (fun i => (Y i : Int))) (hn : n ≤ 1000)
    (hS : ∀ i, i < n → S i = fracS (X i) (Y i) ∧ X i < 100 ∧ 0 < Y i ∧ Y i < 100 ∧ Nat.gcd (X i) (Y i) = 1) :
    Calls Tryz.prog 26 #[va, vb] w fun e w' => e = .returned (.bool true) ∧ Kept w w' := by
  obtain ⟨a, b, o, cap, rfl, ha, hc⟩ := hA
  obtain ⟨g, cap2, N, f, rfl, hR, hN, hE⟩ := hB
  have HC := Lib.hid hc
  have HE := Lib.hid hE
  have HSS := Lib.hid hS
  clear hc hE hS
  go_enter Tryz.func26, Tryz.ntmps26
  go_wp2_with fail
  go_loopg [5] n (fun g s5 wr => ∃ k : Nat, k ≤ n ∧ g = n - k ∧ s5 = .int .i64 k ∧ Kept w wr)
  case atStart => exact ⟨0, Nat.zero_le _, rfl, by first | rfl | go_num, Kept.refl w⟩
  case round =>
    obtain ⟨k, hk, rfl, rfl, hK⟩ := hrel
    by_cases hlt : k < n
    · obtain rfl := ha (by omega)
      have t1 := hK.cellSome (HC.out k hlt)
      have hR1 := hK.row hR
      have f0 := hR1.cell (i := k * 4) (by omega)
      have f1 := hR1.cell (i := k * 4 + 1) (by omega)
      have f2 := hR1.cell (i := k * 4 + 2) (by omega)
      have f3 := hR1.cell (i := k * 4 + 3) (by omega)
      have hent := (HE.out k hlt).kept hK
      obtain ⟨m, p, l, q, m2, p2, l2, q2, e0, e1, e2, e3⟩ := hent.shape
      rw [e0] at f0 hent
      rw [e1] at f1 hent
      rw [e2] at f2 hent
      rw [e3] at f3 hent
      obtain ⟨hs, hx, hy0, hy, hgc⟩ := HSS.out k hlt
      have s1 : (k : Int) < (n : Int) := by omega
      have s2 : (0 : Int) ≤ (k : Int) := by omega
      (try dsimp only at t1)
      rw [hs] at t1
      have IS := Lib.hid (fun W (hW : Kept wr W) => IsS_any W _ (X k) (Y k) hx hy0 hy hgc (hent.1.kept hW))
      generalize fracS (X k) (Y k) = T at *
      clear hs hx hy0 hy hgc e0 e1 e2 e3 hent hR1
      go_wp2_with fail
      go_region_with (first | (go_at_call 24; refine (IS.out _ (by repeat (first | assumption | exact Kept.refl _ | apply Kept.drew | apply Kept.drewN | apply Kept.alloc | refine Kept.trans ?_ (by assumption)))).mono ?_; rintro e w4 ⟨rfl, hk4⟩))
      all_goals
        go_wp2_with fail
        go_roundg (n - (k + 1))
        case measure => omega
        case rel => exact ⟨k + 1, by omega, rfl, by first | rfl | go_num, hK.trans (by repeat (first | assumption | exact Kept.refl _ | apply Kept.drew | apply Kept.drewN | apply Kept.alloc | refine Kept.trans ?_ (by assumption)))⟩
    · obtain rfl : k = n := by omega
      have s1 : ¬ (k : Int) < (k : Int) := by omega
      go_wp2_with fail
      go_ret
      exact ⟨rfl, hK⟩
end Go.Proofs.YtlnlddnjalfamaaGreatDoor.Num
