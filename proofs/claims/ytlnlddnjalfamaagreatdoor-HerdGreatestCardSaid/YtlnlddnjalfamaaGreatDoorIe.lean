/-
  Rows of natural numbers that grow; products of factors, bounded.
-/
import Derived.Test.YtlnlddnjalfamaaGreatDoorHt
import Derived.Test.YtlnlddnjalfamaaGreatDoorHm
import Derived.Test.YtlnlddnjalfamaaGreatDoorTa
namespace Go.Proofs.YtlnlddnjalfamaaGreatDoor
open Go.RowKit Go.Deep

theorem Tryz.infoNat : (Tryz.prog.info? 130).map (fun i => (i.zero, i.size, i.bytes)) = some (some (.slice none 0 0), 1, 24) := by kernel_rfl
/-- a natural number in a row of its own -/
def TyNat (w : World) (v : Value) (z : Int) : Prop := ∃ (g k c N : Nat) (f : Nat → Value), v = .slice (some ⟨g, 0, none⟩) k c ∧ NatAt w v z ∧ w.rowIs g 69 N f
theorem TyNat.nat {w : World} {v : Value} {z : Int} (h : TyNat w v z) : NatAt w v z := by
  obtain ⟨g, k, c, N, f, _, h2, _⟩ := h
  exact h2
theorem TyNat.keptX {S : Nat → Prop} {w w' : World} {v : Value} {z : Int} (h : TyNat w v z) (k : KeptX S w w') (hS : ∀ b c f, w.heap[b]? = some (.cells c 69 f) → ¬ S b) : TyNat w' v z := by
  obtain ⟨g, kk, c, N, f, rfl, ⟨n, D, ⟨a, cap, e1, e2, e3, e4, ⟨a2, b2, o2, cap2, e5, ha, hc⟩⟩, hL, hz, hn⟩, hr⟩ := h
  have hg : ¬ S g := by
    obtain ⟨cur, hh, _⟩ := id hr
    exact hS g _ _ hh
  refine ⟨g, kk, c, N, f, rfl, ⟨n, D, ⟨a, cap, e1, e2, e3, e4, ⟨a2, b2, o2, cap2, e5, ha, fun i hi => ?_⟩⟩, hL, hz, hn⟩, k.row hr hg⟩
  have h6 := hc i hi
  have h7 := ha (by omega)
  injection e5 with e5 _ _
  rw [← e5] at h7
  injection h7 with h7
  injection h7 with h7 _
  subst h7
  exact KeptX.cellSome k h6 hg
theorem TyNat.kept {w w' : World} {v : Value} {z : Int} (h : TyNat w v z) (k : Kept w w') : TyNat w' v z := h.keptX k (fun _ _ _ _ h => h)
/-- the row of another type is not the owned one -/
theorem own_not {w : World} {base e T size : Nat} {v : Value} {n : Nat} {xs : List Value} (h : w.ownsRow base e size v n xs) (hT : T ≠ e) {b : Nat} {c : Array Value} {f} (hb : w.heap[b]? = some (.cells c T f)) : ¬ v.ownBlock = some b := fun hS => by
  rcases h.2 with ⟨h1, _⟩ | ⟨g', cap', cur', h1, _, h3, _⟩
  · subst h1; cases hS
  · subst h1
    have e1 : g' = b := by simpa [Value.ownBlock] using hS
    subst e1
    rw [hb] at h3
    injection h3 with h3
    injection h3 with _ h3
    exact hT h3
theorem own_below {w : World} {base e size : Nat} {v : Value} {n : Nat} {xs : List Value} (h : w.ownsRow base e size v n xs) {b : Nat} (hb : b < base) : ¬ v.ownBlock = some b := fun hS => by
  have := (h.lt b hS).1
  omega
def vals (P : Nat → Value) (i : Nat) : List Value := (List.range i).map P
def updV (P : Nat → Value) (i : Nat) (v : Value) : Nat → Value := fun t => if t = i then v else P t
theorem vals_succ (P : Nat → Value) (i : Nat) (v : Value) : vals (updV P i v) (i + 1) = vals P i ++ [v] := by
  unfold vals
  rw [List.range_succ, List.map_append]
  congr 1
  · apply List.map_congr_left
    intro j hj
    have := List.mem_range.1 hj
    unfold updV
    rw [if_neg (by omega)]
  · simp [updV]
theorem vals_get {P : Nat → Value} {k i : Nat} (h : i < k) : (vals P k)[i]? = some (P i) := by simp [vals, h]
theorem own_rowV {w : World} {base e : Nat} {n g cap : Nat} {P : Nat → Value} (h : w.ownsRow base e 1 (.slice (some ⟨g, 0, none⟩) n cap) n (vals P n)) : ∃ N f, w.rowIs g e N f ∧ n ≤ N ∧ base ≤ g ∧ ∀ j, j < n → f j = P j := by
  obtain ⟨hl, h⟩ := h
  rcases h with ⟨h1, _⟩ | ⟨g', cap', cur, h1, h2, h3, h4, _, hs, ht⟩
  · cases h1
  · cases h1
    have hsz : n ≤ cur.size := by
      have := congrArg List.length ht
      simp [vals] at this
      omega
    refine ⟨cur.size, fun i => cur.getD i undef, ⟨cur, h3, rfl, fun i hi => by simp [Array.getD, hi]⟩, hsz, h2, fun j hj => ?_⟩
    have g1 := vals_get (P := P) hj
    rw [← ht, List.getElem?_take, if_pos (by omega)] at g1
    simp [Array.getD, show j < cur.size by omega] at g1 ⊢
    exact g1
theorem own_someV {w : World} {base e : Nat} {v : Value} {n : Nat} {xs : List Value} (h : w.ownsRow base e 1 v n xs) (hn : 0 < n) : ∃ g cap, v = .slice (some ⟨g, 0, none⟩) n cap := by
  rcases h.2 with ⟨rfl, rfl⟩ | ⟨g, cap, cur, rfl, _⟩
  · have := h.1; simp at this; omega
  · exact ⟨g, cap, rfl⟩
/-- the product of the factors behind i -/
def restF (F : Nat → Nat) (i : Nat) : Nat → Nat := fun t => F (i + 1 + t)
/-- the parts of weight i -/
def partZ (T F : Nat → Nat) (n i : Nat) : Int := prodN F i * prodN (restF F i) (n - (i + 1)) * (T i : Int)
def tw : Int := 1000000000000
theorem tw_pos (k : Nat) : (0 : Int) < tw ^ k := Int.pow_pos (by decide)
theorem tw_succ (k : Nat) : tw ^ (k + 1) = tw ^ k * tw := Int.pow_succ tw k
theorem tw_le {i j : Nat} (h : i ≤ j) : tw ^ i ≤ tw ^ j := by
  obtain ⟨d, rfl⟩ : ∃ d, j = i + d := ⟨j - i, by omega⟩
  induction d with
  | zero => exact Int.le_refl _
  | succ d ih =>
    have h1 := ih (by omega)
    have h3 := tw_pos (i + d)
    rw [show i + (d + 1) = i + d + 1 by omega, tw_succ]
    unfold tw at *
    omega
theorem tw_big : tw ^ 20 < bigU := by
  have h1 : (1000000 : Int) ^ 41 ≤ 1000000 ^ 2000 := pw_leN (by omega)
  have h2 : tw ^ 20 < 1000000 ^ 41 := by decide +kernel
  unfold bigU
  omega
theorem prodN_bd {F : Nat → Nat} {k : Nat} (h : ∀ t, t < k → F t ≤ 1000000000000) : 0 ≤ prodN F k ∧ prodN F k ≤ tw ^ k := by
  induction k with
  | zero => simp [prodN]
  | succ k ih =>
    have h1 := ih (fun t ht => h t (by omega))
    have h2 := h k (by omega)
    simp only [prodN]
    rw [tw_succ]
    refine ⟨Int.mul_nonneg h1.1 (by omega), ?_⟩
    exact Int.mul_le_mul h1.2 (by unfold tw; omega) (by omega) (Int.le_of_lt (tw_pos k))
theorem mul_tw {x y : Int} {a b : Nat} (hx : 0 ≤ x ∧ x ≤ tw ^ a) (hy : 0 ≤ y ∧ y ≤ tw ^ b) : 0 ≤ x * y ∧ x * y ≤ tw ^ (a + b) := by
  refine ⟨Int.mul_nonneg hx.1 hy.1, ?_⟩
  rw [Int.pow_add]
  exact Int.mul_le_mul hx.2 hy.2 hy.1 (Int.le_of_lt (tw_pos a))
theorem lt_big {x : Int} {a : Nat} (h : 0 ≤ x ∧ x ≤ tw ^ a) (ha : a ≤ 20) : x < bigU := by
  have := tw_le ha
  have := tw_big
  omega
theorem partZ_bd {T F : Nat → Nat} {n i : Nat} (hn : n ≤ 9) (hi : i < n) (hF : ∀ t, t < n → F t ≤ 1000000000000) (hT : T i ≤ 1000000000000) :
    (0 ≤ prodN F i ∧ prodN F i ≤ tw ^ 9) ∧ (0 ≤ prodN (restF F i) (n - (i + 1)) ∧ prodN (restF F i) (n - (i + 1)) ≤ tw ^ 9) ∧ (0 ≤ partZ T F n i ∧ partZ T F n i ≤ tw ^ 19) := by
  have h1 := prodN_bd (F := F) (k := i) (fun t ht => hF t (by omega))
  have h2 := prodN_bd (F := restF F i) (k := n - (i + 1)) (fun t ht => hF (i + 1 + t) (by omega))
  have h3 : prodN F i ≤ tw ^ 9 := Int.le_trans h1.2 (tw_le (by omega))
  have h4 : prodN (restF F i) (n - (i + 1)) ≤ tw ^ 9 := Int.le_trans h2.2 (tw_le (by omega))
  refine ⟨⟨h1.1, h3⟩, ⟨h2.1, h4⟩, ?_⟩
  unfold partZ
  exact mul_tw (a := 18) (b := 1) (mul_tw (a := 9) (b := 9) ⟨h1.1, h3⟩ ⟨h2.1, h4⟩) ⟨by omega, by rw [Int.pow_succ]; unfold tw; omega⟩
theorem sum_big {Z : Nat → Int} {n j : Nat} (hn : n ≤ 9) (hj : j ≤ n) (h : ∀ t, t < n → 0 ≤ Z t ∧ Z t ≤ tw ^ 19) : sumZ Z j < bigU := by
  have key : ∀ k, k ≤ n → 0 ≤ sumZ Z k ∧ sumZ Z k ≤ k * tw ^ 19 := fun k => by
    induction k with
    | zero => intro _; simp [sumZ]
    | succ k ih =>
      intro hk
      have h1 := ih (by omega)
      have h2 := h k (by omega)
      simp only [sumZ]
      rw [show ((k + 1 : Nat) : Int) * tw ^ 19 = k * tw ^ 19 + tw ^ 19 by rw [Int.natCast_succ, Int.add_mul, Int.one_mul]]
      omega
  have h1 := (key j hj).2
  have h2 : (j : Int) * tw ^ 19 ≤ 9 * tw ^ 19 := Int.mul_le_mul_of_nonneg_right (by omega) (Int.le_of_lt (tw_pos 19))
  have h3 := tw_pos 19
  have h4 := tw_succ 19
  have h5 := tw_big
  unfold tw at *
  omega
end Go.Proofs.YtlnlddnjalfamaaGreatDoor
