/-
  A yard with one more edge, and the yard in which its two ends are merged: the counts add up. No memory here.
-/
import Derived.Test.YtlnpipkhofhlnaaEd
import Derived.Test.YtlnpipkhofhlnaaGd
import Derived.Test.YtlnpipkhofhlnaaCb
namespace Go.Proofs.Ytlnpipkhofhlnaa
open Go.RowKit

/-- the vertex that b is merged into, and those above it, which move down -/
def mph (a b v : Nat) : Nat := if v = b then a else if b < v then v - 1 else v
theorem mph_skp {a b v : Nat} : mph a b (skp b v) = v := by unfold mph skp; (repeat' split) <;> omega
theorem mph_lt {a b v n : Nat} (hab : a < b) (hb : b < n + 1) (hv : v < n + 1) : mph a b v < n := by unfold mph; (repeat' split) <;> omega
theorem skp_ne {b v : Nat} : skp b v ≠ b := by unfold skp; split <;> omega
theorem skp_mph {a b v : Nat} (h : v ≠ b) : skp b (mph a b v) = v := by unfold mph skp; (repeat' split) <;> omega
/-- edges between the vertices that are left -/
def mergJ (J : Nat → Nat → Nat) (a b u v : Nat) : Nat := J (skp b u) (skp b v) + (if u = a then J b (skp b v) else 0) + (if v = a then J (skp b u) b else 0)
theorem merg_skip {J : Nat → Nat → Nat} {a b x y u v : Nat} (hab : a < b) (hxy : x ≠ y) (hp : mph a b x = mph a b y) (huv : u ≠ v) : mergJ (joinJ J x y) a b u v = mergJ J a b u v := by
  have hc : (x = a ∧ y = b) ∨ (x = b ∧ y = a) := by
    unfold mph at hp
    revert hp
    (repeat' split) <;> omega
  have h1 : skp b u ≠ b := skp_ne
  have h2 : skp b v ≠ b := skp_ne
  have h3 : skp b u ≠ skp b v := by unfold skp; (repeat' split) <;> omega
  have h4 : skp b a = a := by unfold skp; rw [if_pos hab]
  unfold mergJ joinJ
  rw [if_neg (by omega)]
  by_cases e1 : u = a
  · subst e1
    rw [if_pos rfl, if_pos rfl, if_neg (by omega), if_neg (show ¬ v = u by omega), if_neg (show ¬ v = u by omega)]
    omega
  · rw [if_neg e1, if_neg e1]
    by_cases e2 : v = a
    · subst e2
      rw [if_pos rfl, if_pos rfl, if_neg (by omega)]
      omega
    · rw [if_neg e2, if_neg e2]
theorem skp_iff {a b v y : Nat} (hy : y ≠ b) : skp b v = y ↔ v = mph a b y := by
  constructor
  · intro h; rw [← h, mph_skp]
  · intro h; rw [h, skp_mph hy]
theorem skp_cases (b u : Nat) : (u < b ∧ skp b u = u) ∨ (b ≤ u ∧ skp b u = u + 1) := by unfold skp; split <;> omega
theorem mph_cases (a b x : Nat) : (x = b ∧ mph a b x = a) ∨ (b < x ∧ mph a b x = x - 1) ∨ (x < b ∧ mph a b x = x) := by unfold mph; (repeat' split) <;> omega
set_option maxHeartbeats 4000000 in
theorem merg_ind {a b x y u v su sv px py : Nat} (hab : a < b) (huv : u ≠ v) (h1 : (u < b ∧ su = u) ∨ (b ≤ u ∧ su = u + 1)) (h2 : (v < b ∧ sv = v) ∨ (b ≤ v ∧ sv = v + 1))
    (h3 : (x = b ∧ px = a) ∨ (b < x ∧ px = x - 1) ∨ (x < b ∧ px = x)) (h4 : (y = b ∧ py = a) ∨ (b < y ∧ py = y - 1) ∨ (y < b ∧ py = y)) :
    (if su = x ∧ sv = y ∨ su = y ∧ sv = x then 1 else 0) + (if u = a then (if b = x ∧ sv = y ∨ b = y ∧ sv = x then 1 else 0) else 0) + (if v = a then (if su = x ∧ b = y ∨ su = y ∧ b = x then 1 else 0) else 0) = (if u = px ∧ v = py ∨ u = py ∧ v = px then 1 else 0) := by
  by_cases e1 : u = a
  · rw [if_pos e1, if_neg (show ¬ v = a by omega)]
    subst e1
    obtain rfl : su = u := by omega
    (repeat' split) <;> omega
  · rw [if_neg e1]
    by_cases e2 : v = a
    · rw [if_pos e2]
      subst e2
      obtain rfl : sv = v := by omega
      (repeat' split) <;> omega
    · rw [if_neg e2]
      (repeat' split) <;> omega
theorem merg_add {J : Nat → Nat → Nat} {a b x y u v : Nat} (hab : a < b) (huv : u ≠ v) : mergJ (joinJ J x y) a b u v = joinJ (mergJ J a b) (mph a b x) (mph a b y) u v := by
  have key := merg_ind hab huv (skp_cases b u) (skp_cases b v) (mph_cases a b x) (mph_cases a b y)
  show (J (skp b u) (skp b v) + (if skp b u = x ∧ skp b v = y ∨ skp b u = y ∧ skp b v = x then 1 else 0)) + (if u = a then J b (skp b v) + (if b = x ∧ skp b v = y ∨ b = y ∧ skp b v = x then 1 else 0) else 0) + (if v = a then J (skp b u) b + (if skp b u = x ∧ b = y ∨ skp b u = y ∧ b = x then 1 else 0) else 0)
    = (J (skp b u) (skp b v) + (if u = a then J b (skp b v) else 0) + (if v = a then J (skp b u) b else 0)) + (if u = mph a b x ∧ v = mph a b y ∨ u = mph a b y ∧ v = mph a b x then 1 else 0)
  rw [← key]
  by_cases e1 : u = a
  · rw [if_pos e1, if_pos e1, if_pos e1, if_neg (show ¬ v = a by omega), if_neg (show ¬ v = a by omega), if_neg (show ¬ v = a by omega)]; omega
  · rw [if_neg e1, if_neg e1, if_neg e1]
    by_cases e2 : v = a
    · rw [if_pos e2, if_pos e2, if_pos e2]; omega
    · rw [if_neg e2, if_neg e2, if_neg e2]; omega
theorem btwN_congr {A B A' B' : Nat → Int} {m : Nat} (hA : ∀ i, i < m → A' i = A i) (hB : ∀ i, i < m → B' i = B i) (u v : Nat) : btwN A' B' m u v = btwN A B m u v := by
  unfold btwN btw
  exact cnt_congr (fun i hi => by rw [hA i hi, hB i hi])
theorem degN_congr {A B A' B' : Nat → Int} {m : Nat} (hA : ∀ i, i < m → A' i = A i) (hB : ∀ i, i < m → B' i = B i) (u : Nat) : degN A' B' m u = degN A B m u := by
  unfold degN deg
  exact cnt_congr (fun i hi => by rw [hA i hi, hB i hi])
theorem btwN_snoc {A B : Nat → Int} {m x y : Nat} (u v : Nat) : btwN (snoc A m x) (snoc B m y) (m + 1) u v = joinJ (btwN A B m) x y u v := by
  rw [btwN_succ (snoc_at A m x) (snoc_at B m y)]
  unfold joinJ
  rw [btwN_congr (fun i hi => snoc_lt hi) (fun i hi => snoc_lt hi)]
theorem degN_snoc {A B : Nat → Int} {m x y : Nat} (hxy : x ≠ y) (u : Nat) : degN (snoc A m x) (snoc B m y) (m + 1) u = joinD (degN A B m) x y u := by
  rw [degN_succ (snoc_at A m x) (snoc_at B m y) hxy]
  unfold joinD
  rw [degN_congr (fun i hi => snoc_lt hi) (fun i hi => snoc_lt hi)]
/-- the merged edges of the first i -/
structure JoinI (n a b : Nat) (A B : Nat → Int) (i : Nat) (A' B' : Nat → Int) (m' : Nat) : Prop where
  le : m' ≤ i
  edge : ∀ t, t < m' → edgeB n (A' t) (B' t) = true
  btw : ∀ u v, u ≠ v → btwN A' B' m' u v = mergJ (btwN A B i) a b u v
  reach : ∀ C : Int → Bool, (∀ t, t < m' → C (A' t) = C (B' t)) → ∀ t, t < i → ∀ x y : Nat, A t = x → B t = y → C ((mph a b x : Nat) : Int) = C ((mph a b y : Nat) : Int)
theorem JoinI.start (n a b : Nat) (A B A' B' : Nat → Int) : JoinI n a b A B 0 A' B' 0 :=
  ⟨Nat.le_refl _, fun t ht => by omega, fun u v _ => by show 0 = mergJ (fun _ _ => 0) a b u v; unfold mergJ; simp, fun C _ t ht => by omega⟩
theorem JoinI.skip {n a b i m' x y : Nat} {A B A' B' : Nat → Int} (h : JoinI n a b A B i A' B' m') (hab : a < b) (hx : A i = x) (hy : B i = y) (hxy : x ≠ y) (hp : mph a b x = mph a b y) : JoinI n a b A B (i + 1) A' B' m' :=
  ⟨by have := h.le; omega, h.edge, fun u v huv => by
    rw [h.btw u v huv]
    have e : btwN A B (i + 1) = joinJ (btwN A B i) x y := funext (fun u => funext (fun v => btwN_succ hx hy u v))
    rw [e, merg_skip hab hxy hp huv], fun C hC t ht x' y' hx' hy' => by
    by_cases e : t = i
    · subst e
      rw [hx] at hx'; rw [hy] at hy'
      obtain rfl : x = x' := by omega
      obtain rfl : y = y' := by omega
      rw [hp]
    · exact h.reach C hC t (by omega) x' y' hx' hy'⟩
theorem JoinI.more {n a b i m' x y : Nat} {A B A' B' : Nat → Int} (h : JoinI n a b A B i A' B' m') (hab : a < b) (hb : b < n + 1) (hx : A i = x) (hy : B i = y) (hxn : x < n + 1) (hyn : y < n + 1) (hp : mph a b x ≠ mph a b y) :
    JoinI n a b A B (i + 1) (snoc A' m' (mph a b x : Nat)) (snoc B' m' (mph a b y : Nat)) (m' + 1) :=
  ⟨by have := h.le; omega, fun t ht => by
    by_cases e : t = m'
    · subst e; rw [snoc_at, snoc_at]; exact edge_mk (mph_lt hab hb hxn) (mph_lt hab hb hyn) hp
    · rw [snoc_lt (by omega), snoc_lt (by omega)]; exact h.edge t (by omega), fun u v huv => by
    rw [btwN_snoc]
    have e : btwN A B (i + 1) = joinJ (btwN A B i) x y := funext (fun u => funext (fun v => btwN_succ hx hy u v))
    rw [e, merg_add hab huv]
    unfold joinJ
    rw [h.btw u v huv], fun C hC t ht x' y' hx' hy' => by
    have hC' : ∀ t, t < m' → C (A' t) = C (B' t) := fun t ht => by have := hC t (by omega); rwa [snoc_lt ht, snoc_lt ht] at this
    by_cases e : t = i
    · subst e
      rw [hx] at hx'; rw [hy] at hy'
      obtain rfl : x = x' := by omega
      obtain rfl : y = y' := by omega
      have := hC m' (by omega)
      rwa [snoc_at, snoc_at] at this
    · exact h.reach C hC' t (by omega) x' y' hx' hy'⟩
end Go.Proofs.Ytlnpipkhofhlnaa
