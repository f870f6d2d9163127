/-
  A determinant with one more edge: that without it, and that of the merged rows and columns. No program is named here.
-/
import Derived.Test.YtlnpipkhofhlnaaDe
namespace Go.Proofs.Ytlnpipkhofhlnaa
open Go.RowKit

def unitR (k : Nat) : Nat → Int := fun j => if j = k then 1 else 0
/-- only one column counts -/
theorem TT_unit {k N : Nat} (hk : k < N) (f : List Nat → Int) : TT (unitR k) f (List.range N) = sgP k * f ((List.range N).eraseIdx k) := by
  rw [TT_sum, List.length_range]
  have h1 := sumZ_one (f := fun i => sgP i * (unitR k ((List.range N).getD i 0) * f ((List.range N).eraseIdx i))) hk (fun i hi hne => by
    have e : (List.range N).getD i 0 = i := by simp [List.getD, hi]
    show sgP i * (unitR k ((List.range N).getD i 0) * _) = 0
    rw [e]; unfold unitR; rw [if_neg hne]; simp)
  rw [h1]
  have e : (List.range N).getD k 0 = k := by simp [List.getD, hk]
  show sgP k * (unitR k ((List.range N).getD k 0) * _) = _
  rw [e]; unfold unitR; rw [if_pos rfl, Int.one_mul]
/-- a row pulled to the front -/
theorem det_front (M : Nat → Nat → Int) {N r : Nat} (hr : r < N) : detR M N = sgP r * TT (M r) (FF ((OL M N).eraseIdx r)) (List.range N) := by
  obtain ⟨pre, post, h1, h2, h3⟩ := OL_split M hr
  unfold detR
  rw [h2, h1, FF_move, h3]
  rfl
theorem OL_same {M M' : Nat → Nat → Int} {N r : Nat} (h : ∀ i, i ≠ r → M' i = M i) (hr : r < N) : (OL M' N).eraseIdx r = (OL M N).eraseIdx r := by
  obtain ⟨N, rfl⟩ : ∃ k, N = k + 1 := ⟨N - 1, by omega⟩
  rw [OL_skip M' (by omega), OL_skip M (by omega)]
  unfold OL
  refine List.map_congr_left (fun i _ => h _ ?_)
  unfold skp
  split <;> omega
theorem TT_add (r s : Nat → Int) (cs : List Nat) (f : List Nat → Int) : TT (fun j => r j + s j) f cs = TT r f cs + TT s f cs := by
  have := TT_row r s 1 1 cs f
  rw [show (fun j => r j + s j) = fun j => 1 * r j + 1 * s j by funext j; omega, this]; omega
/-- one more edge to the river -/
theorem edge_river {M M' : Nat → Nat → Int} {N b : Nat} (hb : b < N + 1) (h0 : ∀ i, i ≠ b → M' i = M i) (h1 : M' b = fun j => M b j + unitR b j) : detR M' (N + 1) = detR M (N + 1) + detR (minM M b b) N := by
  rw [det_front M' hb, det_front M hb, OL_same h0 hb, h1, TT_add, TT_unit hb, minor_FF M (by omega) (by omega)]
  have := sgP_sq b
  unfold detR
  grind
/-! ### two rows -/
theorem FF_clear (u : Nat → Int) (c : (Nat → Int) → Int) : ∀ (rs pre : List (Nat → Int)) (cs : List Nat), FF (u :: (pre ++ rs.map (fun r j => r j + c r * u j))) cs = FF (u :: (pre ++ rs)) cs := by
  intro rs
  induction rs with
  | nil => intro pre cs; rfl
  | cons r rs ih =>
    intro pre cs
    rw [List.map_cons]
    have e1 := ih (pre ++ [fun j => r j + c r * u j]) cs
    rw [List.append_assoc, List.append_assoc] at e1
    have e2 : FF (u :: (pre ++ (fun j => r j + c r * u j) :: rs)) cs = FF (u :: (pre ++ r :: rs)) cs := by
      have m1 := FF_move (fun j => r j + c r * u j) rs (u :: pre) cs
      have m2 := FF_move r rs (u :: pre) cs
      have m3 : TT u (FF (u :: pre ++ rs)) cs = 0 := FF_mem u _ (by simp) cs
      show FF (u :: pre ++ (fun j => r j + c r * u j) :: rs) cs = FF (u :: pre ++ r :: rs) cs
      rw [m1, m2]
      congr 1
      show TT (fun j => r j + c r * u j) (FF (u :: pre ++ rs)) cs = TT r (FF (u :: pre ++ rs)) cs
      have := TT_row r u 1 (c r) cs (FF (u :: pre ++ rs))
      rw [show (fun j => r j + c r * u j) = fun j => 1 * r j + c r * u j by funext j; omega, this, m3]; omega
    have e3 : pre ++ ([fun j => r j + c r * u j] ++ rs.map (fun r j => r j + c r * u j)) = pre ++ (fun j => r j + c r * u j) :: rs.map (fun r j => r j + c r * u j) := rfl
    rw [e3] at e1
    rw [e1]
    exact e2
/-- rows that vanish on a column -/
theorem FF_none {c : Nat} : ∀ (rs : List (Nat → Int)) (cs : List Nat), (∀ r, r ∈ rs → r c = 0) → c ∈ cs → rs.length = cs.length → FF rs cs = 0 := by
  intro rs
  induction rs with
  | nil => intro cs _ hc hl; cases cs with | nil => cases hc | cons a l => cases hl
  | cons r rs ih =>
    intro cs h hc hl
    show TT r (FF rs) cs = 0
    rw [TT_sum]
    have h0 : ∀ i, i < cs.length → sgP i * (r (cs.getD i 0) * FF rs (cs.eraseIdx i)) = 0 := fun i hi => by
      by_cases e : cs.getD i 0 = c
      · rw [e, h r List.mem_cons_self]; simp
      · have hm : c ∈ cs.eraseIdx i := by
          obtain ⟨k, hk, hkc⟩ := List.mem_iff_getElem.1 hc
          rw [List.mem_eraseIdx_iff_getElem]
          refine ⟨k, hk, fun hki => ?_, hkc⟩
          subst hki
          exact e (by rw [List.getD_eq_getElem?_getD, List.getElem?_eq_getElem hk]; exact hkc)
        rw [ih (cs.eraseIdx i) (fun s hs => h s (List.mem_cons_of_mem _ hs)) hm (by rw [List.length_eraseIdx_of_lt hi]; simp at hl; omega)]; simp
    rw [sumZ_congr (g := fun _ => 0) h0]
    have := sumZ_mul (fun _ => (0 : Int)) 0 cs.length
    simpa using this
/-- a row whose column b is added to column a -/
def rowM (a b : Nat) (r : Nat → Int) : Nat → Int := fun j => if j = b then 0 else if j = a then r a + r b else r j
/-- two rows and columns merged: b into a -/
def mergM (M : Nat → Nat → Int) (a b : Nat) : Nat → Nat → Int := fun i j => rowM a b (if i = a then fun t => M a t + M b t else M (skp b i)) (skp b j)
theorem rowM_eq {a b : Nat} (hab : a ≠ b) (r : Nat → Int) : rowM a b r = fun j => r j + r b * (unitR a j - unitR b j) := by
  funext j
  unfold rowM unitR
  by_cases e1 : j = b
  · subst e1; rw [if_pos rfl, if_neg (Ne.symm hab), if_pos rfl]; grind
  · rw [if_neg e1]
    by_cases e2 : j = a
    · subst e2; rw [if_pos rfl, if_pos rfl, if_neg hab]; grind
    · rw [if_neg e2, if_neg e2, if_neg e1]; grind
theorem skp_skp {a b i : Nat} (h : a < b) : skp a (skp (b - 1) i) = skp b (skp a i) := by
  unfold skp
  (repeat' split) <;> omega
/-- the rows but two -/
theorem OL_skip2 (M : Nat → Nat → Int) {N a b : Nat} (hab : a < b) (hb : b < N + 2) : ((OL M (N + 2)).eraseIdx a).eraseIdx (b - 1) = (List.range N).map (fun i => M (skp b (skp a i))) := by
  rw [OL_skip M (by omega), OL_skip _ (by omega)]
  unfold OL
  exact List.map_congr_left (fun i _ => by rw [skp_skp hab])
/-- two rows pulled to the front -/
theorem det_front2 (M : Nat → Nat → Int) {N a b : Nat} (hab : a < b) (hb : b < N + 2) : detR M (N + 2) = sgP a * sgP (b - 1) * FF (M a :: M b :: (List.range N).map (fun i => M (skp b (skp a i)))) (List.range (N + 2)) := by
  rw [det_front M (show a < N + 2 by omega)]
  have h1 : (OL M (N + 2)).eraseIdx a = OL (fun i => M (skp a i)) (N + 1) := OL_skip M (by omega)
  obtain ⟨pre, post, h2, h3, h4⟩ := OL_split (fun i => M (skp a i)) (n := N + 1) (j := b - 1) (by omega)
  have e1 : skp a (b - 1) = b := by unfold skp; rw [if_neg (by omega)]; omega
  rw [← h1] at h2 h3
  rw [OL_skip2 M hab hb] at h3
  rw [h2]
  have e2 : FF (pre ++ (fun i => M (skp a i)) (b - 1) :: post) = fun l => sgP (b - 1) * FF (M b :: (List.range N).map (fun i => M (skp b (skp a i)))) l := funext (fun l => by
    rw [FF_move, h4, ← h3]
    show sgP (b - 1) * FF (M (skp a (b - 1)) :: _) l = _
    rw [e1])
  rw [e2, TT_scale, ← Int.mul_assoc]
  rfl
theorem TT_sub (r s : Nat → Int) (cs : List Nat) (f : List Nat → Int) : TT (fun j => r j - s j) f cs = TT r f cs - TT s f cs := by
  have := TT_row r s 1 (-1) cs f
  rw [show (fun j => r j - s j) = fun j => 1 * r j + -1 * s j by funext j; omega, this]; omega
/-- one more edge between two vertices -/
theorem edge_two {M M' : Nat → Nat → Int} {N a b : Nat} (hab : a < b) (hb : b < N + 2) (h0 : ∀ i, i ≠ a → i ≠ b → M' i = M i) (ha1 : M' a = fun j => M a j + (unitR a j - unitR b j)) (hb1 : M' b = fun j => M b j - (unitR a j - unitR b j)) :
    detR M' (N + 2) = detR M (N + 2) + detR (mergM M a b) (N + 1) := by
  obtain ⟨R, hR⟩ : ∃ R, R = (List.range N).map (fun i => M (skp b (skp a i))) := ⟨_, rfl⟩
  have hR' : (List.range N).map (fun i => M' (skp b (skp a i))) = R := by
    rw [hR]
    refine List.map_congr_left (fun i _ => h0 _ ?_ ?_)
    · unfold skp; split <;> split <;> omega
    · unfold skp; split <;> split <;> omega
  rw [det_front2 M' hab hb, det_front2 M hab hb, hR', ← hR, ha1, hb1]
  obtain ⟨u, hu⟩ : ∃ u : Nat → Int, u = fun j => unitR a j - unitR b j := ⟨_, rfl⟩
  rw [show (fun j => M a j + (unitR a j - unitR b j)) = fun j => M a j + u j by rw [hu], show (fun j => M b j - (unitR a j - unitR b j)) = fun j => M b j - u j by rw [hu]]
  obtain ⟨cs, hcs⟩ : ∃ cs, cs = List.range (N + 2) := ⟨_, rfl⟩
  rw [← hcs]
  -- both rows, multiplied out
  have b1 : ∀ (x y z : Nat → Int), FF (x :: (fun j => y j - z j) :: R) cs = FF (x :: y :: R) cs - FF (x :: z :: R) cs := fun x y z => by
    show TT x (TT (fun j => y j - z j) (FF R)) cs = TT x (TT y (FF R)) cs - TT x (TT z (FF R)) cs
    rw [TT_anti x (fun j => y j - z j), TT_sub, TT_anti x y, TT_anti x z]; omega
  have b2 : ∀ (x y z : Nat → Int), FF ((fun j => x j + z j) :: y :: R) cs = FF (x :: y :: R) cs + FF (z :: y :: R) cs := fun x y z => TT_add x z cs _
  have b3 : FF (u :: u :: R) cs = 0 := FF_mem u _ List.mem_cons_self cs
  have b4 : FF (M a :: u :: R) cs = - FF (u :: M a :: R) cs := TT_anti (M a) u cs (FF R)
  have b5 : FF (u :: (fun j => M a j + M b j) :: R) cs = FF (u :: M a :: R) cs + FF (u :: M b :: R) cs := by
    show TT u (TT (fun j => M a j + M b j) (FF R)) cs = TT u (TT (M a) (FF R)) cs + TT u (TT (M b) (FF R)) cs
    rw [TT_anti u (fun j => M a j + M b j), TT_add, TT_anti u (M a), TT_anti u (M b)]; omega
  -- the rows cleared on column b
  obtain ⟨y, hy⟩ : ∃ y : Nat → Int, y = fun j => M a j + M b j := ⟨_, rfl⟩
  have c1 := FF_clear u (fun r => r b) (y :: R) [] cs
  have c2 : (y :: R).map (fun r j => r j + r b * u j) = (y :: R).map (rowM a b) := List.map_congr_left (fun r _ => by rw [rowM_eq (by omega), hu])
  rw [List.nil_append, List.nil_append, c2] at c1
  obtain ⟨S, hS⟩ : ∃ S, S = (y :: R).map (rowM a b) := ⟨_, rfl⟩
  rw [← hS] at c1
  have d1 : TT (unitR a) (FF S) cs = 0 := by
    have hz : FF S ((List.range (N + 2)).eraseIdx a) = 0 := FF_none (c := b) S _ (fun r hr => by
      rw [hS] at hr
      obtain ⟨r0, _, rfl⟩ := List.mem_map.1 hr
      unfold rowM; rw [if_pos rfl]) (by
      rw [List.mem_eraseIdx_iff_getElem]
      exact ⟨b, by simp; omega, by omega, by simp⟩) (by rw [hS, hR]; simp [List.length_eraseIdx]; omega)
    rw [hcs, TT_unit (show a < N + 2 by omega), hz]
    simp
  have d2 : TT (unitR b) (FF S) cs = sgP b * FF (S.map (fun r j => r (skp b j))) (List.range (N + 1)) := by
    rw [hcs, TT_unit hb, range_skip, if_pos (by omega), FF_map]
  have d3 : FF (u :: S) cs = - (sgP b * FF (S.map (fun r j => r (skp b j))) (List.range (N + 1))) := by
    show TT u (FF S) cs = _
    rw [hu, TT_sub, d1, d2]; omega
  -- the merged rows
  have e1 := det_front (mergM M a b) (show a < N + 1 by omega)
  have e2 : (OL (mergM M a b) (N + 1)).eraseIdx a = R.map (fun r j => rowM a b r (skp b j)) := by
    rw [OL_skip _ (by omega), hR, List.map_map]
    unfold OL
    refine List.map_congr_left (fun i _ => ?_)
    funext j
    show rowM a b (if skp a i = a then _ else M (skp b (skp a i))) (skp b j) = rowM a b (M (skp b (skp a i))) (skp b j)
    rw [if_neg (by unfold skp; split <;> omega)]
  have e3 : S.map (fun r j => r (skp b j)) = mergM M a b a :: R.map (fun r j => rowM a b r (skp b j)) := by
    rw [hS, hy]
    simp only [List.map_cons, List.map_map]
    congr 1
    funext j
    show _ = rowM a b (if a = a then _ else _) (skp b j)
    rw [if_pos rfl]
  rw [e2] at e1
  rw [e3] at d3
  have e4 : detR (mergM M a b) (N + 1) = sgP a * FF (mergM M a b a :: R.map (fun r j => rowM a b r (skp b j))) (List.range (N + 1)) := e1
  have s1 : sgP b = - sgP (b - 1) := by
    obtain ⟨k, rfl⟩ : ∃ k, b = k + 1 := ⟨b - 1, by omega⟩
    rfl
  have s2 := sgP_sq (b - 1)
  rw [b2, b1, b1, b3, b4, e4]
  rw [← hy] at b5
  rw [c1.symm, d3, s1] at b5
  obtain ⟨F, hF⟩ : ∃ F, F = FF (mergM M a b a :: R.map (fun r j => rowM a b r (skp b j))) (List.range (N + 1)) := ⟨_, rfl⟩
  rw [← hF] at b5 ⊢
  have key : sgP a * F = sgP a * sgP (b - 1) * (FF (u :: M a :: R) cs + FF (u :: M b :: R) cs) := by
    rw [← b5]
    have : sgP a * sgP (b - 1) * -(-sgP (b - 1) * F) = sgP a * F * (sgP (b - 1) * sgP (b - 1)) := by grind
    rw [this, s2, Int.mul_one]
  rw [key]
  grind
end Go.Proofs.Ytlnpipkhofhlnaa
