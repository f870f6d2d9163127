/-
  Outlines that are put together: an outline that begins at another point (the program's turned), and the law's cut.
-/
import Derived.Test.YtomnjcjipdnnfaaJ
import Derived.Deep.AppendLies
namespace Go.Proofs.Ytomnjcjipdnnfaa
open Go.RowKit Go.Deep

theorem Try.infoPoint : (Try.prog.info? 78).map (fun i => (i.zero, i.size, i.bytes)) = some (some (.agg #[.int .i64 0, .int .i64 0]), 2, 16) := by kernel_rfl
def pairs (A B : Nat → Int) (k : Nat) : List Value := (List.range (k * 2)).map (fun j => .int .i64 (if j % 2 = 0 then A (j / 2) else B (j / 2)))
theorem pairs_len (A B : Nat → Int) (k : Nat) : (pairs A B k).length = k * 2 := by simp [pairs]
theorem pairs_at {A B : Nat → Int} {k j : Nat} (h : j < k * 2) : (pairs A B k)[j]? = some (.int .i64 (if j % 2 = 0 then A (j / 2) else B (j / 2))) := by
  unfold pairs; rw [List.getElem?_map, List.getElem?_range h]; rfl
theorem pairs_own {w : World} {base g cap k : Nat} {t : TypeId} {A B : Nat → Int} (h : w.ownsRow base t 2 (.slice (some ⟨g, 0, none⟩) k cap) k (pairs A B k)) : PairsAt w (.slice (some ⟨g, 0, none⟩) k cap) k A B := by
  refine ⟨_, g, 0, cap, rfl, fun _ => rfl, fun i hi => ⟨?_, ?_⟩⟩
  · rw [show 0 + i * 2 = i * 2 by omega, h.cellAt _ (by omega), pairs_at (by omega), if_pos (by omega), show i * 2 / 2 = i by omega]
  · rw [show 0 + i * 2 + 1 = i * 2 + 1 by omega, h.cellAt _ (by omega), pairs_at (by omega), if_neg (by omega), show (i * 2 + 1) / 2 = i by omega]
theorem own_form {w : World} {base e size : Nat} {v : Value} {n : Nat} {xs : List Value} (h : w.ownsRow base e size v n xs) : ∃ a cap, v = .slice a n cap ∧ (n ≤ cap) ∧ (a = none → cap = 0) ∧ cap ≤ maxLen ∧ (0 < n → ∃ g, a = some ⟨g, 0, none⟩ ∧ base ≤ g) := by
  rcases h.2 with ⟨rfl, rfl⟩ | ⟨g, cap, cur, rfl, hb, _, h1, h2, _⟩
  · exact ⟨none, 0, rfl, Nat.le_refl _, fun _ => rfl, Nat.zero_le _, fun h => absurd h (by omega)⟩
  · exact ⟨_, cap, rfl, h1, (fun h => by cases h), h2, fun _ => ⟨g, rfl, hb⟩⟩
theorem own_zeroT (W : World) (base : Nat) (t : TypeId) (s : Nat) (hb : base ≤ W.heap.size) : (W.alloc (.cells #[] t)).ownsRow base t s (.slice (some ⟨W.heap.size, 0, none⟩) 0 0) 0 [] := by
  refine ⟨by simp, .inr ⟨W.heap.size, 0, #[], rfl, hb, ?_, Nat.le_refl _, Nat.zero_le _, by simp, by simp⟩⟩
  rw [blk_alloc_new]
theorem own_none (W : World) (base : Nat) (t : TypeId) (s : Nat) : W.ownsRow base t s (.slice none 0 0) 0 [] := ⟨by simp, .inl ⟨rfl, rfl⟩⟩
theorem pairs_one (A B : Nat → Int) (k : Nat) : ∀ u ∈ pairs A B k, u.oneCell' = true := fun u hu => by
  simp only [pairs, List.mem_map] at hu
  obtain ⟨i, _, rfl⟩ := hu; rfl
/-- two outlines, one after the other -/
def catF (p : Nat) (A A2 : Nat → Int) : Nat → Int := fun i => if i < p then A i else A2 (i - p)
theorem pairs_cat (A B A2 B2 : Nat → Int) (p q : Nat) : pairs A B p ++ pairs A2 B2 q = pairs (catF p A A2) (catF p B B2) (p + q) := by
  apply List.ext_getElem?
  intro j
  by_cases h1 : j < p * 2
  · rw [List.getElem?_append_left (by rw [pairs_len]; exact h1), pairs_at h1, pairs_at (by omega)]
    unfold catF
    rw [if_pos (show j / 2 < p by omega), if_pos (show j / 2 < p by omega)]
  · rw [List.getElem?_append_right (by rw [pairs_len]; omega), pairs_len]
    by_cases h2 : j < (p + q) * 2
    · rw [pairs_at h2, pairs_at (by omega)]
      unfold catF
      rw [if_neg (show ¬ j / 2 < p by omega), if_neg (show ¬ j / 2 < p by omega), show (j - p * 2) / 2 = j / 2 - p by omega, show (j - p * 2) % 2 = j % 2 by omega]
    · rw [List.getElem?_eq_none (by rw [pairs_len]; omega), List.getElem?_eq_none (by rw [pairs_len]; omega)]
/-- what begins at point k -/
def rotF (n k : Nat) (X : Nat → Int) : Nat → Int := catF (n - k) (fun i => X (i + k)) X
theorem rot_in {n k : Nat} {X Y : Nat → Int} (hk : k ≤ n) (h : InR n X Y) : InR n (rotF n k X) (rotF n k Y) := by
  intro i hi
  unfold rotF catF
  by_cases e : i < n - k
  · rw [if_pos e, if_pos e]; exact h _ (by omega)
  · rw [if_neg e, if_neg e]; exact h _ (by omega)
/-- what the points from k on lie at -/
theorem pairs_src {w : World} {b o n : Nat} {X Y : Nat → Int} (hc : ∀ i, i < n → w.cell? ⟨b, o + i * 2, none⟩ = some (.int .i64 (X i)) ∧ w.cell? ⟨b, o + i * 2 + 1, none⟩ = some (.int .i64 (Y i))) (k m : Nat) (hkm : k + m ≤ n) :
    ∀ j u, (pairs (fun i => X (i + k)) (fun i => Y (i + k)) m)[j]? = some u → w.cell? ((⟨b, o + k * 2, none⟩ : Addr).add j) = some u := fun j u h => by
  have hj : j < m * 2 := by
    rcases Nat.lt_or_ge j (m * 2) with e | e
    · exact e
    · rw [List.getElem?_eq_none (by rw [pairs_len]; omega)] at h; cases h
  rw [pairs_at hj] at h
  cases h
  obtain ⟨p1, p2⟩ := hc (j / 2 + k) (by omega)
  rw [add_at]
  by_cases e : j % 2 = 0
  · rw [if_pos e, show o + k * 2 + j = o + (j / 2 + k) * 2 by omega]; exact p1
  · rw [if_neg e, show o + k * 2 + j = o + (j / 2 + k) * 2 + 1 by omega]; exact p2
theorem pairs_src0 {w : World} {b o n : Nat} {X Y : Nat → Int} (hc : ∀ i, i < n → w.cell? ⟨b, o + i * 2, none⟩ = some (.int .i64 (X i)) ∧ w.cell? ⟨b, o + i * 2 + 1, none⟩ = some (.int .i64 (Y i))) (m : Nat) (hm : m ≤ n) :
    ∀ j u, (pairs X Y m)[j]? = some u → w.cell? ((⟨b, o, none⟩ : Addr).add j) = some u := fun j u h => by
  have := pairs_src hc 0 m (by omega) j u h
  simpa using this
def OwnPost (w : World) (n : Nat) (X Y : Nat → Int) (e : Ending) (w' : World) : Prop := ∃ v, e = .returned v ∧ w'.ownsRow w.heap.size 78 2 v n (pairs X Y n) ∧ Kept w w'
set_option maxRecDepth 100000 in
set_option maxHeartbeats 2000000 in
theorem turned_any (w : World) (a : Option Addr) (n cap k : Nat) (X Y : Nat → Int) (hE : PairsAt w (.slice a n cap) n X Y) (hl : n ≤ cap) (hk : k < n) (hn : n ≤ 1000000) :
    Calls Try.prog 56 #[.slice a n cap, .int .i64 k] w (OwnPost w n (rotF n k X) (rotF n k Y)) := by
  obtain ⟨a', b, o, cap', e, ha, hc⟩ := hE
  cases e
  obtain rfl := ha (by omega)
  obtain ⟨i1, hi, hz0, hz1, hz2⟩ := info_parts Try.infoPoint
  have hO0 := own_none w w.heap.size 78 2
  have g1 : (k : Int) ≤ n := by omega
  have g2 : (n : Int) ≤ cap := by omega
  have g3 : (0 : Int) ≤ k := by omega
  have g4 : (k : Int) ≤ cap := by omega
  have S1 := Lib.hid (pairs_src hc k (n - k) (by omega))
  have HC := Lib.hid hc
  clear hc ha
  go_enter Try.func56, Try.ntmps56
  go_wp2_with (first | (at_builtin; refine wpList_append_own _ rfl _ _ 22 rfl w.heap.size 78 i1 (.agg #[.int .i64 0, .int .i64 0]) 2 16 Try.underlying22 hi hz0 hz1 hz2 rfl (by decide) _ _ _ rfl hO0 ⟨b, o + k * 2, none⟩ (n - k) (cap - k) (pairs (fun i => X (i + k)) (fun i => Y (i + k)) (n - k)) (by rfl) (pairs_len _ _ _) S1.out (pairs_one _ _ _) (by unfold maxLen; omega) (by omega) (Nat.le_refl _) ?_))
  intro v1 w1 hO1 hg1 _
  have hX1 := grew_X hg1 hO0
  have hk1 : Kept w w1 := Kept.step (Kept.refl _) hX1 (fun i hi => hi)
  have S2 := Lib.hid (fun j u h => hk1.cellSome (pairs_src0 HC.out k (by omega) j u h))
  obtain ⟨ga, c1, rfl, _⟩ := hO1.form (by omega)
  go_wp2_with (first | (at_builtin; refine wpList_append_own _ rfl _ _ 22 rfl w.heap.size 78 i1 (.agg #[.int .i64 0, .int .i64 0]) 2 16 Try.underlying22 hi hz0 hz1 hz2 rfl (by decide) _ _ _ rfl hO1 ⟨b, o, none⟩ k cap (pairs X Y k) (by rfl) (pairs_len _ _ _) S2.out (pairs_one _ _ _) (by unfold maxLen; omega) (by omega) (Kept.size hk1) ?_))
  intro v2 w2 hO2 hg2 _
  rw [pairs_cat, show n - k + k = n by omega] at hO2
  go_wp2_with fail
  go_ret
  exact ⟨_, rfl, hO2, hk1.step (grew_X hg2 hO1) (fun i hi => hi)⟩
end Go.Proofs.Ytomnjcjipdnnfaa
