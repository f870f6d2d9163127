/-
  The law FootSame: its once (points that follow one another and are the same are taken once).
-/
import Derived.Test.YtfmcjbddbomohaaBk
namespace Go.Proofs.Ytfmcjbddbomohaa
open Go.RowKit Go.Deep

def snocF (f : Nat → Int) (L : Nat) (x : Int) : Nat → Int := fun k => if k = L then x else f k
theorem pairs_congr {A B A' B' : Nat → Int} {m : Nat} (h : ∀ i, i < m → A i = A' i ∧ B i = B' i) : pairs A B m = pairs A' B' m := by
  unfold pairs
  apply List.map_congr_left
  intro j hj
  have hj := List.mem_range.1 hj
  have := h (j / 2) (by omega)
  rw [this.1, this.2]
theorem pairs_snocF (A B : Nat → Int) (m : Nat) (x y : Int) : pairs (snocF A m x) (snocF B m y) (m + 1) = pairs A B m ++ [.int .i64 x, .int .i64 y] := by
  rw [pairs_snoc, pairs_congr (A := snocF A m x) (B := snocF B m y) (A' := A) (B' := B) (fun i hi => by unfold snocF; rw [if_neg (by omega), if_neg (by omega)]; exact ⟨rfl, rfl⟩)]
  unfold snocF
  rw [if_pos rfl, if_pos rfl]
/-- how many points before differ from the ones before them -/
def cls (A B : Nat → Int) : Nat → Nat
  | 0 => 0
  | i + 1 => if A (i + 1) = A i ∧ B (i + 1) = B i then cls A B i else cls A B i + 1
theorem cls_same {A B : Nat → Int} {i : Nat} (h : A (i + 1) = A i ∧ B (i + 1) = B i) : cls A B (i + 1) = cls A B i := if_pos h
theorem cls_next {A B : Nat → Int} {i : Nat} (h : ¬ (A (i + 1) = A i ∧ B (i + 1) = B i)) : cls A B (i + 1) = cls A B i + 1 := if_neg h
theorem cls_mono {A B : Nat → Int} {i : Nat} (d : Nat) : cls A B i ≤ cls A B (i + d) := by
  induction d with
  | zero => exact Nat.le_refl _
  | succ d ih =>
    by_cases h : A (i + d + 1) = A (i + d) ∧ B (i + d + 1) = B (i + d)
    · rw [show i + (d + 1) = i + d + 1 by omega, cls_same h]; exact ih
    · rw [show i + (d + 1) = i + d + 1 by omega, cls_next h]; omega
theorem cls_le {A B : Nat → Int} (i : Nat) : cls A B i ≤ i := by
  induction i with
  | zero => exact Nat.le_refl _
  | succ i ih =>
    by_cases h : A (i + 1) = A i ∧ B (i + 1) = B i
    · rw [cls_same h]; omega
    · rw [cls_next h]; omega
/-- the points taken once -/
def OnceOf (n : Nat) (A B : Nat → Int) (L : Nat) (P Q : Nat → Int) : Prop := L = cls A B (n - 1) + 1 ∧ ∀ u, u < n → P (cls A B u) = A u ∧ Q (cls A B u) = B u
theorem ptneI (a b c d : Int) (h1 : a = c) (h2 : b = d) (w : World) : (binOp .neq 78 (.agg #[.int .i64 a, .int .i64 b]) (.agg #[.int .i64 c, .int .i64 d])).run Try.prog w = .ok (.bool false) w := by
  subst h1; subst h2
  go_simp
theorem ptneY (a b c d : Int) (h : ¬ (a = c ∧ b = d)) (w : World) : (binOp .neq 78 (.agg #[.int .i64 a, .int .i64 b]) (.agg #[.int .i64 c, .int .i64 d])).run Try.prog w = .ok (.bool true) w := by
  by_cases hx : a = c
  · have z1 : (a == c) = true := by simp [hx]
    have z2 : (b == d) = false := by simp; exact fun e => h ⟨hx, e⟩
    clear h hx
    go_simp
  · have z1 : (a == c) = false := by simpa using hx
    clear h hx
    go_simp
def OncePost (w : World) (n : Nat) (A B : Nat → Int) (e : Ending) (w' : World) : Prop := ∃ v L P Q, e = .returned v ∧ w'.ownsRow w.heap.size 78 2 v L (pairs P Q L) ∧ OnceOf n A B L P Q ∧ Kept w w'
set_option maxRecDepth 100000 in
set_option maxHeartbeats 4000000 in
theorem once_any (w : World) (a : Option Addr) (n cap : Nat) (A B : Nat → Int) (hA : PairsAt w (.slice a n cap) n A B) (hn1 : 1 ≤ n) (hn : n ≤ 1000) :
    Calls Try.prog 44 #[.slice a n cap] w (OncePost w n A B) := by
  obtain ⟨_, b1, o1, _, e1, ha1, hc1⟩ := hA
  cases e1
  obtain rfl := ha1 (by omega)
  obtain ⟨i1, hi0, hq0, hq1, hq2⟩ := info_parts Try.infoPoint
  have HC := Lib.hid hc1
  have hz := HC.out 0 (by omega)
  simp only [Nat.zero_mul, Nat.add_zero] at hz
  obtain ⟨z0, z1⟩ := hz
  have hO0 : (w.alloc (.cells #[.int .i64 (A 0), .int .i64 (B 0)] 78)).ownsRow w.heap.size 78 2 (.slice (some ⟨w.heap.size, 0, none⟩) 1 1) 1 (pairs (fun _ => A 0) (fun _ => B 0) 1) := World.ownsRow_lit _ #[.int .i64 (A 0), .int .i64 (B 0)] 1 (Nat.le_refl _) (by decide) rfl
  have hK0 : Kept w (w.alloc (.cells #[.int .i64 (A 0), .int .i64 (B 0)] 78)) := (Kept.refl w).alloc _
  have hC0 : Hid (∀ u, u ≤ 0 → (fun _ : Nat => A 0) (cls A B u) = A u ∧ (fun _ : Nat => B 0) (cls A B u) = B u) := fun u hu => by
    obtain rfl : u = 0 := by omega
    exact ⟨rfl, rfl⟩
  have hn0 : 0 < n := hn1
  clear hc1 ha1
  go_enter Try.func44, Try.ntmps44
  go_wp2_with fail
  generalize w.alloc (.cells #[.int .i64 (A 0), .int .i64 (B 0)] 78) = W0 at *
  clear z0 z1
  go_loopg [3, 4] (n - 1) (fun g s3 s4 wr => ∃ (t : Nat) (P Q : Nat → Int), t + 1 ≤ n ∧ g = n - (t + 1) ∧ s4 = .int .i64 ((t : Int) + 1) ∧ Kept w wr ∧ wr.ownsRow w.heap.size 78 2 s3 (cls A B t + 1) (pairs P Q (cls A B t + 1)) ∧ Hid (∀ u, u ≤ t → P (cls A B u) = A u ∧ Q (cls A B u) = B u))
  case atStart => exact ⟨0, _, _, hn1, by omega, rfl, hK0, hO0, hC0⟩
  case round =>
    clear hK0 hO0 hC0
    obtain ⟨t, P, Q, htn, rfl, rfl, hK, hO, hC⟩ := hrel
    obtain ⟨oa, ocap, rfl, _⟩ := own_form hO
    by_cases hlt : t + 1 < n
    · obtain ⟨c0, c1⟩ := HC.out (t + 1) hlt
      obtain ⟨c2, c3⟩ := HC.out t (by omega)
      have t0 := hK.cellSome c0
      have t1 := hK.cellSome c1
      have t2 := hK.cellSome c2
      have t3 := hK.cellSome c3
      have hcl := cls_le (A := A) (B := B) t
      have hsame : Hid (A (t + 1) = A t ∧ B (t + 1) = B t → cls A B (t + 1) = cls A B t) := cls_same
      have hnext : Hid (¬ (A (t + 1) = A t ∧ B (t + 1) = B t) → cls A B (t + 1) = cls A B t + 1) := cls_next
      obtain ⟨x1, HX1⟩ : ∃ x, Hid (x = A (t + 1)) := ⟨_, rfl⟩
      obtain ⟨y1, HY1⟩ : ∃ x, Hid (x = B (t + 1)) := ⟨_, rfl⟩
      obtain ⟨x0, HX0⟩ : ∃ x, Hid (x = A t) := ⟨_, rfl⟩
      obtain ⟨y0, HY0⟩ : ∃ x, Hid (x = B t) := ⟨_, rfl⟩
      obtain ⟨L, HL⟩ : ∃ L, Hid (L = cls A B t) := ⟨_, rfl⟩
      rw [← HX1.out] at t0 hsame hnext
      rw [← HY1.out] at t1 hsame hnext
      rw [← HX0.out] at t2 hsame hnext
      rw [← HY0.out] at t3 hsame hnext
      rw [← HL.out] at hO hcl hsame hnext
      rw [← HL.out]
      obtain ⟨i, HI⟩ : ∃ i, Hid (i = t + 1) := ⟨_, rfl⟩
      have hia : t + 1 ≤ i := by have := HI.out; omega
      have hib : i ≤ t + 1 := by have := HI.out; omega
      have hcast : ((t : Int) + 1) = (i : Int) := by omega
      have ew : IntKind.i64.wrap ((i : Int) - 1) = (t : Int) := by rw [show (i : Int) - 1 = (t : Int) by omega]; exact IntWalk.i64_in _ (by omega)
      rw [← HI.out] at t0 t1 hlt
      rw [hcast]
      have s1 : (i : Int) < n := by omega
      have s2 : (0 : Int) ≤ i := by omega
      have s3 : (t : Int) < n := by omega
      have s4 : (0 : Int) ≤ t := by omega
      have hfin : Hid (((i : Int) + 1) = ((t + 1 : Nat) : Int) + 1) := by show _ = _; omega
      clear c0 c1 c2 c3 hcast
      by_cases heq : x1 = x0 ∧ y1 = y0
      · have hne := ptneI x1 y1 x0 y0 heq.1 heq.2
        have hS := hsame.out heq
        have hC2 : Hid (∀ u, u ≤ t + 1 → P (cls A B u) = A u ∧ Q (cls A B u) = B u) := fun u hu => by
          by_cases e : u = t + 1
          · subst e
            rw [hS, HL.out, ← HX1.out, ← HY1.out, heq.1, heq.2, HX0.out, HY0.out]
            exact hC.out t (Nat.le_refl _)
          · exact hC.out u (by omega)
        have hO2 : wr.ownsRow w.heap.size 78 2 (.slice oa (L + 1) ocap) (cls A B (t + 1) + 1) (pairs P Q (cls A B (t + 1) + 1)) := by rw [hS]; exact hO
        have HO2 := Lib.hid hO2
        clear hO2 hS heq
        go_wp2_with fail
        go_quiet (fail)
        go_wp2_with fail
        go_roundg (n - (i + 1))
        case measure => omega
        case rel => exact ⟨t + 1, P, Q, by omega, by omega, by rw [hfin.out], hK.drewN _, own_kept HO2.out ((Kept.refl _).drewN _), hC2⟩
      · have hne := ptneY x1 y1 x0 y0 heq
        have hS := hnext.out heq
        have hC2 : Hid (∀ u, u ≤ t + 1 → snocF P (L + 1) x1 (cls A B u) = A u ∧ snocF Q (L + 1) y1 (cls A B u) = B u) := fun u hu => by
          unfold snocF
          by_cases e : u = t + 1
          · subst e
            rw [hS, if_pos rfl, if_pos rfl, HX1.out, HY1.out]; exact ⟨rfl, rfl⟩
          · have := cls_mono (A := A) (B := B) (i := u) (t - u)
            rw [show u + (t - u) = t by omega, ← HL.out] at this
            rw [if_neg (by omega), if_neg (by omega)]
            exact hC.out u (by omega)
        have HS := Lib.hid hS
        clear hS heq
        go_wp2_with fail
        go_quiet (fail)
        have hK2 : Kept wr (wr.drewN nq) := (Kept.refl wr).drewN _
        have hKa := hK.trans hK2
        have hOa := own_kept hO hK2
        have u0 := hK2.cellSome t0
        have u1 := hK2.cellSome t1
        clear hK hO t0 t1 t2 t3 hK2
        generalize wr.drewN nq = W7 at *
        have hb := box2 W7 (.int .i64 x1) (.int .i64 y1) 78
        have hnews : ∀ (j : Nat) u, [Value.int .i64 x1, .int .i64 y1][j]? = some u → (W7.alloc (.cells #[.int .i64 x1, .int .i64 y1] 78)).cell? ((⟨W7.heap.size, 0, none⟩ : Addr).add j) = some u := fun j u h => by
          have : j = 0 ∨ j = 1 := by
            rcases Nat.lt_or_ge j 2 with e | e
            · omega
            · rw [List.getElem?_eq_none (by simp; omega)] at h; cases h
          rcases this with rfl | rfl
          · cases h; rw [add_at]; exact hb.1
          · cases h; rw [add_at]; exact hb.2
        have HN := Lib.hid hnews
        have HO := Lib.hid (hOa.alloc (.cells #[.int .i64 x1, .int .i64 y1] 78))
        have hsz : w.heap.size ≤ (W7.alloc (.cells #[.int .i64 x1, .int .i64 y1] 78)).heap.size := Kept.size (hKa.alloc _)
        clear hnews hb hOa
        go_wp2_with (first | (at_builtin; refine wpList_append_own _ rfl _ _ 22 rfl w.heap.size 78 i1 (.agg #[.int .i64 0, .int .i64 0]) 2 16 Try.underlying22 hi0 hq0 hq1 hq2 rfl (by decide) _ _ _ rfl HO.out ⟨W7.heap.size, 0, none⟩ 1 1 [.int .i64 x1, .int .i64 y1] rfl rfl HN.out (by simp [Value.oneCell']) ?c3 ?c4 hsz ?_))
        case c3 => unfold maxLen; omega
        case c4 => omega
        intro v' w2 hO3 hgr _
        have hK3 : Kept w w2 := (hKa.alloc _).step (grew_X hgr HO.out) (fun i hi => hi)
        have hO4 : w2.ownsRow w.heap.size 78 2 v' (cls A B (t + 1) + 1) (pairs (snocF P (L + 1) x1) (snocF Q (L + 1) y1) (cls A B (t + 1) + 1)) := by
          rw [HS.out, pairs_snocF]; exact hO3
        have HO4 := Lib.hid hO4
        clear HO HN hgr hO3 hKa u0 u1 hO4
        go_wp2_with fail
        go_roundg (n - (i + 1))
        case measure => omega
        case rel => exact ⟨t + 1, _, _, by omega, by omega, by rw [hfin.out], hK3, HO4.out, hC2⟩
    · obtain rfl : n = t + 1 := by omega
      go_wp2_with fail
      go_ret
      exact ⟨_, _, P, Q, rfl, hO, ⟨rfl, fun u hu => hC.out u (by omega)⟩, hK⟩
end Go.Proofs.Ytfmcjbddbomohaa
