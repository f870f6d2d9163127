/-
  The laws' made: an outline out of arbitrary small numbers.
-/
import Derived.Test.YtomnjcjipdnnfaaBg
namespace Go.Proofs.Ytomnjcjipdnnfaa
open Go.RowKit Go.Deep

/-- v reads as n arrays of two small numbers -/
def Int8sAt (w : World) (v : Value) (n : Nat) (X Y : Nat → Int) : Prop :=
  ∃ (a : Option Addr) (b o cap : Nat), v = .slice a n cap ∧ (0 < n → a = some ⟨b, o, none⟩) ∧ ∀ i, i < n → w.cell? ⟨b, o + i * 2, none⟩ = some (.int .i8 (X i)) ∧ w.cell? ⟨b, o + i * 2 + 1, none⟩ = some (.int .i8 (Y i))
theorem Int8sAt.kept {w w' : World} {v : Value} {n : Nat} {X Y : Nat → Int} (h : Int8sAt w v n X Y) (k : Kept w w') : Int8sAt w' v n X Y := by
  obtain ⟨a, b, o, cap, e, ha, hc⟩ := h
  exact ⟨a, b, o, cap, e, ha, fun i hi => ⟨k.cellSome (hc i hi).1, k.cellSome (hc i hi).2⟩⟩
def small (X : Nat → Int) : Prop := ∀ i, -128 ≤ X i ∧ X i ≤ 127
def remF (X : Nat → Int) : Nat → Int := fun i => (X i).tmod 101
theorem rem_bd (x : Int) : -100 ≤ x.tmod 101 ∧ x.tmod 101 ≤ 100 := by
  rcases Int.le_total 0 x with h | h
  · have h1 := Int.tmod_nonneg 101 h
    have h2 := Int.tmod_lt_of_pos x (show (0 : Int) < 101 by decide)
    omega
  · have e : x.tmod 101 = -((-x).tmod 101) := by rw [Int.neg_tmod]; omega
    have h1 := Int.tmod_nonneg 101 (show 0 ≤ -x by omega)
    have h2 := Int.tmod_lt_of_pos (-x) (show (0 : Int) < 101 by decide)
    omega
/-- how many points come out, and which -/
def madeN (q most : Nat) : Nat := if q = 0 then 1 else min q most
def madeF (q : Nat) (c : Int) (X : Nat → Int) : Nat → Int := if q = 0 then fun _ => c else remF X
theorem made_in {q most : Nat} {X Y : Nat → Int} : InR (madeN q most) (madeF q 1 X) (madeF q 2 Y) := by
  intro i _
  by_cases h : q = 0
  · have e1 : madeF q 1 X i = 1 := by unfold madeF; rw [if_pos h]
    have e2 : madeF q 2 Y i = 2 := by unfold madeF; rw [if_pos h]
    rw [e1, e2]
    unfold pl
    omega
  · have e1 : madeF q 1 X i = (X i).tmod 101 := by unfold madeF; rw [if_neg h]; rfl
    have e2 : madeF q 2 Y i = (Y i).tmod 101 := by unfold madeF; rw [if_neg h]; rfl
    rw [e1, e2]
    have h1 := rem_bd (X i)
    have h2 := rem_bd (Y i)
    unfold pl
    omega
theorem pairs_snoc (A B : Nat → Int) (m : Nat) : pairs A B (m + 1) = pairs A B m ++ [.int .i64 (A m), .int .i64 (B m)] := by
  apply List.ext_getElem?
  intro j
  by_cases h1 : j < m * 2
  · rw [List.getElem?_append_left (by rw [pairs_len]; exact h1), pairs_at (by omega), pairs_at h1]
  · rw [List.getElem?_append_right (by rw [pairs_len]; omega), pairs_len]
    by_cases h2 : j < (m + 1) * 2
    · rw [pairs_at h2]
      by_cases e : j % 2 = 0
      · rw [if_pos e, show j / 2 = m by omega, show j - m * 2 = 0 by omega]; rfl
      · rw [if_neg e, show j / 2 = m by omega, show j - m * 2 = 1 by omega]; rfl
    · rw [List.getElem?_eq_none (by rw [pairs_len]; omega), List.getElem?_eq_none (by simp; omega)]
def MadePost (w : World) (n : Nat) (X Y : Nat → Int) (e : Ending) (w' : World) : Prop := ∃ g cap, e = .returned (.slice (some ⟨g, 0, none⟩) n cap) ∧ n ≤ cap ∧ PairsAt w' (.slice (some ⟨g, 0, none⟩) n cap) n X Y ∧ Kept w w' ∧ w'.ownsRow w.heap.size 78 2 (.slice (some ⟨g, 0, none⟩) n cap) n (pairs X Y n)
theorem made_post {w w' : World} {v : Value} {n : Nat} {X Y : Nat → Int} (h : w'.ownsRow w.heap.size 78 2 v n (pairs X Y n)) (hn : 0 < n) (hk : Kept w w') : MadePost w n X Y (.returned v) w' := by
  obtain ⟨a, cap, rfl, h1, _, _, h2⟩ := own_form h
  obtain ⟨g, rfl, _⟩ := h2 hn
  exact ⟨g, cap, rfl, h1, own_pairs h, hk, h⟩
set_option maxRecDepth 100000 in
set_option maxHeartbeats 4000000 in
theorem made_any (w : World) (xa : Option Addr) (q qcap most : Nat) (X Y : Nat → Int) (hx : Int8sAt w (.slice xa q qcap) q X Y) (hX : small X) (hY : small Y) (hq : q ≤ maxLen) (hm1 : 1 ≤ most) (hm2 : most ≤ 100) :
    Calls Try.prog 38 #[.slice xa q qcap, .int .i64 most] w (MadePost w (madeN q most) (madeF q 1 X) (madeF q 2 Y)) := by
  obtain ⟨xa', xb, xo, xcap, e, hxa, hxc⟩ := hx
  cases e
  unfold maxLen at hq
  obtain ⟨i1, hi, hz0, hz1, hz2⟩ := info_parts Try.infoPoint
  have hO0 := own_zeroT w w.heap.size 78 2 (Nat.le_refl _)
  have hK0 : Kept w (w.alloc (.cells #[] 78)) := (Kept.refl w).alloc _
  have HXC := Lib.hid hxc
  have HX := Lib.hid hX
  have HY := Lib.hid hY
  clear hxc hX hY
  go_enter Try.func38, Try.ntmps38
  go_wp2_with fail
  have hO1 : (w.alloc (.cells #[] 78)).ownsRow w.heap.size 78 2 (.slice (some ⟨w.heap.size, 0, none⟩) 0 0) 0 (pairs (remF X) (remF Y) 0) := hO0
  clear hO0
  generalize w.alloc (.cells #[] 78) = W0 at *
  go_loopg [5, 6] most (fun g s5 s6 wr => ∃ t : Nat, t ≤ q ∧ t ≤ most ∧ g = most - t ∧ s6 = .int .i64 t ∧ Kept w wr ∧ wr.ownsRow w.heap.size 78 2 s5 t (pairs (remF X) (remF Y) t))
  case atStart => exact ⟨0, by omega, by omega, by omega, rfl, hK0, hO1⟩
  case round =>
    obtain ⟨t, htq, htm, rfl, rfl, hK, hO⟩ := hrel
    clear hK0 hO1
    by_cases hlt : t < q ∧ t < most
    · obtain ⟨h1, h2⟩ := hlt
      obtain rfl := hxa (by omega)
      obtain ⟨c0, c1⟩ := HXC.out t h1
      have t0 := hK.cellSome c0
      have t1 := hK.cellSome c1
      have s1 : (t : Int) < (q : Int) := by omega
      have s2 : (t : Int) < (most : Int) := by omega
      have s3 : (0 : Int) ≤ (t : Int) := by omega
      have b0 := HX.out t
      have b1 := HY.out t
      obtain ⟨oa, ocap, rfl, _⟩ := own_form hO
      have hsz : w.heap.size ≤ wr.heap.size := Kept.size hK
      have hrx : Hid (remF X t = (X t).tmod 101) := rfl
      have hry : Hid (remF Y t = (Y t).tmod 101) := rfl
      obtain ⟨x, HXX⟩ : ∃ x, Hid (x = X t) := ⟨_, rfl⟩
      obtain ⟨y, HYY⟩ : ∃ y, Hid (y = Y t) := ⟨_, rfl⟩
      rw [← HXX.out] at t0 b0 hrx c0
      rw [← HYY.out] at t1 b1 hry c1
      obtain ⟨x2, HX2⟩ : ∃ x2, Hid (x2 = x.tmod 101) := ⟨_, rfl⟩
      obtain ⟨y2, HY2⟩ : ∃ y2, Hid (y2 = y.tmod 101) := ⟨_, rfl⟩
      have e1 : x.tmod 101 = x2 := HX2.out.symm
      have e2 : y.tmod 101 = y2 := HY2.out.symm
      have b2 : -100 ≤ x2 ∧ x2 ≤ 100 := by rw [HX2.out]; exact rem_bd x
      have b3 : -100 ≤ y2 ∧ y2 ≤ 100 := by rw [HY2.out]; exact rem_bd y
      rw [← HX2.out] at hrx
      rw [← HY2.out] at hry
      have hnews : ∀ (j : Nat) u, [Value.int .i64 x2, .int .i64 y2][j]? = some u → ((wr.alloc (.cells #[.int .i64 x2, .int .i64 y2] 78)).drew).cell? ((⟨wr.heap.size, 0, none⟩ : Addr).add j) = some u := fun j u h => by
        have hb := box2 wr (.int .i64 x2) (.int .i64 y2) 78
        have : j = 0 ∨ j = 1 := by
          rcases Nat.lt_or_ge j 2 with e | e
          · omega
          · rw [List.getElem?_eq_none (by simp; omega)] at h; cases h
        rcases this with rfl | rfl
        · cases h; rw [add_at]; exact hb.1
        · cases h; rw [add_at]; exact hb.2
      have HN := Lib.hid hnews
      have HO := Lib.hid ((hO.alloc (.cells #[.int .i64 x2, .int .i64 y2] 78)).drew)
      have HK := Lib.hid ((hK.alloc (.cells #[.int .i64 x2, .int .i64 y2] 78)).drew)
      clear hnews
      go_wp2_with fail
      have w0 : IntKind.i64.wrap x = x := IntWalk.i64_in _ (by omega)
      have w1 : IntKind.i64.wrap y = y := IntWalk.i64_in _ (by omega)
      go_region_held3 (fun w' => w'.cell? ⟨xb, xo + t * 2, none⟩ = some (.int .i8 x) ∧ w'.cell? ⟨xb, xo + t * 2 + 1, none⟩ = some (.int .i8 y) ∧ Kept w w')
        (first | exact keep2 c0 c1 (by repeat (first | assumption | exact Kept.refl _ | apply Kept.drew | apply Kept.drewN | apply Kept.alloc | refine Kept.trans ?_ (by assumption))) | exact keep2 c0 c1 HK2.out)
        ((refine step_append_any (by rfl) _ _ _ (by rfl) w.heap.size 78 i1 (.agg #[.int .i64 0, .int .i64 0]) 2 16 (by kernel_rfl) hi hz0 hz1 hz2 rfl (by omega) _ _ _ (by rfl) HO.out ⟨wr.heap.size, 0, none⟩ 1 1 [.int .i64 x2, .int .i64 y2] (by rfl) rfl HN.out (by simp [Value.oneCell']) (by unfold maxLen; omega) (by omega) (by simp <;> omega) ?_; intro v2 w2 hO2 hgr2; have HK2 := Lib.hid (Kept.step HK.out (grew_X hgr2 HO.out) (fun i hi => hi)); have HO2 := Lib.hid hO2; clear hO2))
      have hO2 : w2.ownsRow w.heap.size 78 2 v2 (t + 1) (pairs (remF X) (remF Y) (t + 1)) := by rw [pairs_snoc, hrx.out, hry.out]; exact HO2.out
      clear HO2 HO HK HN hO hK t0 t1 c0 c1 e1 e2 b2 b3 w0 w1
      go_wp2_with fail
      go_roundg (most - (t + 1))
      case measure => omega
      case rel => exact ⟨t + 1, by omega, by omega, rfl, by go_num, HK2.out, hO2⟩
    · by_cases hq0 : q = 0
      · subst hq0
        obtain rfl : t = 0 := by omega
        obtain ⟨oa, ocap, rfl, _⟩ := own_form hO
        have hO2 := hO.alloc (.cells #[.int .i64 1, .int .i64 2] 78)
        have hbx := box2 wr (.int .i64 1) (.int .i64 2) 78
        have hnews : ∀ (j : Nat) u, [Value.int .i64 1, .int .i64 2][j]? = some u → (wr.alloc (.cells #[.int .i64 1, .int .i64 2] 78)).cell? ((⟨wr.heap.size, 0, none⟩ : Addr).add j) = some u := fun j u h => by
          have : j = 0 ∨ j = 1 := by
            rcases Nat.lt_or_ge j 2 with e | e
            · omega
            · rw [List.getElem?_eq_none (by simp; omega)] at h; cases h
          rcases this with rfl | rfl
          · cases h; rw [add_at]; exact hbx.1
          · cases h; rw [add_at]; exact hbx.2
        have hsz : w.heap.size ≤ wr.heap.size := Kept.size hK
        have HN := Lib.hid hnews
        clear hnews hbx
        go_wp2_with (first | (at_builtin; refine wpList_append_own _ rfl _ _ 22 rfl w.heap.size 78 i1 (.agg #[.int .i64 0, .int .i64 0]) 2 16 Try.underlying22 hi hz0 hz1 hz2 rfl (by decide) _ _ _ rfl hO2 ⟨wr.heap.size, 0, none⟩ 1 1 [.int .i64 1, .int .i64 2] rfl rfl HN.out (by simp [Value.oneCell']) (by decide) (by decide) (by simp <;> omega) ?_))
        intro v' w2 hO3 hgr _
        have hK2 : Kept w w2 := (hK.alloc _).step (grew_X hgr hO2) (fun i hi => hi)
        have e : pairs (madeF 0 1 X) (madeF 0 2 Y) 1 = [.int .i64 1, .int .i64 2] := rfl
        have hO4 : w2.ownsRow w.heap.size 78 2 v' (madeN 0 most) (pairs (madeF 0 1 X) (madeF 0 2 Y) (madeN 0 most)) := by
          show w2.ownsRow w.heap.size 78 2 v' 1 (pairs (madeF 0 1 X) (madeF 0 2 Y) 1)
          rw [e]; exact hO3
        go_wp2_with fail
        go_ret
        exact made_post hO4 (show 0 < madeN 0 most from Nat.one_pos) hK2
      · have ht : t = min q most := by omega
        have ht0 : 0 < t := by omega
        obtain ⟨oa, ocap, rfl, _⟩ := own_form hO
        have hO4 : wr.ownsRow w.heap.size 78 2 (.slice oa t ocap) (madeN q most) (pairs (madeF q 1 X) (madeF q 2 Y) (madeN q most)) := by
          have e0 : madeN q most = t := by unfold madeN; rw [if_neg hq0]; exact ht.symm
          have e1 : madeF q 1 X = remF X := by unfold madeF; rw [if_neg hq0]
          have e2 : madeF q 2 Y = remF Y := by unfold madeF; rw [if_neg hq0]
          rw [e0, e1, e2]; exact hO
        have hpos : 0 < madeN q most := by unfold madeN; rw [if_neg hq0]; omega
        have hnz : ((t : Int) == 0) = false := by simp; omega
        have hO4' := Lib.hid hO4
        clear hO hO4
        by_cases hlt2 : t < q
        · have s1 : (t : Int) < (q : Int) := by omega
          have s2 : ¬ (t : Int) < (most : Int) := by omega
          clear ht
          go_wp2_with fail
          go_ret
          exact made_post hO4'.out hpos hK
        · have s1 : ¬ (t : Int) < (q : Int) := by omega
          clear ht
          go_wp2_with fail
          go_ret
          exact made_post hO4'.out hpos hK
end Go.Proofs.Ytomnjcjipdnnfaa
