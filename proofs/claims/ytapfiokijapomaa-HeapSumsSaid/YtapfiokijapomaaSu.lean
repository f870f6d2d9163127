/-
  The law HeapSums, walked.
-/
import Derived.Test.YtapfiokijapomaaSm
import Derived.Test.YtapfiokijapomaaBu
import Derived.Test.YtapfiokijapomaaLg
namespace Go.Proofs.Ytapfiokijapomaa
open Go.RowKit Go.Deep

set_option maxRecDepth 100000 in
set_option maxHeartbeats 4000000 in
theorem sums_any (w : World) (n : Int) (a c d : Option Addr) (l cap q qcap r rcap : Nat) (A B f h : Nat → Int) (hE : PairsAt w (.slice a l cap) l A B) (hl : l ≤ cap) (hnil : a = none → cap = 0) (hcap : cap ≤ maxLen)
    (hX : IntsAt w (.slice c q qcap) q f) (hq : q ≤ qcap) (hqnil : c = none → qcap = 0) (hqcap : qcap ≤ maxLen)
    (hZ : IntsAt w (.slice d r rcap) r h) (hr : r ≤ rcap) (hrnil : d = none → rcap = 0) (hrcap : rcap ≤ maxLen) :
    Calls Try.prog 5 #[.agg #[.int .i64 n, .slice a l cap], .slice c q qcap, .slice d r rcap] w (LivesPost w) := by
  obtain ⟨k, hk⟩ : ∃ k, k = min l 21 := ⟨_, rfl⟩
  obtain ⟨j, hj⟩ : ∃ j, j = min q 9 := ⟨_, rfl⟩
  obtain ⟨i, hi⟩ : ∃ i, i = min r 9 := ⟨_, rfl⟩
  obtain ⟨i0, hi0, hz0, hz1, hz2⟩ := info_parts Try.info3
  have hk21 : k ≤ 21 := by omega
  have hj9 : j ≤ 9 := by omega
  have hi9 : i ≤ 9 := by omega
  have hK0 : Kept w (w.alloc (.cells #[.int .i64 n, .slice a l cap] 24)) := (Kept.refl w).alloc _
  have HJ := Lib.hid hj
  have HI := Lib.hid hi
  clear hj hi
  go_enter Try.func5, Try.ntmps5
  go_wp2_with fail
  refine (few_any _ n a l cap k A B hk (hE.kept hK0) hl hnil hcap).mono ?_
  rintro e w1 ⟨ea, ecap, rfl, hE1, hk1⟩
  have hK1 := hK0.trans hk1
  have hX1 := hX.kept hK1
  have hZ1 := hZ.kept hK1
  clear hK0 hk1 hk
  go_wp2_with fail
  have HC := cut_any w1 c q qcap f hX1 hq hqnil hqcap
  rw [← HJ.out] at HC
  refine HC.mono ?_
  rintro e w2 ⟨xv, rfl, hO2, hk2⟩
  obtain ⟨xa, xcap, rfl⟩ := own_shape hO2
  have hX2 := ints_at hO2
  have hE2 := hE1.kept hk2
  have hZ2 := hZ1.kept hk2
  have hK2 := hK1.trans hk2
  clear HC hO2 hX1 hE1 hk2 hK1 hZ1
  go_wp2_with fail
  have HC := cut_any w2 d r rcap h hZ2 hr hrnil hrcap
  rw [← HI.out] at HC
  refine HC.mono ?_
  rintro e w3 ⟨zv, rfl, hO3, hk3⟩
  obtain ⟨za, zcap, rfl⟩ := own_shape hO3
  have hZ3 := ints_at hO3
  have hE3 := hE2.kept hk3
  have hX3 := hX2.kept hk3
  have hK3 := hK2.trans hk3
  clear HC hO3 hX2 hE2 hk3 hK2 hZ2
  go_wp2_with fail
  refine (Sum_any w3 n _ _ _ A B k j i f h hE3 hX3 hZ3 (by omega)).mono ?_
  rintro e w4 ⟨hk4, hb1, hb2⟩
  have hK4 := hK3.trans hk4
  have hE4 := hE3.kept hk4
  have hX4 := hX3.kept hk4
  have hZ4 := hZ3.kept hk4
  have hw1 := list2 hX4 hZ4 25
  have hk5 : Kept w4 (w4.alloc (.cells #[.slice xa j xcap, .slice za i zcap] 25)) := (Kept.refl w4).alloc _
  have HWHY := why_any _ n _ _ A B k 0 2 (len2 j i) (fun2 f h) (hE4.kept hk5) (by
    obtain ⟨vs, h1, h2⟩ := hw1
    refine ⟨vs, h1, fun i hi => ?_⟩
    have h3 := h2 i hi
    have : i = 0 ∨ i = 1 := by omega
    rcases this with rfl | rfl <;> exact h3) (by omega) (by omega) (fun t _ => by unfold len2; split <;> omega)
  rw [show whyC n A B k 0 2 (len2 j i) (fun2 f h) = code2 n A B k j i f h from rfl] at HWHY
  have HWHY' := Lib.hid HWHY
  clear HWHY hw1 hE3 hX3 hZ3 hk4 hK3
  by_cases hc0 : code2 n A B k j i f h = 0
  · have hgood : goodB n A B k = true := by
      cases hh : goodB n A B k with
      | true => rfl
      | false => rw [code2_arg hh] at hc0; cases hc0
    have hhold : (holdsB n.toNat 0 j f && holdsB n.toNat 0 i h) = true := by
      cases hh : (holdsB n.toNat 0 j f && holdsB n.toNat 0 i h) with
      | true => rfl
      | false => rw [code2_form hgood hh] at hc0; cases hc0
    obtain ⟨ok, ⟨p, hpk⟩, hm20, _⟩ := good_ok hgood
    obtain ⟨N, rfl⟩ : ∃ N : Nat, n = ((N + 1 : Nat) : Int) := ⟨n.toNat - 1, by have := ok.n2; omega⟩
    simp only [Int.toNat_natCast] at ok hhold hb1 hpk
    rw [Bool.and_eq_true] at hhold
    obtain ⟨hjn, hra⟩ := holds_range hhold.1
    obtain ⟨hin, hrb⟩ := holds_range hhold.2
    simp only [Nat.add_sub_cancel] at hjn hra hin hrb
    have hn2 := ok.n2
    have hn8 := ok.n8
    obtain ⟨y, hy, hyB⟩ := hpk.stab (D := degN A B k) (h := atV (fun i => f i + h i)) (K := 2000) ok (by omega) (fun v hv => by
      unfold atV
      by_cases e : v = 0
      · rw [if_pos e]; omega
      · rw [if_neg e]; have h1 := hra (v - 1) (by omega); have h2 := hrb (v - 1) (by omega); show f (v - 1) + h (v - 1) ≤ 2000; omega)
    have hyB2 : ∀ v, v < N + 1 → y v ≤ 1125899906842624 := fun v hv => Int.le_trans (hyB v hv) (by decide)
    obtain ⟨rr, fs, xs, he, hR, ho, hf⟩ := hb1 hc0
    subst hjn
    have hS4 : IntsAt w4 (.slice (some ⟨rr, 1, none⟩) j j) j (fun i => fs (i + 1)) := CellsAt.of_row1 hR
    simp only [Nat.add_sub_cancel] at he
    subst he
    have HC0 := Lib.hid hc0
    have HYB := Lib.hid hyB2
    have HRA := Lib.hid hra
    have HRB := Lib.hid hrb
    have HHF := Lib.hid hf
    have HIN := Lib.hid hin
    clear hb1 hb2 hgood hhold hc0 hra hrb hyB hyB2 hR hpk hf hin
    rw [HC0.out] at HWHY'
    go_wp2_with fail
    refine HWHY'.out.mono ?_
    rintro e w6 ⟨rfl, hk6⟩
    have hK6 := hk5.trans hk6
    have hE6 := hE4.kept hK6
    have hX6 := hX4.kept hK6
    have hZ6 := hZ4.kept hK6
    have hS6 := hS4.kept hK6
    have hKw6 := hK4.trans hK6
    clear hS4 hE4 hX4 hZ4 hk5 hk6 hK6 hK4
    obtain ⟨_, b1, o1, _, e1, ha1, hc1⟩ := hX6
    obtain ⟨_, b2, o2, _, e2, ha2, hc2⟩ := hZ6
    cases e1
    cases e2
    obtain rfl := ha1 (by omega)
    obtain rfl := ha2 (by have := HIN.out; omega)
    have HC1 := Lib.hid hc1
    have HC2 := Lib.hid hc2
    have hO := own_zero w6 w6.heap.size (Nat.le_refl _)
    have hkz : Kept w6 (w6.alloc (.cells #[] 3)) := (Kept.refl w6).alloc _
    clear hc1 hc2 ha1 ha2
    go_wp2_with fail
    generalize w6.alloc (.cells #[] 3) = W7 at *
    generalize hb6 : w6.heap.size = base at *
    have hbase : w6.heap.size ≤ base := by omega
    clear hb6
    go_loopg [14, 15] j (fun g bv s15 wr => ∃ k2 : Nat, k2 ≤ j ∧ g = j - k2 ∧ s15 = .int .i64 k2 ∧ Kept w6 wr ∧ wr.ownsRow base 3 1 bv k2 (ints (fun t => f t + h t) k2) ∧ base ≤ wr.heap.size)
    case atStart => exact ⟨0, Nat.zero_le _, rfl, rfl, hkz, hO, by have := (hO.lt base rfl).2; omega⟩
    case round =>
      obtain ⟨k2, hk2, rfl, rfl, hK, hO2, hsz⟩ := hrel
      clear hkz hO
      obtain ⟨oa, ocap, rfl⟩ := own_shape hO2
      by_cases hlt : k2 < j
      · have t1 := hK.cellSome (HC1.out k2 hlt)
        have t2 := hK.cellSome (HC2.out k2 (by have := HIN.out; omega))
        have h1 := HRA.out k2 hlt
        have h2 := HRB.out k2 (by have := HIN.out; omega)
        have s1 : (k2 : Int) < (j : Int) := by omega
        have s2 : (k2 : Int) < (i : Int) := by rw [HIN.out]; exact s1
        have s3 : (0 : Int) ≤ (k2 : Int) := by omega
        have s4 : IntKind.i64.wrap (f k2 + h k2) = f k2 + h k2 := IntWalk.i64_in _ (by omega)
        clear h1 h2
        go_wp2_with fail
        go_region_held3 (fun w' => w'.cell? ⟨b1, o1 + k2, none⟩ = some (.int .i64 (f k2)) ∧ w'.cell? ⟨b2, o2 + k2, none⟩ = some (.int .i64 (h k2)) ∧ True)
          (first | exact ⟨t1, t2, trivial⟩ | exact ⟨((Kept.refl wr).alloc _).cellSome t1, ((Kept.refl wr).alloc _).cellSome t2, trivial⟩ | exact ⟨(((Kept.refl wr).alloc _).drew).cellSome t1, (((Kept.refl wr).alloc _).drew).cellSome t2, trivial⟩ | exact ⟨u1, u2, trivial⟩)
          ((refine step_append_lies _ (by rfl) _ _ _ (by rfl) base 3 i0 (.int .i64 0) 1 8 Try.underlying25 hi0 hz0 hz1 hz2 rfl (by omega) (.slice oa k2 ocap) k2 (ints (fun t => f t + h t) k2) (by rfl) ((hO2.alloc _).drew) ⟨wr.heap.size, 0, none⟩ 1 1 [.int .i64 (f k2 + h k2)] (by rfl) (by rfl) (World.news_of_block (cs := #[.int .i64 (f k2 + h k2)]) (t := 3) (fr := (0, 0)) (heap_alloc_new wr _)) (by simp [Value.oneCell']) (by omega) (by unfold maxLen; omega) (by omega) (by simp; omega) (wr.heap.size + 1) (by simp) ?_; intro g gcap w9 hO4 hgr hgl hgs; have u1 := ((((hK.alloc (.cells #[.int .i64 (f k2 + h k2)] 3)).drew).step (grew_X hgr ((hO2.alloc (.cells #[.int .i64 (f k2 + h k2)] 3)).drew)) (fun i hi => by omega))).cellSome (HC1.out k2 hlt); have u2 := ((((hK.alloc (.cells #[.int .i64 (f k2 + h k2)] 3)).drew).step (grew_X hgr ((hO2.alloc (.cells #[.int .i64 (f k2 + h k2)] 3)).drew)) (fun i hi => by omega))).cellSome (HC2.out k2 (by have := HIN.out; omega))))
        all_goals
          have hX9 := grew_X hgr ((hO2.alloc (.cells #[.int .i64 (f k2 + h k2)] 3)).drew)
          have hK9 : Kept w6 w9 := ((hK.alloc (.cells #[.int .i64 (f k2 + h k2)] 3)).drew).step hX9 (fun i hi => by omega)
          have hO5 : w9.ownsRow base 3 1 (.slice (some ⟨g, 0, none⟩) (k2 + 1) gcap) (k2 + 1) (ints (fun t => f t + h t) (k2 + 1)) := by
            rw [show ints (fun t => f t + h t) (k2 + 1) = ints (fun t => f t + h t) k2 ++ [.int .i64 (f k2 + h k2)] by simp [ints, List.range_succ]]; exact hO4
          have hs9 : base ≤ w9.heap.size := by have := KeptX.size hX9; simp at this; omega
          go_wp2_with fail
          go_roundg (j - (k2 + 1))
          case measure => omega
          case rel => exact ⟨k2 + 1, by omega, rfl, by go_num, hK9, hO5, hs9⟩
      · obtain rfl : k2 = j := by omega
        have hE7 := hE6.kept hK
        have hS7 := hS6.kept hK
        have hKw7 := hKw6.trans hK
        have hI7 := ints_at hO2
        clear hO2 hE6 hS6 hK
        go_wp2_with fail
        refine (rsettle_any _ k2 k _ _ _ A B (fun t => f t + h t) y hE7 hm20 ok (by omega) hn8 hI7 (fun i hi => by have h1 := HRA.out i hi; have h2 := HRB.out i hi; show 0 ≤ f i + h i ∧ f i + h i ≤ 1000000000; omega) hy HYB.out).mono ?_
        rintro e w8 ⟨oa2, ocap2, tb, g, z, rfl, hk8, hG8, hZ8, ho2, hg⟩
        have hS8 := hS7.kept hk8
        have hxz : ∀ v, v < k2 + 1 → xs v = z v := Odo.unique ho ho2
        have hfg : ∀ i, i < k2 → fs (i + 1) = g (i + 1) := fun i hi => by rw [HHF.out _ (by omega), hg _ (by omega), fin_congr hxz (by omega)]
        have HFG := Lib.hid hfg
        clear hxz hfg hS7 hg
        go_wp2_with fail
        refine (same_yes _ _ _ k2 _ _ hS8 hG8 (by omega) HFG.out).mono ?_
        rintro e w9 ⟨rfl, hk9⟩
        go_wp2_with fail
        refine (lives_any _).mono ?_
        rintro e w10 ⟨rfl, hk10⟩
        go_wp2_with fail
        go_ret
        exact ⟨rfl, ((hKw7.trans hk8).trans hk9).trans hk10⟩
  · have HE := Lib.hid (hb2 hc0)
    clear hb1 hb2
    rw [HE.out]
    obtain ⟨cc, HCC⟩ : ∃ cc, Hid (cc = code2 n A B k j i f h) := ⟨_, rfl⟩
    rw [← HCC.out] at hc0 HWHY' ⊢
    have c1 : (cc == 0) = false := by simpa using hc0
    have c2 : (cc != 0) = true := by simpa using hc0
    clear hc0
    go_wp2_with fail
    refine HWHY'.out.mono ?_
    rintro e w5 ⟨rfl, hk6⟩
    go_wp2_with fail
    refine (lives_any _).mono ?_
    rintro e w6 ⟨rfl, hk7⟩
    go_wp2_with fail
    go_ret
    exact ⟨rfl, (hK4.trans (hk5.trans hk6)).trans hk7⟩
end Go.Proofs.Ytapfiokijapomaa
