/-
  The reference's Lowest, of a fraction from 0 on.
-/
import Derived.Test.YtomnjcjipdnnfaaNv
namespace Go.Proofs.Ytomnjcjipdnnfaa
open Go.RowKit Go.Deep

set_option maxRecDepth 100000 in
set_option maxHeartbeats 8000000 in
theorem Lowest_any (w : World) (v : Value) (x y : Int) (hX : QAt w v x y) (hx0 : 0 ≤ x) (hy0 : 0 < y) (hxB : x * 10000 < bigN) (hyB : y * 10000 < bigN) :
    Calls Try.prog 81 #[v] w (QPost w (x / (Int.gcd x y : Int)) (y / (Int.gcd x y : Int))) := by
  obtain ⟨m, a, l, c, m2, a2, l2, c2, rfl, hn, hd⟩ := hX.shape
  have HN := Lib.hid hn
  have HD := Lib.hid hd
  obtain ⟨G, HG⟩ : ∃ G : Int, Hid (G = (Int.gcd x y : Int)) := ⟨_, rfl⟩
  have hg0 : 0 < G := by
    rw [HG.out]
    have : Int.gcd x y ≠ 0 := fun h => by
      have := Int.gcd_eq_zero_iff.1 h
      omega
    omega
  have hgy : G ≤ y := by
    rw [HG.out]
    exact Int.le_of_dvd hy0 (Int.gcd_dvd_right x y)
  rw [← HG.out]
  have hA0 := box_row4 w (.bool m) (.slice a l c) (.bool m2) (.slice a2 l2 c2) 64 w.heap.size rfl
  have hA1 := box_row4 (w.alloc (.cells #[.bool m, .slice a l c, .bool m2, .slice a2 l2 c2] 64)) (.bool false) (.slice none 0 0) (.bool false) (.slice none 0 0) 64 (w.heap.size + 1) (by simp)
  have k1 := (Kept.refl (w.alloc (.cells #[.bool m, .slice a l c, .bool m2, .slice a2 l2 c2] 64))).alloc (.cells #[.bool false, .slice none 0 0, .bool false, .slice none 0 0] 64)
  have hK0 := ((Kept.refl w).alloc (.cells #[.bool m, .slice a l c, .bool m2, .slice a2 l2 c2] 64)).trans k1
  have hZ0 := k1.row hA0
  clear hX hn hd
  go_enter Try.func81, Try.ntmps81
  go_wp2_with fail
  generalize ((w.alloc (.cells #[.bool m, .slice a l c, .bool m2, .slice a2 l2 c2] 64)).alloc (.cells #[.bool false, .slice none 0 0, .bool false, .slice none 0 0] 64)) = W at *
  obtain ⟨r0, HR0⟩ : ∃ o0, Hid (o0 = w.heap.size + 1) := ⟨_, rfl⟩
  obtain ⟨z0, HZ0⟩ : ∃ o0, Hid (o0 = w.heap.size) := ⟨_, rfl⟩
  rw [← HR0.out] at hA1 ⊢
  rw [← HZ0.out] at hZ0 ⊢
  have hrw : w.heap.size ≤ r0 := by rw [HR0.out]; omega
  clear hA0 k1 HR0 HZ0
  have HZr := Lib.hid hZ0
  have HRr := Lib.hid hA1
  clear hZ0 hA1
  try go_wp2_with fail
  refine (Gcd_any _ _ _ x y (HN.out.kept hK0) (HD.out.kept hK0) hx0 (by omega) hxB hyB).mono ?_
  rw [← HG.out]
  rintro e w3 ⟨v3, rfl, hz3, hk3⟩
  obtain ⟨m3, a3, l3, c3, rfl⟩ := hz3.shape
  have HZ3 := Lib.hid hz3
  have hb3 := box_row w3 (.bool m3) (.slice a3 l3 c3) 60 w3.heap.size rfl
  have hk4 : Kept w3 (w3.alloc (.cells #[.bool m3, .slice a3 l3 c3] 60)) := (Kept.refl w3).alloc _
  have hk34 := hk3.trans hk4
  have hK4 := hK0.trans hk34
  obtain ⟨p0, p1, p2, p3, _⟩ := bx4_cells (hk34.row HZr.out)
  obtain ⟨b0, b1, _, _⟩ := bx_cells hb3
  have HB3 := Lib.hid hb3
  clear hz3 hb3
  go_wp2_with fail
  generalize w3.alloc (.cells #[.bool m3, .slice a3 l3 c3] 60) = W4 at *
  obtain ⟨t3, HT3⟩ : ∃ o0, Hid (o0 = w3.heap.size) := ⟨_, rfl⟩
  rw [← HT3.out] at b0 b1 HB3 ⊢
  clear HT3
  try go_wp2_with fail
  refine (DivMod_any _ _ _ x G (HN.out.kept hK4) (HZ3.out.kept hk4) hx0 hg0 (by omega) (by omega)).mono ?_
  rintro e w5 ⟨u5, v5, rfl, hzu, hzv, hk5⟩
  obtain ⟨mu, au, lu, cu, rfl⟩ := hzu.shape
  obtain ⟨mv, av, lv, cv, rfl⟩ := hzv.shape
  have HU := Lib.hid hzu
  have hb5 := box_row w5 (.bool mu) (.slice au lu cu) 60 w5.heap.size rfl
  have hk6 : Kept w5 ((w5.alloc (.cells #[.bool mu, .slice au lu cu] 60)).alloc (.cells #[.bool mv, .slice av lv cv] 60)) := ((Kept.refl w5).alloc _).alloc _
  have hb6 := ((Kept.refl (w5.alloc (.cells #[.bool mu, .slice au lu cu] 60))).alloc (.cells #[.bool mv, .slice av lv cv] 60)).row hb5
  have hk56 := hk5.trans hk6
  have hK6 := hK4.trans hk56
  obtain ⟨s0, s1, s2, s3, _⟩ := bx4_cells ((hk34.trans hk56).row HZr.out)
  obtain ⟨d0, d1, _, _⟩ := bx_cells (hk56.row HB3.out)
  have HB6 := Lib.hid hb6
  clear hzu hzv hb5 hb6 p0 p1 p2 p3 b0 b1
  go_wp2_with fail
  generalize ((w5.alloc (.cells #[.bool mu, .slice au lu cu] 60)).alloc (.cells #[.bool mv, .slice av lv cv] 60)) = W6 at *
  obtain ⟨t4, HT4⟩ : ∃ o0, Hid (o0 = w5.heap.size) := ⟨_, rfl⟩
  rw [← HT4.out] at HB6 ⊢
  clear HT4
  try go_wp2_with fail
  refine (DivMod_any _ _ _ y G (HD.out.kept hK6) (HZ3.out.kept (hk4.trans hk56)) (by omega) hg0 (by omega) (by omega)).mono ?_
  rintro e w7 ⟨u7, v7, rfl, hzu, hzv, hk7⟩
  obtain ⟨mp, ap, lp, cp, rfl⟩ := hzu.shape
  obtain ⟨mq, aq, lq, cq, rfl⟩ := hzv.shape
  have HU7 := Lib.hid hzu
  have hb7 := box_row w7 (.bool mp) (.slice ap lp cp) 60 w7.heap.size rfl
  have hk8 : Kept w7 ((w7.alloc (.cells #[.bool mp, .slice ap lp cp] 60)).alloc (.cells #[.bool mq, .slice aq lq cq] 60)) := ((Kept.refl w7).alloc _).alloc _
  have hb8 := ((Kept.refl (w7.alloc (.cells #[.bool mp, .slice ap lp cp] 60))).alloc (.cells #[.bool mq, .slice aq lq cq] 60)).row hb7
  have hk78 := hk7.trans hk8
  have hK8 := hK6.trans hk78
  have hR8 := ((hk34.trans hk56).trans hk78).row HRr.out
  obtain ⟨q0, q1, _, _⟩ := bx_cells (hk78.row HB6.out)
  obtain ⟨q2, q3, _, _⟩ := bx_cells hb8
  obtain ⟨f0, f1, f2, f3, f4, f5, f6, f7⟩ := bx4_cells hR8
  have HNF := Lib.hid ((HU.out.kept hk6).kept hk78)
  have HDF := Lib.hid (HU7.out.kept hk8)
  have HR8 := Lib.hid hR8
  clear hzu hzv hb7 hb8 hR8 s0 s1 s2 s3 d0 d1
  go_wp2_with fail
  generalize ((w7.alloc (.cells #[.bool mp, .slice ap lp cp] 60)).alloc (.cells #[.bool mq, .slice aq lq cq] 60)) = W8 at *
  have hX : KeptX (fun k => k = r0) W8 ((((W8.setCell ⟨r0, 0, none⟩ (.bool mu)).setCell ⟨r0, 1, none⟩ (.slice au lu cu)).setCell ⟨r0, 2, none⟩ (.bool mp)).setCell ⟨r0, 3, none⟩ (.slice ap lp cp)) := ((((KeptX.refl (fun k => k = r0) W8).setIn 0 _).setIn 1 _).setIn 2 _).setIn 3 _
  have hKF : Kept w ((((W8.setCell ⟨r0, 0, none⟩ (.bool mu)).setCell ⟨r0, 1, none⟩ (.slice au lu cu)).setCell ⟨r0, 2, none⟩ (.bool mp)).setCell ⟨r0, 3, none⟩ (.slice ap lp cp)) := (((hK8.setCell hrw _).setCell hrw _).setCell hrw _).setCell hrw _
  have HN9 := Lib.hid (HNF.out.keptBoxN hX HR8.out (bx4_noint _ _ _ _ _ _ _ _))
  have HD9 := Lib.hid (HDF.out.keptBoxN hX HR8.out (bx4_noint _ _ _ _ _ _ _ _))
  obtain ⟨g0, g1, g2, g3, _⟩ := bx4_cells (bx4_set HR8.out (.bool mu) (.slice au lu cu) (.bool mp) (.slice ap lp cp))
  generalize ((((W8.setCell ⟨r0, 0, none⟩ (.bool mu)).setCell ⟨r0, 1, none⟩ (.slice au lu cu)).setCell ⟨r0, 2, none⟩ (.bool mp)).setCell ⟨r0, 3, none⟩ (.slice ap lp cp)) = WF at *
  exact bodyPost_ret (v := .agg #[.bool mu, .slice au lu cu, .bool mp, .slice ap lp cp]) (by simp [results, Try.results81, go_sem, g0, g1, g2, g3]) rfl ⟨_, rfl, ⟨mu, _, mp, _, rfl, HN9.out, HD9.out⟩, hKF⟩
end Go.Proofs.Ytomnjcjipdnnfaa
