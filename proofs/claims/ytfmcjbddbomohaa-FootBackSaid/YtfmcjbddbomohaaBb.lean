/-
  The law FootBack: its walk.
-/
import Derived.Test.YtfmcjbddbomohaaBk
namespace Go.Proofs.Ytfmcjbddbomohaa
open Go.RowKit Go.Deep

set_option maxRecDepth 100000 in
set_option maxHeartbeats 4000000 in
theorem backs_any (w : World) (xa ya : Option Addr) (q qcap r rcap : Nat) (X Y U V : Nat → Int) (hx : Int8sAt w (.slice xa q qcap) q X Y) (hX : small X) (hY : small Y) (hq : q ≤ maxLen) (hy : Int8sAt w (.slice ya r rcap) r U V) (hU : small U) (hV : small V) (hr : r ≤ maxLen) :
    Calls Try.prog 12 #[.slice xa q qcap, .slice ya r rcap] w (LivesPost w) := by
  go_enter Try.func12, Try.ntmps12
  go_wp2_with fail
  refine (made_any _ xa q qcap 30 X Y hx hX hY hq (by omega) (by omega)).mono ?_
  rintro e w1 ⟨g1, c1, rfl, hc1, hP1, hk1, _⟩
  have hy1 := hy.kept hk1
  go_wp2_with fail
  refine (made_any _ ya r rcap 30 U V hy1 hU hV hr (by omega) (by omega)).mono ?_
  rintro e w2 ⟨g2, c2, rfl, hc2, hQ2, hk2, _⟩
  have hm := madeN_bd (q := q) (most := 30) (by omega)
  have hn := madeN_bd (q := r) (most := 30) (by omega)
  have hT2 : Two w2 (madeN q 30) (madeN r 30) _ _ _ _ _ _ := ⟨hP1.kept hk2, hQ2, made_in, made_in, hm.1, hn.1, hm.2, hn.2⟩
  have hK2 := hk1.trans hk2
  generalize madeN q 30 = m at *
  generalize madeN r 30 = n at *
  generalize madeF q 1 X = A at *
  generalize madeF q 2 Y = B at *
  generalize madeF r 1 U = C at *
  generalize madeF r 2 V = D at *
  clear hx hX hY hq hy hU hV hr hP1 hQ2 hk1 hk2 hy1
  have hm1 : 1 ≤ m := hm.1
  have hn1 : 1 ≤ n := hn.1
  go_wp2_with fail
  refine (alike_any _ m n n m _ _ _ _ A B C D C D A B 1 hT2 ⟨hT2.b, hT2.a, hT2.i2, hT2.i1, hn1, hm1, hT2.n2, hT2.m2⟩ (by rw [Int.mul_one]; exact haus_swap hm1 hn1 hT2.i1 hT2.i2) (by rw [Int.mul_one]; exact fre_swap hm1 hn1) (by rw [Int.mul_one]; exact sum_swap hm1 hn1)).mono ?_
  rintro e w3 ⟨rfl, hk3⟩
  have hT3 := hT2.kept hk3
  have hK3 := hK2.trans hk3
  clear hT2 hK2 hk3
  go_wp2_with fail
  refine (back_any _ _ m c1 A B hT3.a hm1 (by have := hT3.m2; omega)).mono ?_
  rintro e w4 ⟨v4, rfl, hO4, hk4⟩
  have hA4 := own_pairs hO4
  obtain ⟨a4, c4, rfl, _⟩ := own_form hO4
  have hT4 := hT3.kept hk4
  have hK4 := hK3.trans hk4
  clear hT3 hK3 hk4 hO4
  go_wp2_with fail
  refine (back_any _ _ n c2 C D hT4.b hn1 (by have := hT4.n2; omega)).mono ?_
  rintro e w5 ⟨v5, rfl, hO5, hk5⟩
  have hB5 := own_pairs hO5
  obtain ⟨a5, c5, rfl, _⟩ := own_form hO5
  have hT5 := hT4.kept hk5
  have hA5 := hA4.kept hk5
  have hK5 := hK4.trans hk5
  clear hT4 hK4 hk5 hO5 hA4
  go_wp2_with fail
  refine (alike_any _ m n m n _ _ _ _ A B C D _ _ _ _ 1 hT5 ⟨hA5, hB5, rev_in hT5.i1, rev_in hT5.i2, hm1, hn1, hT5.m2, hT5.n2⟩ (by rw [Int.mul_one]; exact haus_back hm1 hn1 hT5.i1 hT5.i2) (by rw [Int.mul_one]; exact fre_back hm1 hn1) (by rw [Int.mul_one]; exact sum_back hm1 hn1)).mono ?_
  rintro e w6 ⟨rfl, hk6⟩
  go_wp2_with fail
  refine (lives_any _).mono ?_
  rintro e w7 ⟨rfl, hk7⟩
  go_wp2_with fail
  go_ret
  exact ⟨rfl, (hK5.trans hk6).trans hk7⟩
end Go.Proofs.Ytfmcjbddbomohaa
