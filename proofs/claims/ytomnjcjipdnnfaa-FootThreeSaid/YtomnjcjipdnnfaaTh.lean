/-
  The law FootThree: its walk.
-/
import Derived.Test.YtomnjcjipdnnfaaRt
import Derived.Test.YtomnjcjipdnnfaaGd
namespace Go.Proofs.Ytomnjcjipdnnfaa
open Go.RowKit Go.Deep

set_option maxRecDepth 100000 in
set_option maxHeartbeats 8000000 in
theorem threes_any (w : World) (xa ya za : Option Addr) (q qcap r rcap u ucap : Nat) (X Y U V P Q : Nat → Int) (hx : Int8sAt w (.slice xa q qcap) q X Y) (hX : small X) (hY : small Y) (hq : q ≤ maxLen) (hy : Int8sAt w (.slice ya r rcap) r U V) (hU : small U) (hV : small V) (hr : r ≤ maxLen) (hz : Int8sAt w (.slice za u ucap) u P Q) (hP : small P) (hQ : small Q) (hu : u ≤ maxLen) :
    Calls Try.prog 11 #[.slice xa q qcap, .slice ya r rcap, .slice za u ucap] w (LivesPost w) := by
  go_enter Try.func11, Try.ntmps11
  go_wp2_with fail
  refine (made_any _ xa q qcap 12 X Y hx hX hY hq (by omega) (by omega)).mono ?_
  rintro e w1 ⟨g1, c1, rfl, hc1, hP1, hk1, _⟩
  have hy1 := hy.kept hk1
  have hz1 := hz.kept hk1
  go_wp2_with fail
  refine (made_any _ ya r rcap 12 U V hy1 hU hV hr (by omega) (by omega)).mono ?_
  rintro e w2 ⟨g2, c2, rfl, hc2, hQ2, hk2, _⟩
  have hz2 := hz1.kept hk2
  go_wp2_with fail
  refine (made_any _ za u ucap 12 P Q hz2 hP hQ hu (by omega) (by omega)).mono ?_
  rintro e w3 ⟨g3, c3, rfl, hc3, hR3, hk3, _⟩
  have hm := madeN_bd (q := q) (most := 12) (by omega)
  have hn := madeN_bd (q := r) (most := 12) (by omega)
  have ho := madeN_bd (q := u) (most := 12) (by omega)
  have hA3 := (hP1.kept hk2).kept hk3
  have hB3 := hQ2.kept hk3
  have i1 : InR (madeN q 12) (madeF q 1 X) (madeF q 2 Y) := made_in
  have i2 : InR (madeN r 12) (madeF r 1 U) (madeF r 2 V) := made_in
  have i3 : InR (madeN u 12) (madeF u 1 P) (madeF u 2 Q) := made_in
  have hK3 := (hk1.trans hk2).trans hk3
  generalize madeN q 12 = m at *
  generalize madeN r 12 = n at *
  generalize madeN u 12 = o at *
  generalize madeF q 1 X = A at *
  generalize madeF q 2 Y = B at *
  generalize madeF r 1 U = C at *
  generalize madeF r 2 V = D at *
  generalize madeF u 1 P = E at *
  generalize madeF u 2 Q = F at *
  clear hx hX hY hq hy hU hV hr hz hP hQ hu hP1 hQ2 hk1 hk2 hk3 hy1 hz1 hz2
  have T12 := Lib.hid (fun (W : World) (k : Kept w3 W) => (⟨hA3.kept k, hB3.kept k, i1, i2, hm.1, hn.1, by omega, by omega⟩ : Two W m n _ _ A B C D))
  have T23 := Lib.hid (fun (W : World) (k : Kept w3 W) => (⟨hB3.kept k, hR3.kept k, i2, i3, hn.1, ho.1, by omega, by omega⟩ : Two W n o _ _ C D E F))
  have T13 := Lib.hid (fun (W : World) (k : Kept w3 W) => (⟨hA3.kept k, hR3.kept k, i1, i3, hm.1, ho.1, by omega, by omega⟩ : Two W m o _ _ A B E F))
  have hb1 := haus_bd i1 i2 hm.1 hn.1
  have hb2 := haus_bd i2 i3 hn.1 ho.1
  have hb3 := haus_bd i1 i3 hm.1 ho.1
  have fb1 := fre_bd i1 i2 hm.1 hn.1
  have fb2 := fre_bd i2 i3 hn.1 ho.1
  have fb3 := fre_bd i1 i3 hm.1 ho.1
  have RH := Lib.hid (haus_three (X := A) (Y := B) (U := C) (V := D) (P := E) (Q := F) hm.1 hn.1 ho.1 hb1.1 hb2.1)
  have RF := Lib.hid (fre_three (X := A) (Y := B) (U := C) (V := D) (P := E) (Q := F) hm.1 hn.1 ho.1)
  obtain ⟨h12, H12⟩ : ∃ x, Hid (x = haus m A B n C D) := ⟨_, rfl⟩
  obtain ⟨h23, H23⟩ : ∃ x, Hid (x = haus n C D o E F) := ⟨_, rfl⟩
  obtain ⟨h13, H13⟩ : ∃ x, Hid (x = haus m A B o E F) := ⟨_, rfl⟩
  obtain ⟨f12, F12⟩ : ∃ x, Hid (x = fre m A B n C D) := ⟨_, rfl⟩
  obtain ⟨f23, F23⟩ : ∃ x, Hid (x = fre n C D o E F) := ⟨_, rfl⟩
  obtain ⟨f13, F13⟩ : ∃ x, Hid (x = fre m A B o E F) := ⟨_, rfl⟩
  rw [← H12.out, ← H23.out, ← H13.out] at RH
  rw [← F12.out, ← F23.out, ← F13.out] at RF
  rw [← H12.out] at hb1
  rw [← H23.out] at hb2
  rw [← H13.out] at hb3
  rw [← F12.out] at fb1
  rw [← F23.out] at fb2
  rw [← F13.out] at fb3
  have HB := Lib.hid (And.intro hb1 (And.intro hb2 hb3))
  have FB := Lib.hid (And.intro fb1 (And.intro fb2 fb3))
  obtain ⟨x1, x2⟩ := hb1
  obtain ⟨x3, x4⟩ := hb2
  obtain ⟨x5, x6⟩ := hb3
  obtain ⟨y1, y2⟩ := fb1
  obtain ⟨y3, y4⟩ := fb2
  obtain ⟨y5, y6⟩ := fb3
  clear hA3 hB3 hR3 i1 i2 i3 hm hn ho
  go_wp2_with fail
  go_loopg [10] 2 (fun g s10 wr => ∃ k : Nat, k ≤ 2 ∧ g = 2 - k ∧ s10 = .int .i64 k ∧ Kept w3 wr)
  case atStart => exact ⟨0, by omega, rfl, rfl, Kept.refl _⟩
  case round =>
    obtain ⟨k, hk, rfl, rfl, hK⟩ := hrel
    rcases (show k = 0 ∨ k = 1 ∨ k = 2 by omega) with rfl | rfl | rfl
    · go_wp2_with fail
      have hk4 := (Kept.refl wr).alloc (.cells #[.func (.func 16) #[] #[], .func (.func 23) #[] #[]] 26)
      refine (Hausdorff_good _ m o _ _ A B E F (T13.out _ (hK.trans hk4))).mono ?_
      rw [← H13.out]
      rintro e w5 ⟨rfl, hk5⟩
      have hK5 := (hK.trans hk4).trans hk5
      clear hk4 hk5
      go_wp2_with fail
      refine (Hausdorff_good _ m n _ _ A B C D (T12.out _ hK5)).mono ?_
      rw [← H12.out]
      rintro e w6 ⟨rfl, hk6⟩
      have hK6 := hK5.trans hk6
      clear hk6
      go_wp2_with fail
      refine (Hausdorff_good _ n o _ _ C D E F (T23.out _ hK6)).mono ?_
      rw [← H23.out]
      rintro e w7 ⟨rfl, hk7⟩
      have hK7 := hK6.trans hk7
      clear hk7
      have n1 : ¬ h13 < 0 := by omega
      have n2 : ¬ h12 < 0 := by omega
      have n3 : ¬ h23 < 0 := by omega
      go_wp2_with fail
      refine (root3_any _ h13 h12 h23 HB.out.2.2 HB.out.1 HB.out.2.1 RH.out).mono ?_
      rintro e w8 ⟨rfl, hk8⟩
      have hK8 := hK7.trans hk8
      go_wp2_with fail
      go_roundg 1
      case measure => omega
      case rel => exact ⟨1, by omega, rfl, rfl, hK8⟩
    · go_wp2_with fail
      have hk4 := (Kept.refl wr).alloc (.cells #[.func (.func 16) #[] #[], .func (.func 23) #[] #[]] 26)
      refine (Frechet_good _ m o _ _ A B E F (T13.out _ (hK.trans hk4))).mono ?_
      rw [← F13.out]
      rintro e w5 ⟨rfl, hk5⟩
      have hK5 := (hK.trans hk4).trans hk5
      clear hk4 hk5
      go_wp2_with fail
      refine (Frechet_good _ m n _ _ A B C D (T12.out _ hK5)).mono ?_
      rw [← F12.out]
      rintro e w6 ⟨rfl, hk6⟩
      have hK6 := hK5.trans hk6
      clear hk6
      go_wp2_with fail
      refine (Frechet_good _ n o _ _ C D E F (T23.out _ hK6)).mono ?_
      rw [← F23.out]
      rintro e w7 ⟨rfl, hk7⟩
      have hK7 := hK6.trans hk7
      clear hk7
      have n1 : ¬ f13 < 0 := by omega
      have n2 : ¬ f12 < 0 := by omega
      have n3 : ¬ f23 < 0 := by omega
      go_wp2_with fail
      refine (root3_any _ f13 f12 f23 FB.out.2.2 FB.out.1 FB.out.2.1 RF.out).mono ?_
      rintro e w8 ⟨rfl, hk8⟩
      have hK8 := hK7.trans hk8
      go_wp2_with fail
      go_roundg 0
      case measure => omega
      case rel => exact ⟨2, by omega, rfl, rfl, hK8⟩
    · go_wp2_with fail
      refine (lives_any _).mono ?_
      rintro e w9 ⟨rfl, hk9⟩
      go_wp2_with fail
      go_ret
      exact ⟨rfl, (hK3.trans hK).trans hk9⟩
end Go.Proofs.Ytomnjcjipdnnfaa
