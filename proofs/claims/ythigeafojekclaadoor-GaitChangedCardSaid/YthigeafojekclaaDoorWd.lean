/-
  The reference reads nothing: Parse, Valid of the empty string; Valid of numbers.
-/
import Derived.Test.YthigeafojekclaaDoorWg
import Derived.Test.YthigeafojekclaaDoorWf
namespace Go.Proofs.YthigeafojekclaaDoor.Num
open Go.RowKit Go.Deep Go.Shelf

def NonePost (w : World) (e : Ending) (w' : World) : Prop := ∃ m a l c, e = .returned (.tuple #[.agg #[.bool m, .slice a l c], .bool false]) ∧ Kept w w'
set_option maxRecDepth 100000 in
set_option maxHeartbeats 4000000 in
theorem digits_none (w : World) : Calls Tryd.prog 51 #[.string ⟨#[]⟩] w (NonePost w) := by
  have h0 : (⟨#[]⟩ : ByteArray).size = 0 := rfl
  have hB := box_row w (.bool false) (.slice none 0 0) 37 w.heap.size rfl
  have hK0 : Kept w (w.alloc (.cells #[.bool false, .slice none 0 0] 37)) := (Kept.refl w).alloc _
  generalize (⟨#[]⟩ : ByteArray) = s at *
  obtain ⟨j0, j1, j2, j3⟩ := bx_cells hB
  clear hB
  go_enter Tryd.func51, Tryd.ntmps51
  go_wp2_with fail
  exact bodyPost_ret (v := .tuple #[.agg #[.bool false, .slice none 0 0], .bool false]) (by simp [results, Tryd.results51, go_sem]) rfl ⟨false, none, 0, 0, rfl, hK0⟩
set_option maxRecDepth 100000 in
set_option maxHeartbeats 8000000 in
theorem Parse_none (w : World) : Calls Tryd.prog 35 #[.string ⟨#[]⟩] w fun e w' => ∃ m a l c m2 a2 l2 c2, e = .returned (.tuple #[.agg #[.bool m, .slice a l c, .bool m2, .slice a2 l2 c2], .bool false]) ∧ Kept w w' := by
  have h0 : (⟨#[]⟩ : ByteArray).size = 0 := rfl
  have DG := Lib.hid (fun W => show Calls Tryd.prog 51 #[.string ByteArray.empty] W (NonePost W) from digits_none W)
  have hR0 := box_row4 w (.bool false) (.slice none 0 0) (.bool false) (.slice none 0 0) 39 w.heap.size rfl
  have hKw : Kept w (w.alloc (.cells #[.bool false, .slice none 0 0, .bool false, .slice none 0 0] 39)) := (Kept.refl w).alloc _
  generalize (⟨#[]⟩ : ByteArray) = S at *
  go_enter Tryd.func35, Tryd.ntmps35
  go_wp2_with fail
  generalize w.alloc (.cells #[.bool false, .slice none 0 0, .bool false, .slice none 0 0] 39) = W at *
  obtain ⟨r0, HR0⟩ : ∃ r0, Hid (r0 = w.heap.size) := ⟨_, rfl⟩
  rw [← HR0.out] at hR0 ⊢
  have hrw : w.heap.size ≤ r0 := by rw [HR0.out]; exact Nat.le_refl _
  clear HR0
  go_loopg [6, 7] 0 (fun g s6 s7 wr => g = 0 ∧ s6 = .int .i64 0 ∧ s7 = .int .i64 (-1) ∧ W = wr)
  case atStart => exact ⟨rfl, by first | rfl | go_num, by first | rfl | go_num, rfl⟩
  case round =>
    obtain ⟨rfl, rfl, rfl, rfl⟩ := hrel
    go_wp2_with fail
    refine (DG.out _).mono ?_
    rintro e w1 ⟨m1, a1, l1, c1, rfl, hk1⟩
    have hk8 : Kept w1 (w1.alloc (.cells #[.bool m1, .slice a1 l1 c1] 37)) := (Kept.refl w1).alloc _
    go_wp2_with fail
    generalize w1.alloc (.cells #[.bool m1, .slice a1 l1 c1] 37) = w8 at *
    refine (Int_any _ 1 (by omega) (by omega)).mono ?_
    rintro e w2 ⟨v2, rfl, hz2, hk2⟩
    obtain ⟨m2, a2, l2, c2, rfl⟩ := hz2.shape
    clear hz2
    have hk10 : Kept w2 (w2.alloc (.cells #[.bool m2, .slice a2 l2 c2] 37)) := (Kept.refl w2).alloc _
    have hrF := ((((hk1.trans hk8).trans hk2).trans hk10)).row hR0
    have hKwF : Kept w (w2.alloc (.cells #[.bool m2, .slice a2 l2 c2] 37)) := ((((hKw.trans hk1).trans hk8).trans hk2).trans hk10)
    obtain ⟨f0, f1, f2, f3, f4, f5, f6, f7⟩ := bx4_cells hrF
    clear hR0 hrF
    go_wp2_with fail
    exact bodyPost_ret (v := .tuple #[.agg #[.bool false, .slice none 0 0, .bool false, .slice none 0 0], .bool false]) (by simp [results, Tryd.results35, go_sem, f0, f1, f2, f3]) rfl ⟨_, _, _, _, _, _, _, _, rfl, (((hKwF.setCell hrw _).setCell hrw _).setCell hrw _).setCell hrw _⟩
def ValPost (b : Bool) (w : World) (e : Ending) (w' : World) : Prop := e = .returned (.bool b) ∧ Kept w w'
set_option maxRecDepth 100000 in
set_option maxHeartbeats 4000000 in
theorem Valid_none (w : World) : Calls Tryd.prog 20 #[.string ⟨#[]⟩] w (ValPost false w) := by
  go_enter Tryd.func20, Tryd.ntmps20
  go_wp2_with fail
  refine (Parse_none _).mono ?_
  rintro e w1 ⟨m, a, l, c, m2, a2, l2, c2, rfl, hk1⟩
  go_wp2_with fail
  go_ret
  exact ⟨rfl, hk1.alloc _⟩
theorem Valid_of (w : World) (S : ByteArray) (x y : Int) (hP : Calls Tryd.prog 35 #[.string S] w (ParsePost w x y)) : Calls Tryd.prog 20 #[.string S] w (ValPost true w) := by
  have HP := Lib.hid hP
  clear hP
  go_enter Tryd.func20, Tryd.ntmps20
  go_wp2_with fail
  refine HP.out.mono ?_
  rintro e w1 ⟨v, rfl, hq, hk1⟩
  obtain ⟨m, a, l, c, m2, a2, l2, c2, rfl, _, _⟩ := hq.shape
  go_wp2_with fail
  go_ret
  exact ⟨rfl, hk1.alloc _⟩
theorem ValidF_any (w : World) (x y : Int) (lx ly : List UInt8) (hg : (Int.gcd x y : Int) = 1) (hx0 : 0 < x) (hx1 : x < 10 ^ 60) (hy0 : 0 < y) (hy1 : y < 10 ^ 60) (hlx : DecL lx x) (hly : DecL ly y) (hcx : lx.length ≤ 100) (hcy : ly.length ≤ 100) :
    Calls Tryd.prog 20 #[.string (if y = 1 then strL lx else strL lx ++ (⟨#[47]⟩ ++ strL ly))] w (ValPost true w) := by
  have hl0 : 0 < lx.length := by
    rcases Nat.eq_zero_or_pos lx.length with h | h
    · have := List.length_eq_zero_iff.1 h
      subst this
      have := hlx.2.1
      simp [decV] at this
      omega
    · exact h
  have hl1 : 0 < ly.length := by
    rcases Nat.eq_zero_or_pos ly.length with h | h
    · have := List.length_eq_zero_iff.1 h
      subst this
      have := hly.2.1
      simp [decV] at this
      omega
    · exact h
  by_cases hy : y = 1
  · rw [if_pos hy]
    have hex : (strL lx).extract 0 lx.length = strL lx := by
      have := strL_ext lx []
      rwa [List.append_nil] at this
    exact Valid_of w _ x 1 (Parse_whole w _ lx.length x hx0 (numS_whole hlx hl0 hcx) fun W => by rw [hex]; exact digits_any W lx x hlx hl0 (by omega))
  · rw [if_neg hy]
    have e : strL lx ++ (⟨#[47]⟩ ++ strL ly) = strL (lx ++ 47 :: ly) := by
      have h1 : (⟨#[47]⟩ : ByteArray) = strL [47] := rfl
      rw [h1, strL_append, strL_append]
      rfl
    rw [e]
    exact Valid_of w _ x y (Parse_frac w _ (lx.length + 1 + ly.length) lx.length x y hx0 hx1 (by omega) hy1 hg (numS_frac hlx hly hl0 hcx hcy) (by omega)
      (fun W => by rw [strL_ext]; exact digits_any W lx x hlx hl0 (by omega))
      (fun W => by rw [strL_ext2]; exact digits_any W ly y hly hl1 (by omega)))
end Go.Proofs.YthigeafojekclaaDoor.Num
