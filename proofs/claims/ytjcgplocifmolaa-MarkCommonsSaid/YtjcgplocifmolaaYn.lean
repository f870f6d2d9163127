/-
  The law MarkCommons, walked.
-/
import Derived.Test.YtjcgplocifmolaaRm
import Derived.Test.YtjcgplocifmolaaRd
import Derived.Test.YtjcgplocifmolaaLv
namespace Go.Proofs.Ytjcgplocifmolaa
open Go.RowKit Go.Deep Go.Sort

theorem wordC_is (l : Wd) : wordC 20 2 l = 0 ∨ wordC 20 2 l = 2 ∨ wordC 20 2 l = 3 := by
  unfold wordC; split
  · split <;> simp
  · simp
theorem wordsC_of (l r : Wd) : wordsC 20 2 l r = if wordC 20 2 l = 0 ∨ wordC 20 2 r = 3 then wordC 20 2 r else wordC 20 2 l := by
  unfold wordsC checkC wordC
  simp only [List.all_cons, List.all_nil, Bool.and_true]
  by_cases h1 : l.length ≤ 20 <;> by_cases h2 : r.length ≤ 20 <;> cases belB 2 l <;> cases belB 2 r <;> simp [h1, h2]
theorem two_out {w : World} {z : Int} {zero good : Value} {F : FuncId} {args : Array Value} (h : Calls Try.prog F args w (TwoPost w z zero good)) :
    Calls Try.prog F args w fun e w' => e = .returned (.tuple #[if z = 0 then good else zero, .int .i64 z]) ∧ Kept w w' := by
  refine h.mono ?_
  rintro e w' ⟨hk, h1, h2⟩
  by_cases hz : z = 0
  · subst hz
    exact ⟨by rw [if_pos rfl]; exact h2 rfl, hk⟩
  · exact ⟨by rw [if_neg hz]; exact h1 hz, hk⟩
set_option maxRecDepth 100000 in
set_option maxHeartbeats 4000000 in
theorem commons_any (w : World) (x y : ByteArray) (hx : x.size ≤ 9223372036854775807) (hy : y.size ≤ 9223372036854775807) :
    Calls Try.prog 4 #[.string x, .string y] w (LivesPost w) := by
  have CU := Lib.hid (fun W => cut_any W x 21 hx)
  have CV := Lib.hid (fun W => cut_any W y 21 hy)
  obtain ⟨l, HL⟩ : ∃ l, Hid (l = wd (cutS 21 x)) := ⟨_, rfl⟩
  obtain ⟨r, HR⟩ : ∃ l, Hid (l = wd (cutS 21 y)) := ⟨_, rfl⟩
  have hl : l.length ≤ 21 := by rw [HL.out, wd_len]; exact cutS_size 21 x
  have hr : r.length ≤ 21 := by rw [HR.out, wd_len]; exact cutS_size 21 y
  obtain ⟨s, HSS⟩ : ∃ s : ByteArray, Hid (s = bs l) := ⟨bs l, Lib.hid rfl⟩
  obtain ⟨t, HTT⟩ : ∃ s : ByteArray, Hid (s = bs r) := ⟨bs r, Lib.hid rfl⟩
  have hcs : cutS 21 x = s := by rw [HSS.out, HL.out, bs_wd]
  have hct : cutS 21 y = t := by rw [HTT.out, HR.out, bs_wd]
  rw [hcs] at CU
  rw [hct] at CV
  have CO := Lib.hid (fun W => two_out (Common_any W l r (by omega) (by omega)))
  have DI := Lib.hid (fun W => two_out (Distance_any W l r (by omega) (by omega)))
  have RC := Lib.hid (fun W => rCommon_any W l r (by omega) (by omega))
  have W0 := Lib.hid (fun W => rWord_any W l 2 20 (by omega))
  have W1 := Lib.hid (fun W => rWord_any W r 2 20 (by omega))
  have LV := Lib.hid lives_any
  unfold LivesPost at LV ⊢
  have hss : s.size = l.length := by rw [HSS.out]; rfl
  have hts : t.size = r.length := by rw [HTT.out]; rfl
  have hcl := com_len l r
  have hd : ((dist l r : Nat) : Int) = (l.length : Int) + (r.length : Int) - 2 * ((com l r).length : Int) := by unfold dist; omega
  rw [hd] at DI
  obtain ⟨C, HC⟩ : ∃ s : ByteArray, Hid (s = bs (com l r)) := ⟨_, Lib.hid rfl⟩
  have hcz : C.size = (com l r).length := by rw [HC.out]; rfl
  have hwo := wordsC_of l r
  rw [← HSS.out, ← HTT.out, ← HC.out, hwo] at CO
  rw [← HSS.out, ← HTT.out, hwo] at DI
  rw [← HSS.out, ← HTT.out, ← HC.out] at RC
  rw [← HSS.out] at W0
  rw [← HTT.out] at W1
  have hp := wordC_is l
  have hq := wordC_is r
  generalize wordC 20 2 l = p at *
  generalize wordC 20 2 r = q at *
  obtain ⟨ns, HNS⟩ : ∃ x, Hid (x = l.length) := ⟨_, rfl⟩
  obtain ⟨nt, HNT⟩ : ∃ x, Hid (x = r.length) := ⟨_, rfl⟩
  obtain ⟨nc, HNC⟩ : ∃ x, Hid (x = (com l r).length) := ⟨_, rfl⟩
  rw [← HNS.out, ← HNT.out, ← HNC.out] at DI
  rw [← HNS.out] at hss hl
  rw [← HNT.out] at hts hr
  rw [← HNC.out] at hcz
  rw [← HNS.out, ← HNT.out, ← HNC.out] at hcl
  obtain ⟨hcl1, hcl2⟩ := hcl
  have hbn : (bs []) = (⟨#[]⟩ : ByteArray) := rfl
  rw [hbn] at CO
  have es : (C.toList == C.toList) = true := by simp
  have ed : ((ns : Int) + (nt : Int) - 2 * (nc : Int) == (ns : Int) + (nt : Int) - 2 * (nc : Int)) = true := by simp
  clear hcs hct HL HR HSS HTT HC hd hwo hbn HNS HNT HNC
  have tok1 := Lib.hid True.intro
  have tok2 := Lib.hid True.intro
  rcases hp with rfl | rfl | rfl <;> rcases hq with rfl | rfl | rfl
  all_goals
    simp only [if_true, true_or, or_true, or_self, if_false, show ¬ ((2 : Int) = 0) by omega, show ¬ ((3 : Int) = 0) by omega, show ¬ ((0 : Int) = 3) by omega, show ¬ ((2 : Int) = 3) by omega] at CO DI
    go_enter Try.func4, Try.ntmps4
    go_wp2_with (first
      | (go_at_call 18; clear tok1; refine (CU.out _).mono ?_; rintro e w1 ⟨rfl, rfl⟩)
      | (go_at_call 18; refine (CV.out _).mono ?_; rintro e w1 ⟨rfl, rfl⟩)
      | (go_at_call 19; refine (CO.out _).mono ?_; rintro e w2 ⟨rfl, hk2⟩)
      | (go_at_call 20; refine (DI.out _).mono ?_; rintro e w3 ⟨rfl, hk3⟩)
      | (go_at_call 21; clear tok2; refine (W0.out _).mono ?_; rintro e w4 ⟨rfl, rfl⟩)
      | (go_at_call 21; refine (W1.out _).mono ?_; rintro e w4 ⟨rfl, rfl⟩)
      | (go_at_call 22; refine (RC.out _).mono ?_; rintro e w6 ⟨rfl, hk6⟩; have hk3 := hk3.trans hk6)
      | (go_at_call 12; refine (LV.out _).mono ?_; rintro e w9 ⟨rfl, hk9⟩))
    go_ret
    exact ⟨rfl, hk2.trans (hk3.trans hk9)⟩
end Go.Proofs.Ytjcgplocifmolaa
