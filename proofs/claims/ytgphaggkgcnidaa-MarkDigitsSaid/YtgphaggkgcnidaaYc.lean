/-
  The law MarkSums, walked.
-/
import Derived.Test.YtgphaggkgcnidaaYf
import Derived.Test.YtgphaggkgcnidaaRb
import Derived.Test.YtgphaggkgcnidaaRe
namespace Go.Proofs.Ytgphaggkgcnidaa
open Go.RowKit Go.Deep Go.Sort

theorem ok_list {W : World} {L : List Wd} {s : ByteArray} {F : FuncId} {c : Int} (h : Calls Try.prog F #[.string s] W (ListPost W c L)) (hc : c = 0) :
    Calls Try.prog F #[.string s] W fun e w' => ∃ v, e = .returned (.tuple #[v, .int .i64 0]) ∧ WdsAt w' v L ∧ Kept W w' := by
  refine h.mono ?_
  rintro e w' ⟨hk, _, h⟩
  obtain ⟨v, he, hO⟩ := h hc
  exact ⟨v, he, (wds_own hO).2, hk⟩
theorem bad_list {W : World} {L : List Wd} {s : ByteArray} {F : FuncId} {c : Int} (h : Calls Try.prog F #[.string s] W (ListPost W c L)) (hc : c ≠ 0) :
    Calls Try.prog F #[.string s] W fun e w' => e = .returned (.tuple #[.slice none 0 0, .int .i64 c]) ∧ Kept W w' := by
  refine h.mono ?_
  rintro e w' ⟨hk, h, _⟩
  exact ⟨h hc, hk⟩
theorem ref_list {W : World} {L : List Wd} {F : FuncId} {args : Array Value} (h : Calls Try.prog F args W (SrtPost W L)) :
    Calls Try.prog F args W fun e w' => ∃ v, e = .returned v ∧ WdsAt w' v (srt L) ∧ Kept W w' := by
  refine h.mono ?_
  rintro e w' ⟨v, he, hO, hk⟩
  exact ⟨v, he, (wds_own hO).2, hk⟩
theorem dels_small {l : Wd} (hl : l.length ≤ 1000) : (srt (dels l)).length ≤ 1000000 := by
  rw [← puts_srt]
  have h := puts_len_le (dels l)
  have h2 : (dels l).length = l.length := by simp [dels]
  omega
theorem inss_small {l : Wd} {q : Nat} (hl : l.length ≤ 1000) (hq : q ≤ 4) : (srt (inss l q)).length ≤ 1000000 := by
  rw [← puts_srt]
  have h := puts_len_le (inss l q)
  have h2 : (inss l q).length = q * (l.length + 1) + 0 := by rw [← pre_full, pre_len]
  have h3 : q * (l.length + 1) ≤ 4 * (l.length + 1) := Nat.mul_le_mul_right _ hq
  omega
theorem same_yes (w : World) (va vb : Value) (L : List Wd) (ha : WdsAt w va L) (hb : WdsAt w vb L) (hn : L.length ≤ 1000000) :
    Calls Try.prog 24 #[va, vb] w fun e w' => e = .returned (.bool true) ∧ Quiet w w' := by
  have h := rSame_any w va vb L L ha hb hn hn
  rwa [decide_eq_true rfl] at h
set_option maxRecDepth 100000 in
set_option maxHeartbeats 2000000 in
theorem lawSums_any (w : World) (x : ByteArray) (hx : x.size ≤ 9223372036854775807) :
    Calls Try.prog 3 #[.string x] w (LivesPost w) := by
  have CU := Lib.hid (cut_any w x 21 hx)
  obtain ⟨l, HL⟩ : ∃ l, Hid (l = wd (cutS 21 x)) := ⟨_, rfl⟩
  have hl : l.length ≤ 21 := by rw [HL.out, wd_len]; exact cutS_size 21 x
  obtain ⟨s, HSS⟩ : ∃ s : ByteArray, Hid (s = bs l) := ⟨bs l, Lib.hid rfl⟩
  have hcs : cutS 21 x = s := by rw [HSS.out, HL.out, bs_wd]
  rw [hcs] at CU
  have SU := Lib.hid (fun W => Sum_any W l (by omega))
  have SH := Lib.hid (fun W => Shorter_any W l (by omega))
  have LO := Lib.hid (fun W => Longer_any W l (by omega))
  have RW := Lib.hid (fun W => rWord_any W l 2 20 (by omega))
  have RS := Lib.hid (fun W => rSum_any W l (by omega))
  have RH := Lib.hid (fun W => ref_list (rShorter_any W l (by omega)))
  have RL := Lib.hid (fun W => ref_list (rLonger_any W l 2 (by omega) (by omega)))
  have n1 := dels_small (show l.length ≤ 1000 by omega)
  have n2 := inss_small (q := 2) (show l.length ≤ 1000 by omega) (by omega)
  have S1 := Lib.hid (fun W va vb ha hb => same_yes W va vb (srt (dels l)) ha hb n1)
  have S2 := Lib.hid (fun W va vb ha hb => same_yes W va vb (srt (inss l 2)) ha hb n2)
  have LV := Lib.hid lives_any
  rw [← HSS.out] at SU SH LO RW RS RH RL
  unfold SumPost at SU
  unfold LivesPost at LV ⊢
  clear hcs HL n1 n2
  by_cases hw : wordC 20 2 l = 0
  · have SU2 : Hid (∀ W, Calls Try.prog 18 #[.string s] W fun e w' => Kept W w' ∧ e = .returned (.tuple #[.int .i64 (wsum 0 l : Nat), .int .i64 0])) := by
      rw [if_pos hw] at SU; exact SU
    rw [hw] at RW
    have LO2 := Lib.hid (fun W => ok_list (LO.out W) hw)
    obtain ⟨K, HK⟩ : ∃ k, Hid (k = wsum 0 l) := ⟨_, rfl⟩
    rw [← HK.out] at SU2 RS
    by_cases h0 : l = []
    · have hc : shC l = 5 := by unfold shC; rw [if_pos hw, if_pos h0]
      have SH2 := Lib.hid (fun W => bad_list (SH.out W) (by rw [hc]; decide))
      rw [hc] at SH2
      have e1 : s.toList.isEmpty = true := by rw [HSS.out, h0, ByteArray.toList_eq]; rfl
      clear SH LO SU hw hc h0
      go_enter Try.func3, Try.ntmps3
      go_wp2_with (first
        | (go_at_call 17; refine CU.out.mono ?_; rintro e w1 ⟨rfl, rfl⟩)
        | (go_at_call 18; refine (SU2.out _).mono ?_; rintro e w2 ⟨hk2, rfl⟩)
        | (go_at_call 19; refine (SH2.out _).mono ?_; rintro e w3 ⟨rfl, hk3⟩)
        | (go_at_call 20; refine (LO2.out _).mono ?_; rintro e w4 ⟨q, rfl, hq, hk4⟩)
        | (go_at_call 21; refine (RW.out _).mono ?_; rintro e w5 ⟨rfl, rfl⟩)
        | (go_at_call 23; refine (RS.out _).mono ?_; rintro e w6 ⟨rfl, rfl⟩)
        | (go_at_call 25; refine (RL.out _).mono ?_; rintro e w7 ⟨q2, rfl, hq2, hk7⟩)
        | (go_at_call 24; refine (S2.out _ _ _ (hq.kept hk7) hq2).mono ?_; rintro e w8 ⟨rfl, hq8⟩)
        | (go_at_call 22; refine (LV.out _).mono ?_; rintro e w9 ⟨rfl, hk9⟩))
      go_ret
      exact ⟨rfl, ((((hk2.trans hk3).trans hk4).trans hk7).trans hq8.kept).trans hk9⟩
    · have hc : shC l = 0 := by unfold shC; rw [if_pos hw, if_neg h0]
      have SH2 := Lib.hid (fun W => ok_list (SH.out W) hc)
      have e1 : s.toList.isEmpty = false := by
        have : 0 < s.toList.length := by rw [ByteArray.toList_eq, HSS.out]; exact List.length_pos_iff.2 h0
        cases hh : s.toList with
        | nil => rw [hh] at this; simp at this
        | cons a t => rfl
      clear SH LO SU hw hc h0
      go_enter Try.func3, Try.ntmps3
      go_wp2_with (first
        | (go_at_call 17; refine CU.out.mono ?_; rintro e w1 ⟨rfl, rfl⟩)
        | (go_at_call 18; refine (SU2.out _).mono ?_; rintro e w2 ⟨hk2, rfl⟩)
        | (go_at_call 19; refine (SH2.out _).mono ?_; rintro e w3 ⟨p, rfl, hp, hk3⟩)
        | (go_at_call 20; refine (LO2.out _).mono ?_; rintro e w4 ⟨q, rfl, hq, hk4⟩)
        | (go_at_call 21; refine (RW.out _).mono ?_; rintro e w5 ⟨rfl, rfl⟩)
        | (go_at_call 23; refine (RS.out _).mono ?_; rintro e w6 ⟨rfl, rfl⟩)
        | (go_at_call 25; refine (RL.out _).mono ?_; rintro e w7 ⟨q2, rfl, hq2, hk7⟩)
        | (go_at_call 24; refine (S1.out _ _ _ (hp.kept (((((hk4.trans hk7).trans hq8.kept)).trans hk9).trans hka)) hp2).mono ?_; rintro e wb ⟨rfl, hqb⟩)
        | (go_at_call 24; refine (S2.out _ _ _ (hq.kept hk7) hq2).mono ?_; rintro e w8 ⟨rfl, hq8⟩)
        | (go_at_call 22; refine (LV.out _).mono ?_; rintro e w9 ⟨rfl, hk9⟩)
        | (go_at_call 26; refine (RH.out _).mono ?_; rintro e wa ⟨p2, rfl, hp2, hka⟩))
      go_ret
      exact ⟨rfl, ((((((hk2.trans hk3).trans hk4).trans hk7).trans hq8.kept).trans hk9).trans hka).trans hqb.kept⟩
  · obtain ⟨z, HZ⟩ : ∃ z, Hid (z = wordC 20 2 l) := ⟨_, rfl⟩
    have hc : shC l = wordC 20 2 l := by unfold shC; rw [if_neg hw]
    have SU2 : Hid (∀ W, Calls Try.prog 18 #[.string s] W fun e w' => Kept W w' ∧ e = .returned (.tuple #[.int .i64 0, .int .i64 (wordC 20 2 l)])) := by
      rw [if_neg hw] at SU; exact SU
    have LO2 := Lib.hid (fun W => bad_list (LO.out W) hw)
    have SH2 := Lib.hid (fun W => bad_list (SH.out W) (by rw [hc]; exact hw))
    rw [hc] at SH2
    rw [← HZ.out] at SU2 SH2 LO2 RW hw
    have e1 : (z != 0) = true := by simp [hw]
    have e2 : (z == z) = true := by simp
    clear SH LO SU hw hc
    go_enter Try.func3, Try.ntmps3
    go_wp2_with (first
      | (go_at_call 17; refine CU.out.mono ?_; rintro e w1 ⟨rfl, rfl⟩)
      | (go_at_call 18; refine (SU2.out _).mono ?_; rintro e w2 ⟨hk2, rfl⟩)
      | (go_at_call 19; refine (SH2.out _).mono ?_; rintro e w3 ⟨rfl, hk3⟩)
      | (go_at_call 20; refine (LO2.out _).mono ?_; rintro e w4 ⟨rfl, hk4⟩)
      | (go_at_call 21; refine (RW.out _).mono ?_; rintro e w5 ⟨rfl, rfl⟩)
      | (go_at_call 22; refine (LV.out _).mono ?_; rintro e w9 ⟨rfl, hk9⟩))
    go_ret
    exact ⟨rfl, ((hk2.trans hk3).trans hk4).trans hk9⟩
end Go.Proofs.Ytgphaggkgcnidaa
