/-
  The law MarkDigits, walked.
-/
import Derived.Test.YtgphaggkgcnidaaYc
import Derived.Test.YtgphaggkgcnidaaRl
import Derived.Test.YtgphaggkgcnidaaRj
namespace Go.Proofs.Ytgphaggkgcnidaa
open Go.RowKit Go.Deep Go.Sort

theorem ok_any {W : World} {L : List Wd} {F : FuncId} {args : Array Value} {c : Int} (h : Calls Try.prog F args W (ListPost W c L)) (hc : c = 0) :
    Calls Try.prog F args W fun e w' => ∃ v, e = .returned (.tuple #[v, .int .i64 0]) ∧ WdsAt w' v L ∧ Kept W w' := by
  refine h.mono ?_
  rintro e w' ⟨hk, _, h⟩
  obtain ⟨v, he, hO⟩ := h hc
  exact ⟨v, he, (wds_own hO).2, hk⟩
theorem bad_any {W : World} {L : List Wd} {F : FuncId} {args : Array Value} {c : Int} (h : Calls Try.prog F args W (ListPost W c L)) (hc : c ≠ 0) :
    Calls Try.prog F args W fun e w' => e = .returned (.tuple #[.slice none 0 0, .int .i64 c]) ∧ Kept W w' := by
  refine h.mono ?_
  rintro e w' ⟨hk, h, _⟩
  exact ⟨h hc, hk⟩
theorem row_any {W : World} {L : List Wd} {F : FuncId} {args : Array Value} (h : Calls Try.prog F args W (RowPost W L)) :
    Calls Try.prog F args W fun e w' => ∃ v, e = .returned v ∧ WdsAt w' v L ∧ Kept W w' := by
  refine h.mono ?_
  rintro e w' ⟨v, he, hO, hk⟩
  exact ⟨v, he, (wds_own hO).2, hk⟩
set_option maxRecDepth 100000 in
set_option maxHeartbeats 2000000 in
theorem lawDigits_any (w : World) (n q a b : Int) (x : ByteArray) (hx : x.size ≤ 9223372036854775807) (hn : -9223372036854775808 ≤ n ∧ n ≤ 9223372036854775807) (hq : -9223372036854775808 ≤ q ∧ q ≤ 9223372036854775807) :
    Calls Try.prog 7 #[.agg #[.int .i64 n, .int .i64 q, .int .i64 a, .int .i64 b], .string x] w (LivesPost w) := by
  have CU := Lib.hid (fun W => cut_any W x 21 hx)
  obtain ⟨l, HL⟩ : ∃ l, Hid (l = wd (cutS 21 x)) := ⟨_, rfl⟩
  have hl : l.length ≤ 21 := by rw [HL.out, wd_len]; exact cutS_size 21 x
  obtain ⟨s, HSS⟩ : ∃ s : ByteArray, Hid (s = bs l) := ⟨bs l, Lib.hid rfl⟩
  have hcs : cutS 21 x = s := by rw [HSS.out, HL.out, bs_wd]
  rw [hcs] at CU
  have ST := Lib.hid (fun W => Steps_any W l (by omega))
  have DI := Lib.hid (fun W => Digits_any W n q a b hn.1 hn.2 hq.1 hq.2)
  have RW := Lib.hid (fun W => rWord_any W l 4 20 (by omega))
  have RS := Lib.hid (fun W => rSteps_any W l (by omega))
  have FI := Lib.hid (fun W => fits_any W n q a b 6)
  have LV := Lib.hid lives_any
  obtain ⟨W, hW, hs, c0, c1, c2, c3, hk⟩ := newbox4 w w.heap.size rfl (.int .i64 n) (.int .i64 q) (.int .i64 a) (.int .i64 b) 60
  rw [← HSS.out] at ST RW RS
  unfold StepsPost TwoPost at ST
  unfold LivesPost at LV ⊢
  clear hcs HL hs hn hq
  have HCE : Hid (∀ W', Kept W W' → W'.cell? ⟨w.heap.size, 0, none⟩ = some (.int .i64 n) ∧ W'.cell? ⟨w.heap.size, 1, none⟩ = some (.int .i64 q) ∧ W'.cell? ⟨w.heap.size, 2, none⟩ = some (.int .i64 a) ∧ W'.cell? ⟨w.heap.size, 3, none⟩ = some (.int .i64 b)) := Lib.hid (fun W' k => ⟨k.cellSome c0, k.cellSome c1, k.cellSome c2, k.cellSome c3⟩)
  obtain ⟨z, HZ⟩ : ∃ z, Hid (z = wordC 20 4 l) := ⟨_, rfl⟩
  obtain ⟨T, HT⟩ : ∃ t : ByteArray, Hid (t = bs (stps l)) := ⟨_, Lib.hid rfl⟩
  rw [← HZ.out] at ST RW
  rw [← HT.out] at ST RS
  by_cases hw : z = 0
  · subst hw
    cases hu : upD n q a b 6
    · have DI2 := Lib.hid (fun W => bad_any (DI.out W) (by rw [hu]; decide))
      rw [hu] at DI2 FI
      replace DI2 : Hid (∀ W, Calls Try.prog 41 #[.int .i64 n, .int .i64 q, .int .i64 a, .int .i64 b] W fun e w' => e = .returned (.tuple #[.slice none 0 0, .int .i64 1]) ∧ Kept W w') := DI2
      clear hu DI
      have ST2 : Hid (∀ W, Calls Try.prog 40 #[.string s] W fun e w' => e = .returned (.tuple #[.string T, .int .i64 0]) ∧ Kept W w') := Lib.hid (fun W => (ST.out W).mono fun _ _ ⟨k, _, h⟩ => ⟨h rfl, k⟩)
      have e9 : (T.toList != T.toList) = false := by simp
      go_enter Try.func7, Try.ntmps7
      go_wp2_with (first
        | (go_at_call 17; refine (CU.out _).mono ?_; rintro e w1 ⟨rfl, rfl⟩)
        | (go_at_call 40; refine (ST2.out _).mono ?_; rintro e w2 ⟨rfl, hk2⟩; obtain ⟨d0, d1, d2, d3⟩ := HCE.out _ hk2)
        | (go_at_call 21; refine (RW.out _).mono ?_; rintro e w4 ⟨rfl, rfl⟩)
        | (go_at_call 41; refine (DI2.out _).mono ?_; rintro e w3 ⟨rfl, hk3⟩; obtain ⟨g0, g1, g2, g3⟩ := HCE.out _ (hk2.trans hk3))
        | (go_at_call 42; refine (RS.out _).mono ?_; rintro e w5 ⟨rfl, hq5⟩; obtain ⟨y0, y1, y2, y3⟩ := HCE.out _ ((hk2.trans hk3).trans hq5.kept))
        | (go_at_call 43; refine (FI.out _).mono ?_; rintro e w6 ⟨rfl, hk6⟩; obtain ⟨x0, x1, x2, x3⟩ := HCE.out _ (((hk2.trans hk3).trans hq5.kept).trans hk6))
        | (go_at_call 22; refine (LV.out _).mono ?_; rintro e w9 ⟨rfl, hk9⟩))
      go_ret
      exact ⟨rfl, (hk.trans (((hk2.trans hk3).trans hq5.kept).trans hk6)).trans hk9⟩
    · have DI2 := Lib.hid (fun W => ok_any (DI.out W) (by rw [hu]; rfl))
      rw [hu] at FI
      obtain ⟨nn, qq, aa, bb, rfl, rfl, rfl, rfl, n1, n2, n3, n4, n5, n6⟩ := upD_nat hu
      rw [show ((nn : Int)).toNat = nn from rfl, show ((qq : Int)).toNat = qq from rfl, show ((aa : Int)).toNat = aa from rfl, show ((bb : Int)).toNat = bb from rfl] at DI2
      have RD := Lib.hid (fun W => row_any (rDigits_any W nn qq aa bb (by omega) (by omega) (by omega) n4))
      have SA := Lib.hid (fun (W : World) (va vb : Value) (ha : WdsAt W va (codeD nn qq aa bb)) (hb : WdsAt W vb (codeD nn qq aa bb)) => same_yes W va vb _ ha hb (by
        have h := allW4 n4 nn (by omega)
        have h2 := List.length_filter_le (hasD nn qq aa bb) (allW qq nn)
        unfold codeD wordsF; omega))
      clear hu DI
      have ST2 : Hid (∀ W, Calls Try.prog 40 #[.string s] W fun e w' => e = .returned (.tuple #[.string T, .int .i64 0]) ∧ Kept W w') := Lib.hid (fun W => (ST.out W).mono fun _ _ ⟨k, _, h⟩ => ⟨h rfl, k⟩)
      have e9 : (T.toList != T.toList) = false := by simp
      go_enter Try.func7, Try.ntmps7
      go_wp2_with (first
        | (go_at_call 17; refine (CU.out _).mono ?_; rintro e w1 ⟨rfl, rfl⟩)
        | (go_at_call 40; refine (ST2.out _).mono ?_; rintro e w2 ⟨rfl, hk2⟩; obtain ⟨d0, d1, d2, d3⟩ := HCE.out _ hk2)
        | (go_at_call 21; refine (RW.out _).mono ?_; rintro e w4 ⟨rfl, rfl⟩)
        | (go_at_call 41; refine (DI2.out _).mono ?_; rintro e w3 ⟨v, rfl, hv, hk3⟩; obtain ⟨g0, g1, g2, g3⟩ := HCE.out _ (hk2.trans hk3))
        | (go_at_call 42; refine (RS.out _).mono ?_; rintro e w5 ⟨rfl, hq5⟩; obtain ⟨y0, y1, y2, y3⟩ := HCE.out _ ((hk2.trans hk3).trans hq5.kept))
        | (go_at_call 43; refine (FI.out _).mono ?_; rintro e w6 ⟨rfl, hk6⟩; obtain ⟨x0, x1, x2, x3⟩ := HCE.out _ (((hk2.trans hk3).trans hq5.kept).trans hk6))
        | (go_at_call 44; refine (RD.out _).mono ?_; rintro e w7 ⟨v2, rfl, hv2, hk7⟩)
        | (go_at_call 24; refine (SA.out _ _ _ (hv.kept ((hq5.kept.trans hk6).trans hk7)) hv2).mono ?_; rintro e w8 ⟨rfl, hq8⟩)
        | (go_at_call 22; refine (LV.out _).mono ?_; rintro e w9 ⟨rfl, hk9⟩))
      go_ret
      exact ⟨rfl, (hk.trans (((((hk2.trans hk3).trans hq5.kept).trans hk6).trans hk7).trans hq8.kept)).trans hk9⟩
  · skip
    cases hu : upD n q a b 6
    · have DI2 := Lib.hid (fun W => bad_any (DI.out W) (by rw [hu]; decide))
      rw [hu] at DI2 FI
      replace DI2 : Hid (∀ W, Calls Try.prog 41 #[.int .i64 n, .int .i64 q, .int .i64 a, .int .i64 b] W fun e w' => e = .returned (.tuple #[.slice none 0 0, .int .i64 1]) ∧ Kept W w') := DI2
      clear hu DI
      have ST2 : Hid (∀ W, Calls Try.prog 40 #[.string s] W fun e w' => e = .returned (.tuple #[.string ⟨#[]⟩, .int .i64 z]) ∧ Kept W w') := Lib.hid (fun W => (ST.out W).mono fun _ _ ⟨k, h, _⟩ => ⟨h hw, k⟩)
      have e1 : (z != 0) = true := by simp [hw]
      have e2 : (z != z) = false := by simp
      go_enter Try.func7, Try.ntmps7
      go_wp2_with (first
        | (go_at_call 17; refine (CU.out _).mono ?_; rintro e w1 ⟨rfl, rfl⟩)
        | (go_at_call 40; refine (ST2.out _).mono ?_; rintro e w2 ⟨rfl, hk2⟩; obtain ⟨d0, d1, d2, d3⟩ := HCE.out _ hk2)
        | (go_at_call 21; refine (RW.out _).mono ?_; rintro e w4 ⟨rfl, rfl⟩)
        | (go_at_call 41; refine (DI2.out _).mono ?_; rintro e w3 ⟨rfl, hk3⟩; obtain ⟨g0, g1, g2, g3⟩ := HCE.out _ (hk2.trans hk3))
        | (go_at_call 43; refine (FI.out _).mono ?_; rintro e w6 ⟨rfl, hk6⟩; obtain ⟨x0, x1, x2, x3⟩ := HCE.out _ ((hk2.trans hk3).trans hk6))
        | (go_at_call 22; refine (LV.out _).mono ?_; rintro e w9 ⟨rfl, hk9⟩))
      go_ret
      exact ⟨rfl, (hk.trans ((hk2.trans hk3).trans hk6)).trans hk9⟩
    · have DI2 := Lib.hid (fun W => ok_any (DI.out W) (by rw [hu]; rfl))
      rw [hu] at FI
      obtain ⟨nn, qq, aa, bb, rfl, rfl, rfl, rfl, n1, n2, n3, n4, n5, n6⟩ := upD_nat hu
      rw [show ((nn : Int)).toNat = nn from rfl, show ((qq : Int)).toNat = qq from rfl, show ((aa : Int)).toNat = aa from rfl, show ((bb : Int)).toNat = bb from rfl] at DI2
      have RD := Lib.hid (fun W => row_any (rDigits_any W nn qq aa bb (by omega) (by omega) (by omega) n4))
      have SA := Lib.hid (fun (W : World) (va vb : Value) (ha : WdsAt W va (codeD nn qq aa bb)) (hb : WdsAt W vb (codeD nn qq aa bb)) => same_yes W va vb _ ha hb (by
        have h := allW4 n4 nn (by omega)
        have h2 := List.length_filter_le (hasD nn qq aa bb) (allW qq nn)
        unfold codeD wordsF; omega))
      clear hu DI
      have ST2 : Hid (∀ W, Calls Try.prog 40 #[.string s] W fun e w' => e = .returned (.tuple #[.string ⟨#[]⟩, .int .i64 z]) ∧ Kept W w') := Lib.hid (fun W => (ST.out W).mono fun _ _ ⟨k, h, _⟩ => ⟨h hw, k⟩)
      have e1 : (z != 0) = true := by simp [hw]
      have e2 : (z != z) = false := by simp
      go_enter Try.func7, Try.ntmps7
      go_wp2_with (first
        | (go_at_call 17; refine (CU.out _).mono ?_; rintro e w1 ⟨rfl, rfl⟩)
        | (go_at_call 40; refine (ST2.out _).mono ?_; rintro e w2 ⟨rfl, hk2⟩; obtain ⟨d0, d1, d2, d3⟩ := HCE.out _ hk2)
        | (go_at_call 21; refine (RW.out _).mono ?_; rintro e w4 ⟨rfl, rfl⟩)
        | (go_at_call 41; refine (DI2.out _).mono ?_; rintro e w3 ⟨v, rfl, hv, hk3⟩; obtain ⟨g0, g1, g2, g3⟩ := HCE.out _ (hk2.trans hk3))
        | (go_at_call 43; refine (FI.out _).mono ?_; rintro e w6 ⟨rfl, hk6⟩; obtain ⟨x0, x1, x2, x3⟩ := HCE.out _ ((hk2.trans hk3).trans hk6))
        | (go_at_call 44; refine (RD.out _).mono ?_; rintro e w7 ⟨v2, rfl, hv2, hk7⟩)
        | (go_at_call 24; refine (SA.out _ _ _ (hv.kept (hk6.trans hk7)) hv2).mono ?_; rintro e w8 ⟨rfl, hq8⟩)
        | (go_at_call 22; refine (LV.out _).mono ?_; rintro e w9 ⟨rfl, hk9⟩))
      go_ret
      exact ⟨rfl, (hk.trans ((((hk2.trans hk3).trans hk6).trans hk7).trans hq8.kept)).trans hk9⟩
end Go.Proofs.Ytgphaggkgcnidaa
