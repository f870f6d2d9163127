/-
  The law MarkFounds, walked.
-/
import Derived.Test.YtgphaggkgcnidaaYd
import Derived.Test.YtgphaggkgcnidaaRi
import Derived.Test.YtgphaggkgcnidaaRj
namespace Go.Proofs.Ytgphaggkgcnidaa
open Go.RowKit Go.Deep Go.Sort

set_option maxRecDepth 100000 in
set_option maxHeartbeats 2000000 in
theorem lawFounds_any (w : World) (n q a b : Int) (x : ByteArray) (hx : x.size ≤ 9223372036854775807) (hn : -9223372036854775808 ≤ n ∧ n ≤ 9223372036854775807) (hq : -9223372036854775808 ≤ q ∧ q ≤ 9223372036854775807) :
    Calls Try.prog 8 #[.agg #[.int .i64 n, .int .i64 q, .int .i64 a, .int .i64 b], .string x] w (LivesPost w) := by
  have CU := Lib.hid (fun W => cut_any W x 21 hx)
  obtain ⟨l, HL⟩ : ∃ l, Hid (l = wd (cutS 21 x)) := ⟨_, rfl⟩
  have hl : l.length ≤ 21 := by rw [HL.out, wd_len]; exact cutS_size 21 x
  obtain ⟨s, HSS⟩ : ∃ s : ByteArray, Hid (s = bs l) := ⟨bs l, Lib.hid rfl⟩
  have hcs : cutS 21 x = s := by rw [HSS.out, HL.out, bs_wd]
  rw [hcs] at CU
  have FO := Lib.hid (fun W => rest_out (Found_any W n q a b l (by omega) hn.1 hn.2 hq.1 hq.2))
  have RW := Lib.hid (fun W => rWord_any W l 4 20 (by omega))
  have FI := Lib.hid (fun W => fits_any W n q a b 20)
  have LV := Lib.hid lives_any
  obtain ⟨W, hW, hs, c0, c1, c2, c3, hk⟩ := newbox4 w w.heap.size rfl (.int .i64 n) (.int .i64 q) (.int .i64 a) (.int .i64 b) 60
  rw [← HSS.out] at FO RW
  unfold LivesPost at LV ⊢
  obtain ⟨X, HX⟩ : ∃ X, Hid (X = restX (fndC n q a b l) ((srt (inss l q.toNat)).find? (hasD n.toNat q.toNat a.toNat b.toNat))) := ⟨_, rfl⟩
  obtain ⟨Z, HZ⟩ : ∃ X, Hid (X = restZ (fndC n q a b l) ((srt (inss l q.toNat)).find? (hasD n.toNat q.toNat a.toNat b.toNat))) := ⟨_, rfl⟩
  rw [← HX.out, ← HZ.out] at FO
  clear hcs HL hs hn hq
  have HCE : Hid (∀ W', Kept W W' → W'.cell? ⟨w.heap.size, 0, none⟩ = some (.int .i64 n) ∧ W'.cell? ⟨w.heap.size, 1, none⟩ = some (.int .i64 q) ∧ W'.cell? ⟨w.heap.size, 2, none⟩ = some (.int .i64 a) ∧ W'.cell? ⟨w.heap.size, 3, none⟩ = some (.int .i64 b)) := Lib.hid (fun W' k => ⟨k.cellSome c0, k.cellSome c1, k.cellSome c2, k.cellSome c3⟩)
  by_cases hw : wordC 20 4 l = 0
  · rw [hw] at RW
    cases hu : upD n q a b 20
    · rw [hu] at FI
      have hc : fndC n q a b l = 1 := by unfold fndC; rw [if_pos hw, hu]; rfl
      obtain rfl : X = ⟨#[]⟩ := by rw [HX.out, hc]; rfl
      obtain rfl : Z = 1 := by rw [HZ.out, hc]; rfl
      clear hu hc hw HX HZ
      go_enter Try.func8, Try.ntmps8
      go_wp2_with (first
        | (go_at_call 17; refine (CU.out _).mono ?_; rintro e w1 ⟨rfl, rfl⟩)
        | (go_at_call 45; refine (FO.out _).mono ?_; rintro e w2 ⟨rfl, hk2⟩; obtain ⟨d0, d1, d2, d3⟩ := HCE.out _ hk2)
        | (go_at_call 21; refine (RW.out _).mono ?_; rintro e w3 ⟨rfl, rfl⟩)
        | (go_at_call 43; refine (FI.out _).mono ?_; rintro e w4 ⟨rfl, hk4⟩; obtain ⟨f0, f1, f2, f3⟩ := HCE.out _ (hk2.trans hk4))
        | (go_at_call 22; refine (LV.out _).mono ?_; rintro e w9 ⟨rfl, hk9⟩))
      go_ret
      exact ⟨rfl, ((hk.trans hk2).trans hk4).trans hk9⟩
    · rw [hu] at FI
      obtain ⟨nn, qq, aa, bb, rfl, rfl, rfl, rfl, n1, n2, n3, n4, n5, n6⟩ := upD_nat hu
      have RQ := Lib.hid (fun W => rWord_any W l qq 20 (by omega))
      rw [← HSS.out] at RQ
      have hl20 := (wordC_ok hw).1
      have hqn : ((qq : Int)).toNat = qq := rfl
      cases hb : belB qq l
      · have hc : fndC nn qq aa bb l = 1 := by unfold fndC; rw [if_pos hw, hu, hqn, hb]; rfl
        have hw2 : wordC 20 qq l = 2 := by unfold wordC; rw [if_pos hl20, hb]; rfl
        rw [hw2] at RQ
        obtain rfl : X = ⟨#[]⟩ := by rw [HX.out, hc]; rfl
        obtain rfl : Z = 1 := by rw [HZ.out, hc]; rfl
        clear hu hc hw HX HZ hw2 hb hqn
        go_enter Try.func8, Try.ntmps8
        go_wp2_with (first
          | (go_at_call 17; refine (CU.out _).mono ?_; rintro e w1 ⟨rfl, rfl⟩)
          | (go_at_call 45; refine (FO.out _).mono ?_; rintro e w2 ⟨rfl, hk2⟩; obtain ⟨d0, d1, d2, d3⟩ := HCE.out _ hk2)
          | (go_at_call 21; refine (RQ.out w4).mono ?_; rintro e w5 ⟨rfl, rfl⟩)
          | (go_at_call 21; refine (RW.out _).mono ?_; rintro e w3 ⟨rfl, rfl⟩)
          | (go_at_call 43; refine (FI.out _).mono ?_; rintro e w4 ⟨rfl, hk4⟩; obtain ⟨f0, f1, f2, f3⟩ := HCE.out _ (hk2.trans hk4))
          | (go_at_call 22; refine (LV.out _).mono ?_; rintro e w9 ⟨rfl, hk9⟩))
        go_ret
        exact ⟨rfl, ((hk.trans hk2).trans hk4).trans hk9⟩
      · have hc : fndC nn qq aa bb l = 0 := by unfold fndC; rw [if_pos hw, hu, hqn, hb]; rfl
        have hw2 : wordC 20 qq l = 0 := by unfold wordC; rw [if_pos hl20, hb]; rfl
        rw [hw2] at RQ
        have REF := Lib.hid (fun W => rFound_any W nn qq aa bb l (by omega) (by omega) (by omega) n4 (by omega) (belB_dig.1 hb))
        rw [← HSS.out] at REF
        rw [hc] at HX HZ
        rw [show ((nn : Int)).toNat = nn from rfl, show ((qq : Int)).toNat = qq from rfl, show ((aa : Int)).toNat = aa from rfl, show ((bb : Int)).toNat = bb from rfl] at HX HZ
        obtain ⟨o, HO⟩ : ∃ o, Hid (o = (srt (inss l qq)).find? (hasD nn qq aa bb)) := ⟨_, rfl⟩
        rw [← HO.out] at REF HX HZ
        clear hu hc hw hw2 hb hqn
        cases o with
        | none =>
          obtain rfl : X = ⟨#[]⟩ := by rw [HX.out]; rfl
          obtain rfl : Z = 5 := by rw [HZ.out]; rfl
          have hv : refV none = .tuple #[.string ⟨#[]⟩, .bool false] := rfl
          rw [hv] at REF
          clear HX HZ hv HO
          go_enter Try.func8, Try.ntmps8
          go_wp2_with (first
            | (go_at_call 17; refine (CU.out _).mono ?_; rintro e w1 ⟨rfl, rfl⟩)
            | (go_at_call 45; refine (FO.out _).mono ?_; rintro e w2 ⟨rfl, hk2⟩; obtain ⟨d0, d1, d2, d3⟩ := HCE.out _ hk2)
            | (go_at_call 21; refine (RQ.out w4).mono ?_; rintro e w5 ⟨rfl, rfl⟩)
            | (go_at_call 21; refine (RW.out _).mono ?_; rintro e w3 ⟨rfl, rfl⟩)
            | (go_at_call 43; refine (FI.out _).mono ?_; rintro e w4 ⟨rfl, hk4⟩; obtain ⟨f0, f1, f2, f3⟩ := HCE.out _ (hk2.trans hk4))
            | (go_at_call 46; refine (REF.out _).mono ?_; rintro e w6 ⟨rfl, hk6⟩)
            | (go_at_call 22; refine (LV.out _).mono ?_; rintro e w9 ⟨rfl, hk9⟩))
          go_ret
          exact ⟨rfl, (((hk.trans hk2).trans hk4).trans hk6).trans hk9⟩
        | some y =>
          obtain rfl : Z = 0 := by rw [HZ.out]; rfl
          have hv : refV (some y) = .tuple #[.string X, .bool true] := by rw [HX.out]; rfl
          rw [hv] at REF
          clear HX HZ hv HO
          have e9 : (X.toList == X.toList) = true := by simp
          go_enter Try.func8, Try.ntmps8
          go_wp2_with (first
            | (go_at_call 17; refine (CU.out _).mono ?_; rintro e w1 ⟨rfl, rfl⟩)
            | (go_at_call 45; refine (FO.out _).mono ?_; rintro e w2 ⟨rfl, hk2⟩; obtain ⟨d0, d1, d2, d3⟩ := HCE.out _ hk2)
            | (go_at_call 21; refine (RQ.out w4).mono ?_; rintro e w5 ⟨rfl, rfl⟩)
            | (go_at_call 21; refine (RW.out _).mono ?_; rintro e w3 ⟨rfl, rfl⟩)
            | (go_at_call 43; refine (FI.out _).mono ?_; rintro e w4 ⟨rfl, hk4⟩; obtain ⟨f0, f1, f2, f3⟩ := HCE.out _ (hk2.trans hk4))
            | (go_at_call 46; refine (REF.out _).mono ?_; rintro e w6 ⟨rfl, hk6⟩)
            | (go_at_call 22; refine (LV.out _).mono ?_; rintro e w9 ⟨rfl, hk9⟩))
          go_ret
          exact ⟨rfl, (((hk.trans hk2).trans hk4).trans hk6).trans hk9⟩
  · have hc : fndC n q a b l = wordC 20 4 l := by unfold fndC; rw [if_neg hw]
    obtain ⟨z, HZ0⟩ : ∃ z, Hid (z = wordC 20 4 l) := ⟨_, rfl⟩
    obtain rfl : X = ⟨#[]⟩ := by rw [HX.out, hc]; unfold restX; rw [if_neg hw]; rfl
    obtain rfl : Z = z := by rw [HZ.out, hc, HZ0.out]; unfold restZ; rw [if_neg hw]
    rw [← HZ0.out] at RW hw
    have e1 : (Z != 0) = true := by simp [hw]
    have e2 : (Z == 0) = false := by simp [hw]
    have e3 : (Z == Z) = true := by simp
    clear hc hw HX HZ HZ0
    go_enter Try.func8, Try.ntmps8
    go_wp2_with (first
      | (go_at_call 17; refine (CU.out _).mono ?_; rintro e w1 ⟨rfl, rfl⟩)
      | (go_at_call 45; refine (FO.out _).mono ?_; rintro e w2 ⟨rfl, hk2⟩; obtain ⟨d0, d1, d2, d3⟩ := HCE.out _ hk2)
      | (go_at_call 21; refine (RW.out _).mono ?_; rintro e w3 ⟨rfl, rfl⟩)
      | (go_at_call 22; refine (LV.out _).mono ?_; rintro e w9 ⟨rfl, hk9⟩))
    go_ret
    exact ⟨rfl, (hk.trans hk2).trans hk9⟩
end Go.Proofs.Ytgphaggkgcnidaa
