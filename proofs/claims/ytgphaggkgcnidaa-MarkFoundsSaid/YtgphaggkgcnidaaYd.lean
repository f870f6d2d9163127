/-
  The law MarkRestores, walked.
-/
import Derived.Test.YtgphaggkgcnidaaYc
import Derived.Test.YtgphaggkgcnidaaRf
import Derived.Test.YtgphaggkgcnidaaMj
namespace Go.Proofs.Ytgphaggkgcnidaa
open Go.RowKit Go.Deep Go.Sort

def restX (c : Int) (o : Option Wd) : ByteArray := if c = 0 then bs (o.getD []) else bs []
def restZ (c : Int) (o : Option Wd) : Int := if c = 0 then (if o.isSome then 0 else 5) else c
theorem rest_out {W : World} {c : Int} {o : Option Wd} {F : FuncId} {args : Array Value} (h : Calls Try.prog F args W (RestPost W c o)) :
    Calls Try.prog F args W fun e w' => e = .returned (.tuple #[.string (restX c o), .int .i64 (restZ c o)]) ∧ Kept W w' := by
  refine h.mono ?_
  rintro e w' ⟨hk, h1, h2⟩
  unfold restX restZ
  by_cases hc : c = 0
  · rw [if_pos hc, if_pos hc]
    refine ⟨?_, hk⟩
    rw [h2 hc]
    cases o <;> rfl
  · rw [if_neg hc, if_neg hc]
    exact ⟨h1 hc, hk⟩
set_option maxRecDepth 100000 in
set_option maxHeartbeats 4000000 in
theorem lawRestores_any (w : World) (n a : Int) (x : ByteArray) (hx : x.size ≤ 9223372036854775807) :
    Calls Try.prog 5 #[.int .i64 n, .int .i64 a, .string x] w (LivesPost w) := by
  have CU := Lib.hid (cut_any w x 22 hx)
  obtain ⟨l, HL⟩ : ∃ l, Hid (l = wd (cutS 22 x)) := ⟨_, rfl⟩
  have hl : l.length ≤ 22 := by rw [HL.out, wd_len]; exact cutS_size 22 x
  obtain ⟨s, HSS⟩ : ∃ s : ByteArray, Hid (s = bs l) := ⟨bs l, Lib.hid rfl⟩
  have hcs : cutS 22 x = s := by rw [HSS.out, HL.out, bs_wd]
  rw [hcs] at CU
  have RE := Lib.hid (fun W => rest_out (Restore_any W n a l (by omega)))
  have RM := Lib.hid (fun W => rest_out (Remove_any W n a l (by omega)))
  have RW0 := Lib.hid (fun W => rWord_any W l 2 20 (by omega))
  have RW1 := Lib.hid (fun W => rWord_any W l 2 21 (by omega))
  have RR := Lib.hid (fun (W : World) (n a : Nat) (h1 : 1 ≤ n) (h2 : n ≤ 1000) => rRestore_any W n a l h1 h2 (by omega))
  have RV := Lib.hid (fun (W : World) (n a : Nat) (h1 : 1 ≤ n) (h2 : n ≤ 1000) => rRemove_any W n a l h1 h2 (by omega))
  have LV := Lib.hid lives_any
  rw [← HSS.out] at RE RM RW0 RW1 RR RV
  unfold LivesPost at LV ⊢
  obtain ⟨X0, HX0⟩ : ∃ X, Hid (X = restX (restC 20 n a l) ((srt (inss l 2)).find? (hasL n.toNat a.toNat))) := ⟨_, rfl⟩
  obtain ⟨Z0, HZ0⟩ : ∃ X, Hid (X = restZ (restC 20 n a l) ((srt (inss l 2)).find? (hasL n.toNat a.toNat))) := ⟨_, rfl⟩
  obtain ⟨X1, HX1⟩ : ∃ X, Hid (X = restX (restC 21 n a l) ((srt (dels l)).find? (hasL n.toNat a.toNat))) := ⟨_, rfl⟩
  obtain ⟨Z1, HZ1⟩ : ∃ X, Hid (X = restZ (restC 21 n a l) ((srt (dels l)).find? (hasL n.toNat a.toNat))) := ⟨_, rfl⟩
  rw [← HX0.out, ← HZ0.out] at RE
  rw [← HX1.out, ← HZ1.out] at RM
  clear hcs HL
  go_enter Try.func5, Try.ntmps5
  go_wp2_with (first
    | (go_at_call 17; refine CU.out.mono ?_; rintro e w1 ⟨rfl, rfl⟩)
    | (go_at_call 33; refine (RE.out _).mono ?_; rintro e w2 ⟨rfl, hk2⟩)
    | (go_at_call 34; refine (RM.out _).mono ?_; rintro e w3 ⟨rfl, hk3⟩))
  go_loopg [12] 2 (fun g s12 wr => ∃ k : Nat, k ≤ 2 ∧ g = 2 - k ∧ s12 = .int .i64 k ∧ Kept w wr)
  case atStart => exact ⟨0, Nat.zero_le _, rfl, rfl, hk2.trans hk3⟩
  case round =>
    clear hk2 hk3 RE RM CU
    obtain ⟨k, hk, rfl, rfl, hK⟩ := hrel
    rcases (by omega : k = 0 ∨ k = 1 ∨ k = 2) with rfl | rfl | rfl
    · clear RW1
      by_cases hw : wordC 20 2 l = 0
      · rw [hw] at RW0
        cases hu : upL n a 20
        · have hc : restC 20 n a l = 1 := by unfold restC; rw [if_pos hw, hu]; rfl
          obtain rfl : X0 = ⟨#[]⟩ := by rw [HX0.out, hc]; rfl
          obtain rfl : Z0 = 1 := by rw [HZ0.out, hc]; rfl
          have hbad : ¬ (1 ≤ n ∧ n ≤ 20 ∧ 0 ≤ a ∧ a ≤ n) := fun h => by
            unfold upL within at hu
            rw [decide_eq_true (show _ ∧ _ from ⟨h.1, h.2.1⟩), decide_eq_true (show _ ∧ _ from ⟨h.2.2.1, h.2.2.2⟩)] at hu
            cases hu
          clear hu hc hw HX0 HX1 HZ0 HZ1
          by_cases q1 : n < 1 <;> by_cases q2 : 20 < n <;> by_cases q3 : a < 0 <;> by_cases q4 : n < a
          all_goals first
            | (exfalso; omega)
            | (clear hbad
               go_wp2_with (first
                 | (go_at_call 21; refine (RW0.out _).mono ?_; rintro e w5 ⟨rfl, rfl⟩))
               go_roundg (2 - (0 + 1))
               case measure => omega
               case rel => exact ⟨0 + 1, by omega, rfl, by first | rfl | go_num, hK⟩)
        · have hc : restC 20 n a l = 0 := by unfold restC; rw [if_pos hw, hu]; rfl
          obtain ⟨nn, aa, rfl, rfl, b1, b2, b3⟩ := upL_nat hu
          have REF := Lib.hid (fun W => RR.out W nn aa b1 (by omega))
          rw [hc] at HX0 HZ0
          rw [show ((nn : Int)).toNat = nn from rfl, show ((aa : Int)).toNat = aa from rfl] at HX0 HZ0
          have q1 : ¬ (nn : Int) < 1 := by omega
          have q2 : ¬ (20 : Int) < nn := by omega
          have q3 : ¬ (aa : Int) < 0 := by omega
          have q4 : ¬ (nn : Int) < aa := by omega
          obtain ⟨o, HO⟩ : ∃ o, Hid (o = (srt (inss l 2)).find? (hasL nn aa)) := ⟨_, rfl⟩
          rw [← HO.out] at REF HX0 HZ0
          clear hu hc hw HX1 HZ1
          cases o with
          | none =>
            obtain rfl : X0 = ⟨#[]⟩ := by rw [HX0.out]; rfl
            obtain rfl : Z0 = 5 := by rw [HZ0.out]; rfl
            have hv : refV none = .tuple #[.string ⟨#[]⟩, .bool false] := rfl
            rw [hv] at REF
            clear HX0 HZ0 hv HO
            go_wp2_with (first
              | (go_at_call 21; refine (RW0.out _).mono ?_; rintro e w5 ⟨rfl, rfl⟩)
              | (go_at_call 35; refine (REF.out _).mono ?_; rintro e w6 ⟨rfl, hk6⟩))
            go_roundg (2 - (0 + 1))
            case measure => omega
            case rel => exact ⟨0 + 1, by omega, rfl, by first | rfl | go_num, hK.trans hk6⟩
          | some y =>
            obtain rfl : Z0 = 0 := by rw [HZ0.out]; rfl
            have hv : refV (some y) = .tuple #[.string X0, .bool true] := by rw [HX0.out]; rfl
            rw [hv] at REF
            clear HX0 HZ0 hv HO
            have e9 : (X0.toList != X0.toList) = false := by simp
            go_wp2_with (first
              | (go_at_call 21; refine (RW0.out _).mono ?_; rintro e w5 ⟨rfl, rfl⟩)
              | (go_at_call 35; refine (REF.out _).mono ?_; rintro e w6 ⟨rfl, hk6⟩))
            go_roundg (2 - (0 + 1))
            case measure => omega
            case rel => exact ⟨0 + 1, by omega, rfl, by first | rfl | go_num, hK.trans hk6⟩
      · obtain ⟨z, HZ⟩ : ∃ z, Hid (z = wordC 20 2 l) := ⟨_, rfl⟩
        have hc : restC 20 n a l = wordC 20 2 l := by unfold restC; rw [if_neg hw]
        obtain rfl : X0 = ⟨#[]⟩ := by rw [HX0.out, hc]; unfold restX; rw [if_neg hw]; rfl
        obtain rfl : Z0 = z := by rw [HZ0.out, hc, HZ.out]; unfold restZ; rw [if_neg hw]
        rw [← HZ.out] at RW0 hw
        have e1 : (Z0 != 0) = true := by simp [hw]
        have e2 : (Z0 == 0) = false := by simp [hw]
        have e3 : (Z0 != Z0) = false := by simp
        clear hc hw HX0 HX1 HZ0 HZ1
        go_wp2_with (first
          | (go_at_call 21; refine (RW0.out _).mono ?_; rintro e w5 ⟨rfl, rfl⟩))
        go_roundg (2 - (0 + 1))
        case measure => omega
        case rel => exact ⟨0 + 1, by omega, rfl, by first | rfl | go_num, hK⟩
    · clear RW0
      by_cases hw : wordC 21 2 l = 0
      · rw [hw] at RW1
        cases hu : upL n a 20
        · have hc : restC 21 n a l = 1 := by unfold restC; rw [if_pos hw, hu]; rfl
          obtain rfl : X1 = ⟨#[]⟩ := by rw [HX1.out, hc]; rfl
          obtain rfl : Z1 = 1 := by rw [HZ1.out, hc]; rfl
          have hbad : ¬ (1 ≤ n ∧ n ≤ 20 ∧ 0 ≤ a ∧ a ≤ n) := fun h => by
            unfold upL within at hu
            rw [decide_eq_true (show _ ∧ _ from ⟨h.1, h.2.1⟩), decide_eq_true (show _ ∧ _ from ⟨h.2.2.1, h.2.2.2⟩)] at hu
            cases hu
          clear hu hc hw HX0 HX1 HZ0 HZ1
          by_cases q1 : n < 1 <;> by_cases q2 : 20 < n <;> by_cases q3 : a < 0 <;> by_cases q4 : n < a
          all_goals first
            | (exfalso; omega)
            | (clear hbad
               go_wp2_with (first
                 | (go_at_call 21; refine (RW1.out _).mono ?_; rintro e w5 ⟨rfl, rfl⟩))
               go_roundg (2 - (1 + 1))
               case measure => omega
               case rel => exact ⟨1 + 1, by omega, rfl, by first | rfl | go_num, hK⟩)
        · have hc : restC 21 n a l = 0 := by unfold restC; rw [if_pos hw, hu]; rfl
          obtain ⟨nn, aa, rfl, rfl, b1, b2, b3⟩ := upL_nat hu
          have REF := Lib.hid (fun W => RV.out W nn aa b1 (by omega))
          rw [hc] at HX1 HZ1
          rw [show ((nn : Int)).toNat = nn from rfl, show ((aa : Int)).toNat = aa from rfl] at HX1 HZ1
          have q1 : ¬ (nn : Int) < 1 := by omega
          have q2 : ¬ (20 : Int) < nn := by omega
          have q3 : ¬ (aa : Int) < 0 := by omega
          have q4 : ¬ (nn : Int) < aa := by omega
          obtain ⟨o, HO⟩ : ∃ o, Hid (o = (srt (dels l)).find? (hasL nn aa)) := ⟨_, rfl⟩
          rw [← HO.out] at REF HX1 HZ1
          clear hu hc hw HX0 HZ0
          cases o with
          | none =>
            obtain rfl : X1 = ⟨#[]⟩ := by rw [HX1.out]; rfl
            obtain rfl : Z1 = 5 := by rw [HZ1.out]; rfl
            have hv : refV none = .tuple #[.string ⟨#[]⟩, .bool false] := rfl
            rw [hv] at REF
            clear HX1 HZ1 hv HO
            go_wp2_with (first
              | (go_at_call 21; refine (RW1.out _).mono ?_; rintro e w5 ⟨rfl, rfl⟩)
              | (go_at_call 36; refine (REF.out _).mono ?_; rintro e w6 ⟨rfl, hk6⟩))
            go_roundg (2 - (1 + 1))
            case measure => omega
            case rel => exact ⟨1 + 1, by omega, rfl, by first | rfl | go_num, hK.trans hk6⟩
          | some y =>
            obtain rfl : Z1 = 0 := by rw [HZ1.out]; rfl
            have hv : refV (some y) = .tuple #[.string X1, .bool true] := by rw [HX1.out]; rfl
            rw [hv] at REF
            clear HX1 HZ1 hv HO
            have e9 : (X1.toList != X1.toList) = false := by simp
            go_wp2_with (first
              | (go_at_call 21; refine (RW1.out _).mono ?_; rintro e w5 ⟨rfl, rfl⟩)
              | (go_at_call 36; refine (REF.out _).mono ?_; rintro e w6 ⟨rfl, hk6⟩))
            go_roundg (2 - (1 + 1))
            case measure => omega
            case rel => exact ⟨1 + 1, by omega, rfl, by first | rfl | go_num, hK.trans hk6⟩
      · obtain ⟨z, HZ⟩ : ∃ z, Hid (z = wordC 21 2 l) := ⟨_, rfl⟩
        have hc : restC 21 n a l = wordC 21 2 l := by unfold restC; rw [if_neg hw]
        obtain rfl : X1 = ⟨#[]⟩ := by rw [HX1.out, hc]; unfold restX; rw [if_neg hw]; rfl
        obtain rfl : Z1 = z := by rw [HZ1.out, hc, HZ.out]; unfold restZ; rw [if_neg hw]
        rw [← HZ.out] at RW1 hw
        have e1 : (Z1 != 0) = true := by simp [hw]
        have e2 : (Z1 == 0) = false := by simp [hw]
        have e3 : (Z1 != Z1) = false := by simp
        clear hc hw HX0 HX1 HZ0 HZ1
        go_wp2_with (first
          | (go_at_call 21; refine (RW1.out _).mono ?_; rintro e w5 ⟨rfl, rfl⟩))
        go_roundg (2 - (1 + 1))
        case measure => omega
        case rel => exact ⟨1 + 1, by omega, rfl, by first | rfl | go_num, hK⟩
    · go_wp2_with (first
        | (go_at_call 22; refine (LV.out _).mono ?_; rintro e w9 ⟨rfl, hk9⟩))
      go_ret
      exact ⟨rfl, hK.trans hk9⟩
end Go.Proofs.Ytgphaggkgcnidaa
