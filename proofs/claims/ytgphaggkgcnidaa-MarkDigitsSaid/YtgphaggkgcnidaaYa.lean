/-
  The law MarkRuns, walked.
-/
import Derived.Test.YtgphaggkgcnidaaLw
namespace Go.Proofs.Ytgphaggkgcnidaa
open Go.RowKit Go.Deep Go.Sort

theorem bin_wordC {l : Wd} (h : Bin l) (hl : l.length ≤ 20) : wordC 20 2 l = 0 := by
  unfold wordC
  rw [if_pos hl, if_pos (belB_dig.2 (bin_dig.2 h))]
theorem shC_bin {l : Wd} (h : Bin l) (hl : l.length ≤ 20) (h0 : l ≠ []) : shC l = 0 := by
  unfold shC
  rw [if_pos (bin_wordC h hl), if_neg h0]
theorem cntR_le (p : Nat → Bool) (k : Nat) : cntR p k ≤ k := by
  induction k with
  | zero => simp [cntR]
  | succ k ih => simp only [cntR]; split <;> omega
set_option maxRecDepth 100000 in
set_option maxHeartbeats 2000000 in
theorem runs_any (w : World) (v : Value) (n : Nat) (Z : Nat → Nat) (hV : BytesAt w v n Z) (hZ : ∀ i, Z i < 256) (hn : n ≤ maxLen) :
    Calls Try.prog 12 #[v] w (LivesPost w) := by
  have WO := Lib.hid (word_any w v n 2 20 Z hV hZ hn (by omega) (by omega))
  obtain ⟨k, HK⟩ : ∃ k, Hid (k = min n 20) := ⟨_, rfl⟩
  have hk : k ≤ 20 := by rw [HK.out]; omega
  rw [← HK.out] at WO
  obtain ⟨l, HL⟩ : ∃ l, Hid (l = wrd 2 Z k) := ⟨_, rfl⟩
  have hlen : l.length = k := by rw [HL.out, wrd_len]
  have HB : Hid (Bin l) := by show Bin l; rw [HL.out]; exact wrd_bin Z k
  rw [← HL.out] at WO
  obtain ⟨s, HSS⟩ : ∃ s : ByteArray, Hid (s = bs l) := ⟨bs l, Lib.hid rfl⟩
  have hsz : s.size = k := by rw [HSS.out, ← hlen]; rfl
  have HLEN := Lib.hid hlen
  have SH := Lib.hid (fun W => Shorter_any W l (by omega))
  have LO := Lib.hid (fun W => Longer_any W l (by omega))
  have LV := Lib.hid lives_any
  rw [← HSS.out] at WO SH LO
  unfold ListPost at SH LO
  unfold LivesPost at LV ⊢
  clear hlen
  go_enter Try.func12, Try.ntmps12
  go_wp2_with (first | (go_at_call 47; refine WO.out.mono ?_; rintro e w1 ⟨rfl, hq1⟩; have hk1 := hq1.kept))
  go_loopg [4, 5] k (fun g s4 s5 wr => ∃ i x : Nat, i ≤ k ∧ g = k - i ∧ s5 = .int .i64 i ∧ s4 = .int .i64 x ∧ x ≤ i ∧ Hid (x = cntR (runs l) i) ∧ Kept w wr)
  case atStart => exact ⟨0, 0, Nat.zero_le _, rfl, rfl, rfl, Nat.le_refl _, rfl, hk1⟩
  case round =>
    clear hk1 hq1
    obtain ⟨i, x, hi, rfl, rfl, rfl, hx, HX, hK⟩ := hrel
    by_cases hlt : i < k
    · have s2 : (i : Int) < (k : Int) := by omega
      have s3 : (0 : Int) ≤ (i : Int) := by omega
      have hiL : i < l.length := by rw [HLEN.out]; exact hlt
      by_cases h0 : i = 0
      · subst h0
        have hnx : Hid (x + 1 = cntR (runs l) (0 + 1)) := by show _ = _; rw [HX.out]; rfl
        clear HX
        go_wp2_with fail
        go_quiet (fail)
        go_wp2_with fail
        go_roundg (k - (0 + 1))
        case measure => omega
        case rel => exact ⟨0 + 1, x + 1, by omega, rfl, by first | rfl | go_num, by first | rfl | go_num, by omega, hnx.out, hK.drewN _⟩
      · have e0 : ((i : Int) == 0) = false := by simp only [beq_eq_false_iff_ne]; omega
        obtain ⟨j, hij⟩ : ∃ j, i = j + 1 := ⟨i - 1, by omega⟩
        have hjL : j < l.length := by omega
        have hat := chr_at (s := s) (i := i) (by rw [hsz]; exact hlt)
        have hjs : j < s.size := by rw [hsz]; omega
        have hat2 := chr_at hjs
        have hc1 : Hid (chr s i = (l[i].toNat : Int)) := by show _ = _; rw [HSS.out]; exact chr_bs hiL
        have hc2 : Hid (chr s j = (l[j].toNat : Int)) := by show _ = _; rw [HSS.out]; exact chr_bs hjL
        have hrn : runs l i = !decide (l[i] = l[j]) := by
          unfold runs
          rw [decide_eq_false h0, Bool.false_or, show i - 1 = j by omega, getq hiL, getq hjL]
          congr 1
        have hcn : cntR (runs l) (i + 1) = x + (if runs l i then 1 else 0) := by rw [HX.out]; rfl
        have ej : (i : Int) - 1 = (j : Int) := by omega
        have ew : IntKind.i64.wrap (j : Int) = (j : Int) := IntWalk.i64_in _ (by omega)
        have s5 : (0 : Int) ≤ (j : Int) := by omega
        have s6 : (j : Int) < (k : Int) := by omega
        obtain ⟨c1, HC1⟩ : ∃ c, Hid (c = chr s i) := ⟨_, rfl⟩
        obtain ⟨c2, HC2⟩ : ∃ c, Hid (c = chr s j) := ⟨_, rfl⟩
        rw [← HC1.out] at hat hc1
        rw [← HC2.out] at hat2 hc2
        by_cases h : l[i] = l[j]
        · have e1 : (c1 != c2) = false := by rw [hc1.out, hc2.out, h]; simp
          rw [hrn, decide_eq_true h] at hcn
          have hnx : Hid (x = cntR (runs l) (i + 1)) := hcn.symm
          clear h hrn hc1 hc2 HC1 HC2 HX hcn hij h0
          go_wp2_with fail
          go_quiet (fail)
          go_wp2_with fail
          go_roundg (k - (i + 1))
          case measure => omega
          case rel => exact ⟨i + 1, x, by omega, rfl, by first | rfl | go_num, by first | rfl | go_num, by omega, hnx.out, hK.drewN _⟩
        · have e1 : (c1 != c2) = true := by
            rw [hc1.out, hc2.out]; simp only [bne_iff_ne, ne_eq]; intro hh; exact h (UInt8.toNat_inj.1 (by omega))
          rw [hrn, decide_eq_false h] at hcn
          have hnx : Hid (x + 1 = cntR (runs l) (i + 1)) := hcn.symm
          clear h hrn hc1 hc2 HC1 HC2 HX hcn hij h0
          go_wp2_with fail
          go_quiet (fail)
          go_wp2_with fail
          go_roundg (k - (i + 1))
          case measure => omega
          case rel => exact ⟨i + 1, x + 1, by omega, rfl, by first | rfl | go_num, by first | rfl | go_num, by omega, hnx.out, hK.drewN _⟩
    · obtain rfl : i = k := by omega
      have s2 : ¬ (i : Int) < (i : Int) := by omega
      have hw0 : wordC 20 2 l = 0 := bin_wordC HB.out (by rw [HLEN.out]; exact hk)
      have hm2 : (srt (inss l 2)).length = i + 2 := by rw [longer_many HB.out, HLEN.out]
      have hm1 : (srt (dels l)).length = x := by rw [shorter_many, HLEN.out, HX.out]
      have LO2 : Hid (∀ W, Calls Try.prog 20 #[.string s] W fun e w' => Kept W w' ∧ ∃ a cap, e = .returned (.tuple #[.slice a (i + 2) cap, .int .i64 0])) := fun W => (LO.out W).mono fun e w' ⟨hk, _, h⟩ => by
        obtain ⟨v, rfl, hO⟩ := h hw0
        obtain ⟨a, cap, rfl⟩ := own_shape hO
        exact ⟨hk, a, cap, by rw [hm2]⟩
      have ex : (x : Int) ≤ i := by omega
      by_cases h0 : l = []
      · have hi0 : i = 0 := by rw [← HLEN.out, h0]; rfl
        have hx0 : x = 0 := by omega
        have SH2 : Hid (∀ W, Calls Try.prog 19 #[.string s] W fun e w' => Kept W w' ∧ e = .returned (.tuple #[.slice none x 0, .int .i64 5])) := fun W => (SH.out W).mono fun e w' ⟨hk, h, _⟩ => by
          have hc : shC l = 5 := by unfold shC; rw [if_pos hw0, if_pos h0]
          rw [hx0]
          exact ⟨hk, by have := h (by rw [hc]; decide); rw [hc] at this; exact this⟩
        have e1 : s.toList.isEmpty = true := by rw [HSS.out, h0, ByteArray.toList_eq]; rfl
        clear SH LO hm1 hm2 h0 hx0 hi0 hw0 HX
        go_wp2_with (first
          | (go_at_call 19; refine (SH2.out _).mono ?_; rintro e w2 ⟨hk2, rfl⟩)
          | (go_at_call 20; refine (LO2.out _).mono ?_; rintro e w3 ⟨hk3, a3, cap3, rfl⟩)
          | (go_at_call 22; refine (LV.out _).mono ?_; rintro e w4 ⟨rfl, hk4⟩))
        go_ret
        exact ⟨rfl, ((hK.trans hk2).trans hk3).trans hk4⟩
      · have hc : shC l = 0 := shC_bin HB.out (by rw [HLEN.out]; exact hk) h0
        have SH2 : Hid (∀ W, Calls Try.prog 19 #[.string s] W fun e w' => Kept W w' ∧ ∃ a cap, e = .returned (.tuple #[.slice a x cap, .int .i64 0])) := fun W => (SH.out W).mono fun e w' ⟨hk, _, h⟩ => by
          obtain ⟨v, rfl, hO⟩ := h hc
          obtain ⟨a, cap, rfl⟩ := own_shape hO
          exact ⟨hk, a, cap, by rw [hm1]⟩
        have e1 : s.toList.isEmpty = false := by
          have : 0 < s.toList.length := by rw [ByteArray.toList_eq, HSS.out]; exact List.length_pos_iff.2 h0
          cases hh : s.toList with
          | nil => rw [hh] at this; simp at this
          | cons a t => rfl
        clear SH LO hm1 hm2 h0 hc hw0 HX
        go_wp2_with (first
          | (go_at_call 19; refine (SH2.out _).mono ?_; rintro e w2 ⟨hk2, a2, cap2, rfl⟩)
          | (go_at_call 20; refine (LO2.out _).mono ?_; rintro e w3 ⟨hk3, a3, cap3, rfl⟩)
          | (go_at_call 22; refine (LV.out _).mono ?_; rintro e w4 ⟨rfl, hk4⟩))
        go_ret
        exact ⟨rfl, ((hK.trans hk2).trans hk3).trans hk4⟩
end Go.Proofs.Ytgphaggkgcnidaa
