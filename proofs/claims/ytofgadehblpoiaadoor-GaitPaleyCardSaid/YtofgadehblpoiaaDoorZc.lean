/-
  Package gait: isPowerOf2, isPowerOf4, Transform, Bent.
-/
import Derived.Test.YtofgadehblpoiaaDoorZb
import Derived.Test.YtofgadehblpoiaaDoorGi
import Derived.Lib.LaidTab
namespace Go.Proofs.YtofgadehblpoiaaDoor
open Go.RowKit Go.Deep Go.Shelf

set_option maxRecDepth 100000 in
theorem isPow2_any (w : World) (n : Nat) (hn : n < 128) : Calls Tryd.prog 69 #[.int .i64 n] w fun e w' => e = .returned (.bool (decide (0 ≤ pwr n))) ∧ Quiet w w' := by
  have P := Lib.hid (fun W => ones_any W n hn)
  have ht := (pwr_tab ⟨n, hn⟩).1
  simp only at ht
  have hw := wrapU n (by omega)
  obtain ⟨d, HD⟩ : ∃ d, Hid (d = decide (0 ≤ pwr n)) := ⟨_, rfl⟩
  rw [← HD.out] at ht ⊢
  generalize pop n = p at *
  clear HD
  go_enter Tryd.func69, Tryd.ntmps69
  go_wp2_with (first | (go_at_call 95; refine (P.out _).mono ?_; rintro e w1 ⟨rfl, hq⟩))
  go_ret
  exact ⟨ret_bool (by rw [← ht]; exact nat_beq p 1), hq⟩
/-- the cells of the table of trailing zeros that powers of 2 lead to -/
def TzAt (w : World) : Prop := ∀ k, k ≤ 6 → w.cell? ⟨1, 2 ^ k * 285870213051353865 % 18446744073709551616 / 288230376151711744, none⟩ = some (.int .u8 (k : Nat))
theorem TzAt.kept {w w' : World} (h : TzAt w) (k : Kept w w') : TzAt w' := fun j hj => k.cellSome (h j hj)
theorem tz_tab : ∀ k : Fin 7, (2 ^ k.val &&& (18446744073709551616 - 2 ^ k.val)) = 2 ^ k.val ∧ 2 ^ k.val * 285870213051353865 % 18446744073709551616 / 288230376151711744 < 64 := by decide +kernel
set_option maxRecDepth 100000 in
theorem tz64_any (w : World) (k : Nat) (hk : k ≤ 6) (hT : TzAt w) : Calls Tryd.prog 124 #[.int .u64 ((2 ^ k : Nat) : Int)] w fun e w' => e = .returned (.int .i64 k) ∧ Quiet w w' := by
  have ht := tz_tab ⟨k, by omega⟩
  simp only at ht
  have hc := hT k hk
  have hN : 2 ^ k ≤ 64 := by have := Nat.pow_le_pow_right (n := 2) (by omega) hk; omega
  have hN1 : 1 ≤ 2 ^ k := Nat.one_le_two_pow
  generalize 2 ^ k = x at *
  obtain ⟨y, HY⟩ : ∃ y, Hid (y = x * 285870213051353865 % 18446744073709551616) := ⟨_, rfl⟩
  rw [← HY.out] at hc ht
  obtain ⟨idx, HI⟩ : ∃ idx, Hid (idx = y / 288230376151711744) := ⟨_, rfl⟩
  rw [← HI.out] at hc ht
  have e1 : IntKind.u64.wrap (-(x : Int)) = ((18446744073709551616 - x : Nat) : Int) := by rw [IntKind.wrap_u64]; omega
  have e2 : bits .and .u64 (x : Int) (IntKind.u64.wrap (-(x : Int))) = (x : Int) := by rw [e1, andU _ _ (by omega) (by omega), ht.1]
  have e3 : IntKind.u64.wrap ((x : Int) * 285870213051353865) = (y : Int) := by rw [IntKind.wrap_u64, HY.out]; omega
  have e4 : (y : Int) / 288230376151711744 = (idx : Int) := by rw [HI.out]; omega
  have s0 : ((x : Int) == 0) = false := by simp; omega
  have s1 : (idx : Int) < 64 := by omega
  have s2 : (0 : Int) ≤ (idx : Int) := by omega
  have w1 : IntKind.i64.wrap (k : Int) = (k : Int) := IntWalk.i64_in _ (by omega)
  clear e1 HY HI ht hT
  go_enter Tryd.func124, Tryd.ntmps124
  go_wp2_with fail
  go_ret
  exact ⟨rfl, Quiet.refl w⟩
set_option maxRecDepth 100000 in
theorem tz_any (w : World) (k : Nat) (hk : k ≤ 6) (hT : TzAt w) : Calls Tryd.prog 96 #[.int .u64 ((2 ^ k : Nat) : Int)] w fun e w' => e = .returned (.int .i64 k) ∧ Quiet w w' := by
  have P := Lib.hid (fun W (h : TzAt W) => tz64_any W k hk h)
  have hN : 2 ^ k ≤ 64 := by have := Nat.pow_le_pow_right (n := 2) (by omega) hk; omega
  generalize 2 ^ k = x at *
  have hw := wrapU x (by omega)
  go_enter Tryd.func96, Tryd.ntmps96
  go_wp2_with (first | (go_at_call 124; refine (P.out _ hT).mono ?_; rintro e w1 ⟨rfl, hq⟩))
  go_ret
  exact ⟨rfl, hq⟩
def is4 (n : Nat) : Bool := decide (0 ≤ pwr n) && decide (pwr n % 2 = 0)
set_option maxRecDepth 100000 in
theorem isPow4_any (w : World) (n : Nat) (hn : n < 128) (hT : TzAt w) : Calls Tryd.prog 71 #[.int .i64 n] w fun e w' => e = .returned (.bool (is4 n)) ∧ Quiet w w' := by
  have P2 := Lib.hid (fun W => isPow2_any W n hn)
  by_cases h : 0 ≤ pwr n
  · have hd : Hid (is4 n = decide (pwr n % 2 = 0)) := by show _ = _; unfold is4; rw [decide_eq_true h, Bool.true_and]
    rw [decide_eq_true h] at P2
    have ht := (pwr_tab ⟨n, hn⟩).2 h
    simp only at ht
    obtain ⟨k, hk⟩ : ∃ k : Nat, pwr n = k := ⟨(pwr n).toNat, by omega⟩
    rw [hk, Int.toNat_natCast] at ht
    rw [hk] at hd
    have P := Lib.hid (fun W (h : TzAt W) => tz_any W k (by omega) h)
    rw [← ht.1] at P
    have hw := wrapU n (by omega)
    obtain ⟨q, HQ⟩ : ∃ q : Nat, Hid (q = k % 2) := ⟨_, rfl⟩
    have et : Int.tmod (k : Int) 2 = (q : Int) := by rw [HQ.out]; exact (Int.ofNat_tmod k 2).symm
    have hq2 : Hid (((q : Int) == 0) = decide ((k : Int) % 2 = 0)) := by
      show _ = _
      rw [HQ.out]
      by_cases e : k % 2 = 0
      · rw [decide_eq_true (by omega)]; simp [e]
      · rw [decide_eq_false (by omega), beq_eq_false_iff_ne]; omega
    clear HQ ht hk h
    go_enter Tryd.func71, Tryd.ntmps71
    go_wp2_with (first | (go_at_call 69; refine (P2.out _).mono ?_; rintro e w1 ⟨rfl, hq1⟩) | (go_at_call 96; refine (P.out _ (hT.kept hq1.kept)).mono ?_; rintro e w2 ⟨rfl, hq⟩))
    go_ret
    obtain ⟨m1, rfl⟩ := hq1
    obtain ⟨m2, rfl⟩ := hq
    exact ⟨ret_bool (by rw [hd.out]; exact hq2.out), ⟨m1 + m2, by simp⟩⟩
  · have hd : is4 n = false := by unfold is4; rw [decide_eq_false h, Bool.false_and]
    rw [decide_eq_false h] at P2
    rw [hd]
    go_enter Tryd.func71, Tryd.ntmps71
    go_wp2_with (first | (go_at_call 69; refine (P2.out _).mono ?_; rintro e w1 ⟨rfl, hq1⟩))
    go_ret
    exact ⟨rfl, hq1⟩
/-- what is wrong with a list to transform -/
def trC (n : Nat) (l : Nat → Int) : Int := if 64 < n then 3 else if pwr n < 0 then 2 else if allN (fun j => decide (-1000000 ≤ l j ∧ l j ≤ 1000000)) n then 0 else 1
def TrAns (w : World) (n : Nat) (l : Nat → Int) (e : Ending) (w' : World) : Prop :=
  Kept w w' ∧ if trC n l = 0 then ∃ r, e = .returned (.tuple #[.slice (some ⟨r, 0, none⟩) n n, .int .i64 0]) ∧ w.heap.size ≤ r ∧ w'.rowIs r 3 n (fun i => .int .i64 (trN n l i)) else e = .returned (.tuple #[.slice none 0 0, .int .i64 (trC n l)])
theorem TrAns.good {w w' : World} {n : Nat} {l : Nat → Int} {e : Ending} (hk : Kept w w') (h : trC n l = 0) (he : ∃ r, e = .returned (.tuple #[.slice (some ⟨r, 0, none⟩) n n, .int .i64 0]) ∧ w.heap.size ≤ r ∧ w'.rowIs r 3 n (fun i => .int .i64 (trN n l i))) : TrAns w n l e w' := ⟨hk, by rw [if_pos h]; exact he⟩
theorem TrAns.bad {w w' : World} {n : Nat} {l : Nat → Int} {e : Ending} {c : Int} (hk : Kept w w') (h : trC n l = c) (h0 : c ≠ 0) (he : e = .returned (.tuple #[.slice none 0 0, .int .i64 c])) : TrAns w n l e w' := ⟨hk, by rw [if_neg (by rw [h]; exact h0), h]; exact he⟩
set_option maxRecDepth 100000 in
set_option maxHeartbeats 4000000 in
theorem Transform_any (w : World) (v : Value) (n : Nat) (l : Nat → Int) (hV : IntsAt w v n l) (hn : n ≤ 1000000) : Calls Tryd.prog 36 #[v] w (TrAns w n l) := by
  have hV0 := hV
  obtain ⟨a, b, o, cap, rfl, ha, hc⟩ := hV
  have HC := Lib.hid hc
  have HV := Lib.hid hV0
  clear hc hV0
  by_cases h64 : 64 < n
  · have hcd : Hid (trC n l = 3) := by show _ = _; unfold trC; rw [if_pos h64]
    have s1 : (64 : Int) < (n : Int) := by omega
    go_enter Tryd.func36, Tryd.ntmps36
    go_wp2_with fail
    go_ret2
    exact TrAns.bad (Kept.refl _) hcd.out (by decide) rfl
  · have s1 : ¬ (64 : Int) < (n : Int) := by omega
    have P2 := Lib.hid (fun W => isPow2_any W n (by omega))
    by_cases hp : 0 ≤ pwr n
    · rw [decide_eq_true hp] at P2
      have hcd : Hid (trC n l = if allN (fun j => decide (-1000000 ≤ l j ∧ l j ≤ 1000000)) n then 0 else 1) := by show _ = _; unfold trC; rw [if_neg h64, if_neg (by omega)]
      have IW := Lib.hid (fun W j => isWithin_any W (l j) (-1000000) 1000000)
      clear hp
      go_enter Tryd.func36, Tryd.ntmps36
      go_wp2_with (first | (go_at_call 69; refine (P2.out _).mono ?_; rintro e w1 ⟨rfl, hq1⟩))
      go_loopg [15] n (fun g s15 wr => ∃ j : Nat, j ≤ n ∧ g = n - j ∧ s15 = .int .i64 j ∧ w1 = wr ∧ Hid (allN (fun j => decide (-1000000 ≤ l j ∧ l j ≤ 1000000)) j = true))
      case atStart => exact ⟨0, Nat.zero_le _, rfl, rfl, rfl, rfl⟩
      case round =>
        obtain ⟨j, hj, rfl, rfl, rfl, hA⟩ := hrel
        by_cases hlt : j < n
        · have s2 : (j : Int) < (n : Int) := by omega
          have s3 : (0 : Int) ≤ (j : Int) := by omega
          obtain rfl := ha (by omega)
          have t0 := hq1.kept.cellSome (HC.out j hlt)
          (try dsimp only at t0)
          have IWj := Lib.hid (fun W => IW.out W j)
          by_cases hin : -1000000 ≤ l j ∧ l j ≤ 1000000
          · have hA2 : Hid (allN (fun j => decide (-1000000 ≤ l j ∧ l j ≤ 1000000)) (j + 1) = true) := allN_step hA.out (decide_eq_true hin)
            rw [decide_eq_true hin] at IWj
            clear hA hin
            go_wp2_with (first | (go_at_call 63; refine (IWj.out _).mono ?_; rintro e w2 ⟨rfl, rfl⟩))
            go_roundg (n - (j + 1))
            case measure => omega
            case rel => exact ⟨j + 1, by omega, rfl, by first | rfl | go_num, rfl, hA2.out⟩
          · have hbad : Hid (trC n l = 1) := by show _ = _; rw [hcd.out, allN_false hlt (decide_eq_false hin)]; rfl
            rw [decide_eq_false hin] at IWj
            clear hA hin
            go_wp2_with (first | (go_at_call 63; refine (IWj.out _).mono ?_; rintro e w2 ⟨rfl, rfl⟩))
            go_ret2
            exact TrAns.bad hq1.kept hbad.out (by decide) rfl
        · obtain rfl : j = n := by omega
          have hgood : Hid (trC j l = 0) := by show _ = _; rw [hcd.out, hA.out]; rfl
          have TR := Lib.hid (fun W (h : IntsAt W (.slice a j cap) j l) => transform_any W _ j l h (by omega) (fun i hi => by simpa using allN_true.1 hA.out i hi))
          unfold RowPost at TR
          clear hA
          go_wp2_with (first | (go_at_call 70; refine (TR.out _ (HV.out.kept hq1.kept)).mono ?_; rintro e w2 ⟨r, rfl, hr1, hk2, hr2⟩))
          go_ret2
          exact TrAns.good (hq1.kept.trans hk2) hgood.out ⟨r, rfl, by have := hq1.kept.size; omega, hr2⟩
    · rw [decide_eq_false hp] at P2
      have hcd : Hid (trC n l = 2) := by show _ = _; unfold trC; rw [if_neg h64, if_pos (by omega)]
      clear hp
      go_enter Tryd.func36, Tryd.ntmps36
      go_wp2_with (first | (go_at_call 69; refine (P2.out _).mono ?_; rintro e w1 ⟨rfl, hq1⟩))
      go_ret2
      exact TrAns.bad hq1.kept hcd.out (by decide) rfl
/-- what is wrong with a row that might be bent -/
def bentC (s : ByteArray) : Int := if rowC s = 0 then (if is4 s.size then 0 else 1) else rowC s
def BentAns (w : World) (s : ByteArray) (e : Ending) (w' : World) : Prop :=
  Kept w w' ∧ e = .returned (.tuple #[.bool (decide (bentC s = 0) && bentB s.size (trN s.size (sgnS s))), .int .i64 (bentC s)])
set_option maxRecDepth 100000 in
set_option maxHeartbeats 4000000 in
theorem Bent_any (w : World) (s : ByteArray) (hs : s.size ≤ 9223372036854775807) (hT : TzAt w) : Calls Tryd.prog 39 #[.string s] w (BentAns w s) := by
  have RE := Lib.hid (rows_one w s hs)
  unfold BentAns
  by_cases h0 : rowC s = 0
  · have hg := rowC_good h0
    have P4 := Lib.hid (fun W (h : TzAt W) => isPow4_any W s.size (by omega) h)
    have IB := Lib.hid (fun W => isBent_any W s s.size rfl hg.2.1)
    have hcd : bentC s = if is4 s.size then 0 else 1 := by unfold bentC; rw [if_pos h0]
    rw [h0] at RE
    cases h4 : is4 s.size with
    | true =>
      rw [h4] at P4 hcd
      simp only [if_true] at hcd
      rw [hcd]
      generalize bentB s.size (trN s.size (sgnS s)) = bb at *
      clear hcd h0 h4
      go_enter Tryd.func39, Tryd.ntmps39
      go_wp2_with (first | (go_at_call 52; refine RE.out.mono ?_; rintro e w1 ⟨rfl, hk1⟩) | (go_at_call 71; refine (P4.out _ (hT.kept hk1)).mono ?_; rintro e w2 ⟨rfl, hq2⟩) | (go_at_call 72; refine (IB.out _).mono ?_; rintro e w3 ⟨rfl, hk3⟩))
      go_ret2
      exact ⟨(hk1.trans hq2.kept).trans hk3, rfl⟩
    | false =>
      rw [h4] at P4 hcd
      simp only [Bool.false_eq_true, if_false] at hcd
      rw [hcd]
      clear hcd h0 h4 IB
      go_enter Tryd.func39, Tryd.ntmps39
      go_wp2_with (first | (go_at_call 52; refine RE.out.mono ?_; rintro e w1 ⟨rfl, hk1⟩) | (go_at_call 71; refine (P4.out _ (hT.kept hk1)).mono ?_; rintro e w2 ⟨rfl, hq2⟩))
      go_ret2
      exact ⟨hk1.trans hq2.kept, rfl⟩
  · have hcd : bentC s = rowC s := by unfold bentC; rw [if_neg h0]
    have e1 : (rowC s != 0) = true := by simpa using h0
    rw [hcd, decide_eq_false h0]
    obtain ⟨c, HC⟩ : ∃ c, Hid (c = rowC s) := ⟨_, rfl⟩
    rw [← HC.out] at RE e1 ⊢
    clear h0 hcd
    go_enter Tryd.func39, Tryd.ntmps39
    go_wp2_with (first | (go_at_call 52; refine RE.out.mono ?_; rintro e w1 ⟨rfl, hk1⟩))
    go_ret2
    exact ⟨hk1, rfl⟩
end Go.Proofs.YtofgadehblpoiaaDoor
