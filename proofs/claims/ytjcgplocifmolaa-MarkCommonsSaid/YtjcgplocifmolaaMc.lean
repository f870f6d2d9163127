/-
  Package mark: codes as structs: letterCode, digitCode, isUpTo; has of a code of letters; oneOf.
-/
import Derived.Test.YtjcgplocifmolaaMb
import Derived.Deep.RegionHeld3
import Derived.Deep.RegionWith
namespace Go.Proofs.Ytjcgplocifmolaa
open Go.RowKit Go.Deep

theorem newbox5 (w : World) (n : Nat) (hn : w.heap.size = n) (a b c d e : Value) (t : TypeId) : ∃ W, w.alloc (.cells #[a, b, c, d, e] t) = W ∧ W.heap.size = n + 1 ∧ W.cell? ⟨n, 0, none⟩ = some a ∧ W.cell? ⟨n, 1, none⟩ = some b ∧ W.cell? ⟨n, 2, none⟩ = some c ∧ W.cell? ⟨n, 3, none⟩ = some d ∧ W.cell? ⟨n, 4, none⟩ = some e ∧ Kept w W := by
  subst hn
  refine ⟨_, rfl, by simp, ?_, ?_, ?_, ?_, ?_, (Kept.refl w).alloc _⟩ <;> (unfold World.cell?; dsimp only; rw [blk_alloc_new]; rfl)
/-- a code -/
abbrev cdV (k n q a b : Int) : Value := .agg #[.int .i64 k, .int .i64 n, .int .i64 q, .int .i64 a, .int .i64 b]
def within (x a b : Int) : Bool := decide (a ≤ x ∧ x ≤ b)
theorem within_any (w : World) (x a b : Int) : Calls Try.prog 62 #[.int .i64 x, .int .i64 a, .int .i64 b] w fun e w' => e = .returned (.bool (within x a b)) ∧ w = w' := isWithin_any w x a b
def CodePost (w : World) (k n q a b : Int) (e : Ending) (w' : World) : Prop := e = .returned (cdV k n q a b) ∧ Kept w w'
set_option maxRecDepth 100000 in
theorem letterCode_any (w : World) (n a : Int) : Calls Try.prog 37 #[.int .i64 n, .int .i64 a] w (CodePost w 0 n 2 a 0) := by
  go_enter Try.func37, Try.ntmps37
  go_wp2
  obtain ⟨W, hW, hs, c0, c1, c2, c3, c4, hk⟩ := newbox5 w w.heap.size rfl (.int .i64 0) (.int .i64 n) (.int .i64 2) (.int .i64 a) (.int .i64 0) 77
  rw [hW]
  exact bodyPost_ret (v := cdV 0 n 2 a 0) (by simp [results, Try.results37, go_sem, c0, c1, c2, c3, c4]) rfl ⟨rfl, hk⟩
set_option maxRecDepth 100000 in
theorem digitCode_any (w : World) (n q a b : Int) : Calls Try.prog 51 #[.int .i64 n, .int .i64 q, .int .i64 a, .int .i64 b] w (CodePost w 1 n q a b) := by
  go_enter Try.func51, Try.ntmps51
  go_wp2
  obtain ⟨W, hW, hs, c0, c1, c2, c3, c4, hk⟩ := newbox5 w w.heap.size rfl (.int .i64 1) (.int .i64 n) (.int .i64 q) (.int .i64 a) (.int .i64 b) 77
  rw [hW]
  exact bodyPost_ret (v := cdV 1 n q a b) (by simp [results, Try.results51, go_sem, c0, c1, c2, c3, c4]) rfl ⟨rfl, hk⟩
/-- there is such a code of letters -/
def upL (n a most : Int) : Bool := within n 1 most && within a 0 n
def upD (n q a b most : Int) : Bool := within n 2 most && within q 2 4 && within a 0 (n - 1) && within b 0 (q - 1)
set_option maxRecDepth 100000 in
set_option maxHeartbeats 1000000 in
theorem isUpTo_let (w : World) (n a most : Int) : Calls Try.prog 38 #[cdV 0 n 2 a 0, .int .i64 most] w fun e w' => e = .returned (.bool (upL n a most)) ∧ Kept w w' := by
  obtain ⟨W, hW, hs, c0, c1, c2, c3, c4, hk⟩ := newbox5 w w.heap.size rfl (.int .i64 0) (.int .i64 n) (.int .i64 2) (.int .i64 a) (.int .i64 0) 77
  unfold upL
  clear hs
  cases e1 : within n 1 most
  all_goals
    go_enter Try.func38, Try.ntmps38
    go_wp2_with (go_at_call 62; refine (within_any _ _ _ _).mono ?_; rintro e w1 ⟨rfl, rfl⟩)
    go_ret
    exact ⟨rfl, hk⟩
set_option maxRecDepth 100000 in
set_option maxHeartbeats 4000000 in
theorem isUpTo_dig (w : World) (n q a b most : Int) (hn : -9223372036854775808 ≤ n) (hn2 : n ≤ 9223372036854775807) (hq : -9223372036854775808 ≤ q) (hq2 : q ≤ 9223372036854775807) : Calls Try.prog 38 #[cdV 1 n q a b, .int .i64 most] w fun e w' => e = .returned (.bool (upD n q a b most)) ∧ Kept w w' := by
  obtain ⟨W, hW, hs, c0, c1, c2, c3, c4, hk⟩ := newbox5 w w.heap.size rfl (.int .i64 1) (.int .i64 n) (.int .i64 q) (.int .i64 a) (.int .i64 b) 77
  unfold upD
  clear hs
  cases e1 : within n 2 most
  · go_enter Try.func38, Try.ntmps38
    go_wp2_with (go_at_call 62; refine (within_any _ _ _ _).mono ?_; rintro e w1 ⟨rfl, rfl⟩)
    go_ret
    exact ⟨rfl, hk⟩
  · have h1 : 2 ≤ n := by have := of_decide_eq_true e1; omega
    have w1 : IntKind.i64.wrap (n - 1) = n - 1 := IntWalk.i64_in _ (by omega)
    have w2 : wrap64 (n - 1) = n - 1 := IntWalk.wrap64_in _ (by omega)
    cases e2 : within q 2 4
    · go_enter Try.func38, Try.ntmps38
      go_wp2_with (go_at_call 62; refine (within_any _ _ _ _).mono ?_; rintro e w1 ⟨rfl, rfl⟩)
      go_ret
      exact ⟨rfl, hk⟩
    · have h2 : 2 ≤ q ∧ q ≤ 4 := of_decide_eq_true e2
      have h3 := h2.1
      have h4 := h2.2
      clear h2
      cases e3 : within a 0 (n - 1)
      · go_enter Try.func38, Try.ntmps38
        go_wp2_with (go_at_call 62; refine (within_any _ _ _ _).mono ?_; rintro e w1 ⟨rfl, rfl⟩)
        go_ret
        exact ⟨rfl, hk⟩
      · go_enter Try.func38, Try.ntmps38
        go_wp2_with (go_at_call 62; refine (within_any _ _ _ _).mono ?_; rintro e w1 ⟨rfl, rfl⟩)
        go_ret
        exact ⟨rfl, hk⟩
/-- a word of a code of letters -/
def hasL (n a : Nat) (l : Wd) : Bool := decide (l.length = n) && decide (wsum 0 l % (n + 1) = a)
set_option maxRecDepth 100000 in
set_option maxHeartbeats 4000000 in
theorem has_let (w : World) (n a : Nat) (l : Wd) (hn : n ≤ 1000) (hl : l.length ≤ 1000) : Calls Try.prog 67 #[cdV 0 n 2 a 0, .string (bs l)] w fun e w' => e = .returned (.bool (hasL n a l)) ∧ Kept w w' := by
  obtain ⟨W, hW, hs, c0, c1, c2, c3, c4, hk⟩ := newbox5 w w.heap.size rfl (.int .i64 0) (.int .i64 n) (.int .i64 2) (.int .i64 a) (.int .i64 0) 77
  have SU := Lib.hid (fun W => sumOf_any W l hl)
  obtain ⟨s, HSS⟩ : ∃ s : ByteArray, Hid (s = bs l) := ⟨bs l, Lib.hid rfl⟩
  have hsz : s.size = l.length := by rw [HSS.out]; exact bs_size l
  rw [← HSS.out] at SU ⊢
  clear hs c2 c4
  unfold hasL
  by_cases h1 : l.length = n
  · have e1 : ((s.size : Int) != (n : Int)) = false := by rw [hsz, h1]; simp
    have e0 : decide (l.length = n) = true := decide_eq_true h1
    rw [e0, Bool.true_and]
    have hwr : IntKind.i64.wrap ((n : Int) + 1) = (n : Int) + 1 := IntWalk.i64_in _ (by omega)
    have hne : ¬ ((n : Int) + 1 = 0) := by omega
    obtain ⟨x, HX⟩ : ∃ x, Hid (x = wsum 0 l) := ⟨_, rfl⟩
    rw [← HX.out] at SU ⊢
    have em : Int.tmod (x : Int) ((n : Int) + 1) = ((x % (n + 1) : Nat) : Int) := (Int.ofNat_tmod x (n + 1)).symm
    have hxb : x % (n + 1) ≤ 1000 := by have := Nat.mod_lt x (show 0 < n + 1 by omega); omega
    obtain ⟨r, HR⟩ : ∃ r, Hid (r = x % (n + 1)) := ⟨_, rfl⟩
    rw [← HR.out] at em hxb ⊢
    have er : ((r : Int) == (a : Int)) = decide (r = a) := by
      by_cases h : r = a
      · subst h; simp
      · rw [decide_eq_false h]; simp only [beq_eq_false_iff_ne]; omega
    cases e2 : decide (r = a)
    all_goals
      rw [e2] at er
      clear h1 e0 e2
      go_enter Try.func67, Try.ntmps67
      go_wp2_with fail
      go_quiet ((go_at_call 61; exact quietS (SU.out _)))
      go_wp2_with fail
      go_ret
      exact ⟨rfl, hk.drewN _⟩
  · have e1 : ((s.size : Int) != (n : Int)) = true := by rw [hsz]; simp; omega
    have e0 : decide (l.length = n) = false := decide_eq_false h1
    rw [e0, Bool.false_and]
    clear h1 e0
    go_enter Try.func67, Try.ntmps67
    go_wp2_with fail
    go_ret
    exact ⟨rfl, hk⟩
/-- what oneOf answers -/
def foundV (o : Option Wd) : Value := match o with | some l => .tuple #[.string (bs l), .int .i64 0] | none => .tuple #[.string (bs []), .int .i64 5]
def FoundPost (w : World) (o : Option Wd) (e : Ending) (w' : World) : Prop := e = .returned (foundV o) ∧ Kept w w'
theorem find_no {p : Wd → Bool} {L : List Wd} {i : Nat} (h : i < L.length) (h0 : (L.take i).find? p = none) (hp : p L[i] = false) : (L.take (i + 1)).find? p = none := by
  rw [List.take_succ_eq_append_getElem h, List.find?_append, h0]; simp [hp]
theorem find_yes {p : Wd → Bool} {L : List Wd} {i : Nat} (h : i < L.length) (h0 : (L.take i).find? p = none) (hp : p L[i] = true) : L.find? p = some L[i] := by
  have e : L.take (i + 1) ++ L.drop (i + 1) = L := List.take_append_drop _ _
  have h2 : (L.take (i + 1) ++ L.drop (i + 1)).find? p = some L[i] := by
    rw [List.find?_append, List.take_succ_eq_append_getElem h, List.find?_append, h0]; simp [hp]
  rwa [e] at h2
set_option maxRecDepth 100000 in
set_option maxHeartbeats 4000000 in
theorem oneOf_any (w : World) (k n q a b : Int) (v : Value) (L : List Wd) (p : Wd → Bool) (hV : WdsAt w v L) (hL : L.length ≤ 1000000)
    (hp : ∀ (W : World) (l : Wd), l ∈ L → Calls Try.prog 67 #[cdV k n q a b, .string (bs l)] W fun e w' => e = .returned (.bool (p l)) ∧ Kept W w') :
    Calls Try.prog 53 #[cdV k n q a b, v] w (FoundPost w (L.find? p)) := by
  obtain ⟨W, hW, hs, c0, c1, c2, c3, c4, hk⟩ := newbox5 w w.heap.size rfl (.int .i64 k) (.int .i64 n) (.int .i64 q) (.int .i64 a) (.int .i64 b) 77
  obtain ⟨m, HM⟩ : ∃ m, Hid (m = L.length) := ⟨_, rfl⟩
  obtain ⟨ad, bb, o, cap, rfl, ha, hc⟩ := hV.kept hk
  have HC := Lib.hid hc
  have HP := Lib.hid hp
  rw [← HM.out] at ha hL HC ⊢
  clear hs hc hp hV
  obtain ⟨z, HZ⟩ : ∃ z, Hid (z = w.heap.size) := ⟨_, rfl⟩
  rw [← HZ.out] at c0 c1 c2 c3 c4
  go_enter Try.func53, Try.ntmps53
  go_wp2_with fail
  rw [← HZ.out]
  clear hW
  go_loopg [10] m (fun g s10 wr => ∃ i : Nat, i ≤ m ∧ g = m - i ∧ s10 = .int .i64 i ∧ Kept W wr ∧ Hid ((L.take i).find? p = none))
  case atStart => exact ⟨0, Nat.zero_le _, rfl, rfl, Kept.refl _, rfl⟩
  case round =>
    obtain ⟨i, hi, rfl, rfl, hK, HX⟩ := hrel
    obtain ⟨d0, d1, d2, d3, d4, hK⟩ := keep5 c0 c1 c2 c3 c4 hK
    clear c0 c1 c2 c3 c4
    by_cases hlt : i < m
    · have t0 := hK.cellSome (HC.out i hlt)
      obtain rfl := ha (by omega)
      have s2 : (i : Int) < (m : Int) := by omega
      have s3 : (0 : Int) ≤ (i : Int) := by omega
      have hiL : i < L.length := by rw [← HM.out]; exact hlt
      rw [getD_at hiL] at t0
      have hasE := Lib.hid (fun W => HP.out W L[i] (List.getElem_mem hiL))
      obtain ⟨X, HXX⟩ : ∃ X : ByteArray, Hid (X = bs L[i]) := ⟨bs L[i], Lib.hid rfl⟩
      rw [← HXX.out] at t0 hasE
      cases hpi : p L[i]
      · have hnx := Lib.hid (find_no hiL HX.out hpi)
        rw [hpi] at hasE
        clear hpi
        go_wp2_with (go_at_call 67; refine (hasE.out _).mono ?_; rintro e w1 ⟨rfl, hk1⟩)
        go_roundg (m - (i + 1))
        case measure => omega
        case rel => exact ⟨i + 1, by omega, rfl, by first | rfl | go_num, hK.trans hk1, hnx.out⟩
      · have hnx := Lib.hid (find_yes hiL HX.out hpi)
        rw [hpi] at hasE
        clear hpi
        go_wp2_with (go_at_call 67; refine (hasE.out _).mono ?_; rintro e w1 ⟨rfl, hk1⟩)
        go_ret2
        exact ⟨by rw [hnx.out, HXX.out]; rfl, (hk.trans hK).trans hk1⟩
    · obtain rfl : i = m := by omega
      have s2 : ¬ (i : Int) < (i : Int) := by omega
      have hend : Hid (L.find? p = none) := by
        show _ = _
        have := HX.out
        rwa [HM.out, List.take_length] at this
      go_wp2_with fail
      go_ret2
      exact ⟨by rw [hend.out]; rfl, hk.trans hK⟩
end Go.Proofs.Ytjcgplocifmolaa
