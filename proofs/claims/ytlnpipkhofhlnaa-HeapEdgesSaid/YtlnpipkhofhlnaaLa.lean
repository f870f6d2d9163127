/-
  The law's why: the code of a bad yard or of bad heaps.
  And: The law's cut: a copy of the first numbers.
-/
import Derived.Test.YtlnpipkhofhlnaaY
import Derived.Laws.AppendOwnNone
namespace Go.Proofs.Ytlnpipkhofhlnaa
open Go.RowKit Go.Deep

/-- the code that the law names -/
def whyC (n : Int) (A B : Nat → Int) (m : Nat) (least : Int) (q : Nat) (len : Nat → Nat) (f : Nat → Nat → Int) : Int :=
  if goodB n A B m then (if allN (fun i => holdsB n.toNat least (len i) (f i)) q then 0 else 2) else 1
theorem heaps_holds {n : Nat} {least : Int} {l : Nat} {f : Nat → Int} (hn : 1 ≤ n) : (allN (fun i => decide (least ≤ f i) && decide (f i ≤ 1000)) l && decide ((l : Int) = (n : Int) - 1)) = holdsB n least l f := by
  unfold holdsB
  rw [Bool.and_comm]
  have e : decide ((l : Int) = (n : Int) - 1) = decide (l = n - 1) := by rw [Bool.eq_iff_iff]; simp; omega
  rw [e]
set_option maxRecDepth 100000 in
set_option maxHeartbeats 1000000 in
theorem why_any (w : World) (n : Int) (ev lv : Value) (A B : Nat → Int) (m : Nat) (least : Int) (q : Nat) (len : Nat → Nat) (f : Nat → Nat → Int) (hE : PairsAt w ev m A B) (hL : ListsAt w lv q len f) (hm : m ≤ 1000000) (hq : q ≤ 1000) (hlen : ∀ i, i < q → len i ≤ 1000000) :
    Calls Try.prog 17 #[.int .i64 n, ev, .int .i64 least, lv] w fun e w' => e = .returned (.int .i64 (whyC n A B m least q len f)) ∧ Kept w w' := by
  have hL' := hL
  obtain ⟨vs, ⟨a, b, o, cap, rfl, ha, hc⟩, hv⟩ := hL
  go_enter Try.func17, Try.ntmps17
  go_wp2_with fail
  refine (isyard_any _ n ev A B m hE hm).mono ?_
  rintro e w1 ⟨rfl, hk1⟩
  cases hg : goodB n A B m
  · have hcode : Hid (whyC n A B m least q len f = 1) := by show _ = _; unfold whyC; rw [hg]; rfl
    clear hg
    go_wp2_with fail
    go_ret
    exact ⟨by rw [hcode.out]; rfl, hk1⟩
  · obtain ⟨ok, _⟩ := good_ok hg
    have HG := Lib.hid hg
    have hn2 := ok.n2
    have hn8 := ok.n8
    obtain ⟨N, rfl⟩ : ∃ N : Nat, n = (N : Int) := ⟨n.toNat, by omega⟩
    simp only [Int.toNat_natCast] at hn2 hn8
    clear hg ok
    go_wp2_with fail
    go_loopg [9] q (fun g i wr => ∃ k : Nat, k ≤ q ∧ g = q - k ∧ i = .int .i64 k ∧ Hid (allN (fun i => holdsB N least (len i) (f i)) k = true) ∧ Kept w wr)
    case atStart => exact ⟨0, Nat.zero_le _, rfl, rfl, rfl, hk1⟩
    case round =>
      obtain ⟨k, hk, rfl, rfl, hH, hK⟩ := hrel
      by_cases hlt : k < q
      · obtain rfl := ha (by omega)
        have h1 := hK.cellSome (hc k hlt)
        have h2 := (hv k hlt).kept hK
        cases eh : holdsB N least (len k) (f k)
        · have hcode : Hid (whyC (N : Int) A B m least q len f = 2) := by
            show _ = _; unfold whyC; rw [HG.out, Int.toNat_natCast, allN_false (p := fun i => holdsB N least (len i) (f i)) hlt eh]; rfl
          go_wp2_with (go_at_call 29; refine (heaps_any _ _ N least (len k) (f k) h2 (hlen k hlt) (by omega) (by omega)).mono ?_; rintro e w2 ⟨rfl, hq2⟩; (rw [heaps_holds (by omega), eh]); (have hk2 := hq2.kept))
          go_ret
          exact ⟨by rw [hcode.out]; rfl, hK.trans hk2⟩
        · go_wp2_with (go_at_call 29; refine (heaps_any _ _ N least (len k) (f k) h2 (hlen k hlt) (by omega) (by omega)).mono ?_; rintro e w2 ⟨rfl, hq2⟩; (rw [heaps_holds (by omega), eh]); (have hk2 := hq2.kept))
          go_roundg (q - (k+1))
          case measure => omega
          case rel => exact ⟨k + 1, by omega, rfl, by go_num, allN_step hH.out eh, hK.trans hk2⟩
      · obtain rfl : k = q := by omega
        have hcode : Hid (whyC (N : Int) A B m least k len f = 0) := by
          show _ = _; unfold whyC; rw [HG.out, Int.toNat_natCast, hH.out]; rfl
        go_wp2_with fail
        go_ret
        exact ⟨by rw [hcode.out]; rfl, hK⟩
end Go.Proofs.Ytlnpipkhofhlnaa
namespace Go.Proofs.Ytlnpipkhofhlnaa
open Go.RowKit Go.Deep

def ints (f : Nat → Int) (k : Nat) : List Value := (List.range k).map (fun i => .int .i64 (f i))
theorem ints_get {f : Nat → Int} {k j : Nat} {u : Value} (h : (ints f k)[j]? = some u) : j < k ∧ u = .int .i64 (f j) := by
  unfold ints at h
  rw [List.getElem?_map] at h
  by_cases e : j < k
  · rw [List.getElem?_range e] at h
    exact ⟨e, by simpa using h.symm⟩
  · rw [List.getElem?_eq_none (by simpa using e)] at h; cases h
theorem ints_at {w : World} {base : Nat} {v : Value} {k : Nat} {f : Nat → Int} (h : w.ownsRow base 3 1 v k (ints f k)) : IntsAt w v k f := by
  have h1 := CellsAt.of_own h
  obtain ⟨a, b, o, cap, e, h2, h3⟩ := h1
  refine ⟨a, b, o, cap, e, h2, fun i hi => ?_⟩
  rw [h3 i hi]
  simp [ints, hi]

def CutPost (w : World) (k : Nat) (f : Nat → Int) (e : Ending) (w' : World) : Prop := ∃ v, e = .returned v ∧ w'.ownsRow w.heap.size 3 1 v k (ints f k) ∧ Kept w w'
set_option maxRecDepth 100000 in
set_option maxHeartbeats 1000000 in
theorem cut_any (w : World) (a : Option Addr) (l cap : Nat) (f : Nat → Int) (hL : IntsAt w (.slice a l cap) l f) (hl : l ≤ cap) (hnil : a = none → cap = 0) (hcap : cap ≤ maxLen) :
    Calls Try.prog 10 #[.slice a l cap] w (CutPost w (min l 9) f) := by
  obtain ⟨a', b, o, cap', e, ha, hc⟩ := hL
  cases e
  unfold maxLen at hcap
  obtain ⟨i0, hi, hz0, hz1, hz2⟩ := info_parts Try.info3
  have hO := own_zero w w.heap.size (Nat.le_refl _)
  have hk0 : Kept w (w.alloc (.cells #[] 3)) := (Kept.refl w).alloc _
  have hs0 : w.heap.size ≤ (w.alloc (.cells #[] 3)).heap.size := by simp
  cases a with
  | none =>
    obtain rfl := hnil rfl
    obtain rfl : l = 0 := by omega
    go_enter Try.func10, Try.ntmps10
    go_wp2_with (first | (at_builtin; refine wpList_append_own_none rfl _ _ 25 rfl w.heap.size 3 i0 1 Try.underlying25 hi _ _ _ rfl hO rfl ?_))
    go_ret
    exact ⟨_, rfl, hO, hk0⟩
  | some ad =>
    have hcell : ∀ i, i < l → w.cell? (ad.add i) = some (.int .i64 (f i)) := fun i hi => by
      have e := ha (by omega)
      cases e
      rw [add_at]
      exact hc i hi
    by_cases h9 : 9 < l
    · have m9 : min l 9 = 9 := by omega
      rw [m9]
      have g1 : (9 : Int) < l := by omega
      have g2 : (9 : Int) ≤ cap := by omega
      go_enter Try.func10, Try.ntmps10
      go_wp2_with (first | (at_builtin; refine wpList_append_own _ rfl _ _ 25 rfl w.heap.size 3 i0 (.int .i64 0) 1 8 Try.underlying25 hi hz0 hz1 hz2 rfl (by decide) _ _ _ rfl hO ad 9 cap (ints f 9) rfl (by simp [ints]) ?c1 ?c2 ?c3 ?c4 ?c5 ?_))
      case c1 => exact fun j u h => by obtain ⟨h1, rfl⟩ := ints_get h; exact hk0.cellSome (hcell j (by omega))
      case c2 => intro u hu; simp [ints] at hu; obtain ⟨i, _, rfl⟩ := hu; rfl
      case c3 => decide
      intro v' w2 hO2 hgr _
      go_wp2_with fail
      go_ret
      exact ⟨_, rfl, by simpa using hO2, hk0.step (grew_X hgr hO) (fun i hi => by omega)⟩
    · have m9 : min l 9 = l := by omega
      rw [m9]
      have g1 : ¬ (9 : Int) < l := by omega
      have g2 : (l : Int) ≤ cap := by omega
      go_enter Try.func10, Try.ntmps10
      go_wp2_with (first | (at_builtin; refine wpList_append_own _ rfl _ _ 25 rfl w.heap.size 3 i0 (.int .i64 0) 1 8 Try.underlying25 hi hz0 hz1 hz2 rfl (by decide) _ _ _ rfl hO ad l cap (ints f l) rfl (by simp [ints]) ?d1 ?d2 ?d3 ?d4 ?d5 ?_))
      case d1 => exact fun j u h => by obtain ⟨h1, rfl⟩ := ints_get h; exact hk0.cellSome (hcell j (by omega))
      case d2 => intro u hu; simp [ints] at hu; obtain ⟨i, _, rfl⟩ := hu; rfl
      case d3 => unfold maxLen; omega
      case d4 => omega
      intro v' w2 hO2 hgr _
      go_wp2_with fail
      go_ret
      exact ⟨_, rfl, by simpa using hO2, hk0.step (grew_X hgr hO) (fun i hi => by omega)⟩
end Go.Proofs.Ytlnpipkhofhlnaa
