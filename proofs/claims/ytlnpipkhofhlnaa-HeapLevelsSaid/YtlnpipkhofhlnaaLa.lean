/-
  The law's why: the code of a bad yard or of bad heaps.
-/
import Derived.Test.YtlnpipkhofhlnaaZ
namespace Go.Proofs.Ytlnpipkhofhlnaa
open Go.RowKit Go.Deep

/-- the code that the law names -/
def whyC (n : Int) (A B : Nat → Int) (m : Nat) (least : Int) (q : Nat) (len : Nat → Nat) (f : Nat → Nat → Int) : Int :=
  if goodB n A B m then (if allN (fun i => holdsB n.toNat least (len i) (f i)) q then 0 else 2) else 1
theorem heaps_holds {n : Nat} {least : Int} {l : Nat} {f : Nat → Int} (hn : 1 ≤ n) : (allN (fun i => decide (least ≤ f i) && decide (f i ≤ 1000)) l && decide ((l : Int) = (n : Int) - 1)) = holdsB n least l f := by
  unfold holdsB
  rw [Bool.and_comm]
  have e : decide ((l : Int) = (n : Int) - 1) = decide (l = n - 1) := by rw [Bool.eq_iff_iff]; simp; omega
  rw [e]
set_option maxRecDepth 100000 in
set_option maxHeartbeats 1000000 in
theorem why_any (w : World) (n : Int) (ev lv : Value) (A B : Nat → Int) (m : Nat) (least : Int) (q : Nat) (len : Nat → Nat) (f : Nat → Nat → Int) (hE : PairsAt w ev m A B) (hL : ListsAt w lv q len f) (hm : m ≤ 1000000) (hq : q ≤ 1000) (hlen : ∀ i, i < q → len i ≤ 1000000) :
    Calls Try.prog 17 #[.int .i64 n, ev, .int .i64 least, lv] w fun e w' => e = .returned (.int .i64 (whyC n A B m least q len f)) ∧ Kept w w' := by
  have hL' := hL
  obtain ⟨vs, ⟨a, b, o, cap, rfl, ha, hc⟩, hv⟩ := hL
  go_enter Try.func17, Try.ntmps17
  go_wp2_with fail
  refine (isyard_any _ n ev A B m hE hm).mono ?_
  rintro e w1 ⟨rfl, hk1⟩
  cases hg : goodB n A B m
  · have hcode : Hid (whyC n A B m least q len f = 1) := by show _ = _; unfold whyC; rw [hg]; rfl
    clear hg
    go_wp2_with fail
    go_ret
    exact ⟨by rw [hcode.out]; rfl, hk1⟩
  · obtain ⟨ok, _⟩ := good_ok hg
    have HG := Lib.hid hg
    have hn2 := ok.n2
    have hn8 := ok.n8
    obtain ⟨N, rfl⟩ : ∃ N : Nat, n = (N : Int) := ⟨n.toNat, by omega⟩
    simp only [Int.toNat_natCast] at hn2 hn8
    clear hg ok
    go_wp2_with fail
    go_loopg [9] q (fun g i wr => ∃ k : Nat, k ≤ q ∧ g = q - k ∧ i = .int .i64 k ∧ Hid (allN (fun i => holdsB N least (len i) (f i)) k = true) ∧ Kept w wr)
    case atStart => exact ⟨0, Nat.zero_le _, rfl, rfl, rfl, hk1⟩
    case round =>
      obtain ⟨k, hk, rfl, rfl, hH, hK⟩ := hrel
      by_cases hlt : k < q
      · obtain rfl := ha (by omega)
        have h1 := hK.cellSome (hc k hlt)
        have h2 := (hv k hlt).kept hK
        cases eh : holdsB N least (len k) (f k)
        · have hcode : Hid (whyC (N : Int) A B m least q len f = 2) := by
            show _ = _; unfold whyC; rw [HG.out, Int.toNat_natCast, allN_false (p := fun i => holdsB N least (len i) (f i)) hlt eh]; rfl
          go_wp2_with (go_at_call 29; refine (heaps_any _ _ N least (len k) (f k) h2 (hlen k hlt) (by omega) (by omega)).mono ?_; rintro e w2 ⟨rfl, hq2⟩; (rw [heaps_holds (by omega), eh]); (have hk2 := hq2.kept))
          go_ret
          exact ⟨by rw [hcode.out]; rfl, hK.trans hk2⟩
        · go_wp2_with (go_at_call 29; refine (heaps_any _ _ N least (len k) (f k) h2 (hlen k hlt) (by omega) (by omega)).mono ?_; rintro e w2 ⟨rfl, hq2⟩; (rw [heaps_holds (by omega), eh]); (have hk2 := hq2.kept))
          go_roundg (q - (k+1))
          case measure => omega
          case rel => exact ⟨k + 1, by omega, rfl, by go_num, allN_step hH.out eh, hK.trans hk2⟩
      · obtain rfl : k = q := by omega
        have hcode : Hid (whyC (N : Int) A B m least k len f = 0) := by
          show _ = _; unfold whyC; rw [HG.out, Int.toNat_natCast, hH.out]; rfl
        go_wp2_with fail
        go_ret
        exact ⟨by rw [hcode.out]; rfl, hK⟩
end Go.Proofs.Ytlnpipkhofhlnaa
