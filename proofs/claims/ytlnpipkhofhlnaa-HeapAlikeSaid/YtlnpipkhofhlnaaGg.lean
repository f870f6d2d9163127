/-
  Burn, Again and Sum of valid yards and heaps.
  And: Settle of valid yards and heaps.
-/
import Derived.Test.YtlnpipkhofhlnaaGa
import Derived.Test.YtlnpipkhofhlnaaW
import Derived.Test.YtlnpipkhofhlnaaSm
import Derived.Test.YtlnpipkhofhlnaaJ
namespace Go.Proofs.Ytlnpipkhofhlnaa
open Go.RowKit Go.Deep

theorem holds_mk {N : Nat} {f : Nat → Int} {least : Int} (h : ∀ i, i < N → least ≤ f i ∧ f i ≤ 1000) : holdsB (N + 1) least N f = true := by
  unfold holdsB
  simp only [Nat.add_sub_cancel, decide_true, Bool.true_and]
  exact allN_true.2 (fun i hi => by have := h i hi; simp; omega)
theorem Burn_good (w : World) (N : Nat) (ev hv : Value) (A B : Nat → Int) (m : Nat) (hp : Nat → Int) (hE : PairsAt w ev m A B) (hH : IntsAt w hv N hp) (hm : m ≤ 1000000) (hg : goodB ((N + 1 : Nat) : Int) A B m = true) (hr : ∀ i, i < N → 0 ≤ hp i ∧ hp i ≤ 1000)
    (hs : stableB (degN A B m) hp (N + 1) = true) (hn : NF N (btwN A B m) hp) :
    Calls Try.prog 26 #[.int .i64 ((N : Int) + 1), ev, hv] w fun e w' => ∃ ov, e = .returned (.tuple #[ov, .bool true, .int .i64 0]) ∧ Kept w w' := by
  refine (Burn_any w ((N + 1 : Nat) : Int) ev hv A B m N hp hE hH hm).mono ?_
  rintro e w' ⟨hk, _, _, h3⟩
  have hc : code1 ((N + 1 : Nat) : Int) A B m 0 N hp = 0 := code1_ok hg (holds_mk hr)
  obtain ⟨ov, he, _⟩ := h3 hc hs
  rw [show (((N + 1 : Nat) : Int)).toNat = N + 1 from rfl] at he
  rw [show decide ((burnAll (N + 1) (btwN A B m) hp).length = N + 1 - 1) = true from nf_all hn] at he
  exact ⟨ov, he, hk⟩
def AgainGood (w : World) (N : Nat) (A B : Nat → Int) (m : Nat) (hp : Nat → Int) (e : Ending) (w' : World) : Prop :=
  ∃ (r : Nat) (f x : Nat → Int), e = .returned (.tuple #[.slice (some ⟨r, 1, none⟩) N N, .int .i64 0]) ∧ Kept w w' ∧ IntsAt w' (.slice (some ⟨r, 1, none⟩) N N) N (fun i => f (i + 1)) ∧ w.heap.size ≤ r ∧
    Odo (N + 1) (degN A B m) (btwN A B m) (highF (N + 1) (degN A B m) (btwN A B m) hp) x ∧ (∀ u, u < N + 1 → f u = fin (N + 1) (degN A B m) (btwN A B m) (highF (N + 1) (degN A B m) (btwN A B m) hp) x u) ∧
    NF N (btwN A B m) (fun i => f (i + 1)) ∧ stableB (degN A B m) (fun i => f (i + 1)) (N + 1) = true ∧ ∀ i, i < N → 0 ≤ f (i + 1) ∧ f (i + 1) ≤ 19
theorem stable_bd {N : Nat} {D : Nat → Nat} {J : Nat → Nat → Nat} {f : Nat → Int} (ok : YardOk (N + 1) D J) (hs : stableB D f (N + 1) = true) : ∀ i, i < N → f i < D (i + 1) ∧ f i ≤ 19 := fun i hi => by
  have h1 := allN_true.1 hs i (by omega)
  have h2 := ok.D20 (i + 1) (by omega)
  simp only [decide_eq_true_eq] at h1
  omega
theorem Again_good (w : World) (N : Nat) (ev hv : Value) (A B : Nat → Int) (m : Nat) (hp : Nat → Int) (hE : PairsAt w ev m A B) (hH : IntsAt w hv N hp) (hm : m ≤ 1000000) (hg : goodB ((N + 1 : Nat) : Int) A B m = true) (hr : ∀ i, i < N → -1000 ≤ hp i ∧ hp i ≤ 1000) :
    Calls Try.prog 14 #[.int .i64 ((N : Int) + 1), ev, hv] w (AgainGood w N A B m hp) := by
  refine (Again_any w ((N + 1 : Nat) : Int) ev hv A B m N hp hE hH hm).mono ?_
  rintro e w' ⟨hk, h2, _⟩
  have hc : code1 ((N + 1 : Nat) : Int) A B m (-1000) N hp = 0 := code1_ok hg (holds_mk hr)
  obtain ⟨r, f, x, he, hz, hR, ho, hf, hf0⟩ := h2 hc
  obtain ⟨ok, ⟨p, hpk⟩, _, _⟩ := good_ok hg
  have hcb := good_count hg
  rw [show (((N + 1 : Nat) : Int)).toNat = N + 1 from rfl] at *
  have hs := odo_stable ho hf
  exact ⟨r, f, x, he, hk, CellsAt.of_row1 hR, hz, ho, hf, rec_nf ok hpk hcb.1 (fun i hi => (hr i hi).1) ho hf, hs, fun i hi => ⟨hf0 (i + 1) (by omega), (stable_bd ok hs i hi).2⟩⟩
def SumGood (w : World) (N : Nat) (A B : Nat → Int) (m : Nat) (fa fb : Nat → Int) (e : Ending) (w' : World) : Prop :=
  ∃ (r : Nat) (f x : Nat → Int), e = .returned (.tuple #[.slice (some ⟨r, 1, none⟩) N N, .int .i64 0]) ∧ Kept w w' ∧ IntsAt w' (.slice (some ⟨r, 1, none⟩) N N) N (fun i => f (i + 1)) ∧
    Odo (N + 1) (degN A B m) (btwN A B m) (atV (fun i => fa i + fb i)) x ∧ (∀ u, u < N + 1 → f u = fin (N + 1) (degN A B m) (btwN A B m) (atV (fun i => fa i + fb i)) x u)
theorem Sum_good (w : World) (N : Nat) (ev av bv : Value) (A B : Nat → Int) (m : Nat) (fa fb : Nat → Int) (hE : PairsAt w ev m A B) (hA : IntsAt w av N fa) (hB : IntsAt w bv N fb) (hm : m ≤ 1000000) (hg : goodB ((N + 1 : Nat) : Int) A B m = true)
    (ha : ∀ i, i < N → 0 ≤ fa i ∧ fa i ≤ 1000) (hb : ∀ i, i < N → 0 ≤ fb i ∧ fb i ≤ 1000) :
    Calls Try.prog 28 #[.int .i64 ((N : Int) + 1), ev, av, bv] w (SumGood w N A B m fa fb) := by
  refine (Sum_any w ((N + 1 : Nat) : Int) ev av bv A B m N N fa fb hE hA hB hm).mono ?_
  rintro e w' ⟨hk, h2, _⟩
  have hc : code2 ((N + 1 : Nat) : Int) A B m N N fa fb = 0 := code2_ok hg (by rw [Bool.and_eq_true]; exact ⟨holds_mk ha, holds_mk hb⟩)
  obtain ⟨r, f, x, he, hR, ho, hf⟩ := h2 hc
  exact ⟨r, f, x, he, hk, CellsAt.of_row1 hR, ho, hf⟩
/-- stabilizing leaves no bars below 0 where there were none -/
theorem odo_pos {n : Nat} {D : Nat → Nat} {J : Nat → Nat → Nat} {h x : Nat → Int} (ok : YardOk n D J) (hp : ∀ v, v < n → 0 ≤ h v) (ho : Odo n D J h x) {v : Nat} (h1 : 1 ≤ v) (hv : v < n) : 0 ≤ fin n D J h x v := by
  obtain ⟨⟨x0, xp, xs⟩, hle⟩ := ho
  by_cases e : x v = 0
  · unfold fin
    rw [e]
    have h2 : 0 ≤ sumZ (fun w => x w * (J w v : Int)) n := sumZ_nonneg (fun w hw => Int.mul_nonneg (xp w hw) (by omega))
    have := hp v hv
    omega
  · rcases Int.lt_or_le (fin n D J h x v) 0 with hneg | hge
    · exfalso
      have hxv := xp v hv
      have hs : Stab n D J h (addAt x v (-1)) := by
        refine ⟨?_, fun u hu => ?_, fun u h2 hu => ?_⟩
        · unfold addAt; rw [if_neg (by omega), x0]; rfl
        · have := xp u hu
          unfold addAt
          by_cases e2 : u = v
          · subst e2; rw [if_pos rfl]; omega
          · rw [if_neg e2]; omega
        · have h3 := xs u h2 hu
          rw [fin_add n D J h x hv]
          have hd1 := ok.D1 v h1 hv
          by_cases e2 : u = v
          · subst e2; rw [if_pos rfl, ok.J0 u hu]; omega
          · rw [if_neg e2]; omega
      have := hle _ hs v hv
      unfold addAt at this
      rw [if_pos rfl] at this
      omega
    · exact hge
end Go.Proofs.Ytlnpipkhofhlnaa
namespace Go.Proofs.Ytlnpipkhofhlnaa
open Go.RowKit Go.Deep

theorem Settle_good (w : World) (N : Nat) (ev hv : Value) (A B : Nat → Int) (m : Nat) (hp : Nat → Int) (hE : PairsAt w ev m A B) (hH : IntsAt w hv N hp) (hm : m ≤ 1000000) (hg : goodB ((N + 1 : Nat) : Int) A B m = true) (hr : ∀ i, i < N → 0 ≤ hp i ∧ hp i ≤ 1000) :
    Calls Try.prog 31 #[.int .i64 ((N : Int) + 1), ev, hv] w fun e w' => ∃ (r t : Nat) (f x : Nat → Int), e = .returned (.tuple #[.slice (some ⟨r, 1, none⟩) N N, .slice (some ⟨t, 0, none⟩) N N, .int .i64 0]) ∧ Kept w w' ∧ w.heap.size ≤ r ∧ w.heap.size ≤ t ∧ r ≠ t ∧
      IntsAt w' (.slice (some ⟨r, 1, none⟩) N N) N (fun i => f (i + 1)) ∧ w'.rowIs t 3 N (fun i => .int .i64 (x (i + 1))) ∧ Odo (N + 1) (degN A B m) (btwN A B m) (atV hp) x ∧ (∀ u, u < N + 1 → f u = fin (N + 1) (degN A B m) (btwN A B m) (atV hp) x u) ∧ (∀ u, u < N + 1 → 0 ≤ f u) ∧ ∀ u, u < N + 1 → x u ≤ 1700000000000000 := by
  refine (Settle_any w ((N + 1 : Nat) : Int) ev hv A B m N hp hE hH hm).mono ?_
  rintro e w' ⟨hk, h1, _⟩
  have hc : code1 ((N + 1 : Nat) : Int) A B m 0 N hp = 0 := code1_ok hg (holds_mk hr)
  obtain ⟨r, t, f, x, rfl, h2, h3, h4, h5, h6, h7, h8, h9⟩ := h1 hc
  obtain ⟨ok, ⟨p, hpk⟩, _, _⟩ := good_ok hg
  simp only [Int.toNat_natCast] at ok hpk
  obtain ⟨y, hy, hyB⟩ := hpk.stab (D := degN A B m) (h := atV hp) (K := 1000) ok (by omega) (fun v hv => by
    have := ok.n8
    unfold atV
    by_cases e : v = 0
    · rw [if_pos e]; omega
    · rw [if_neg e]; exact (hr (v - 1) (by omega)).2)
  exact ⟨r, t, f, x, rfl, hk, h2, h3, h4, CellsAt.of_row1 h5, h6, h7, h8, h9, fun u hu => Int.le_trans (h7.2 y hy u hu) (Int.le_trans (hyB u hu) (by decide))⟩
end Go.Proofs.Ytlnpipkhofhlnaa
