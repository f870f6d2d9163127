/-
  Low of valid yards and heaps; what it returns is superstable.
-/
import Derived.Test.YtlnpipkhofhlnaaLo
import Derived.Test.YtlnpipkhofhlnaaIl
import Derived.Test.YtlnpipkhofhlnaaGg
import Derived.Test.YtlnpipkhofhlnaaNf
namespace Go.Proofs.Ytlnpipkhofhlnaa
open Go.RowKit Go.Deep

def LowGood (w : World) (N : Nat) (A B : Nat → Int) (m : Nat) (hp : Nat → Int) (e : Ending) (w' : World) : Prop :=
  ∃ (r : Nat) (f x : Nat → Int), e = .returned (.tuple #[.slice (some ⟨r, 0, none⟩) N N, .int .i64 0]) ∧ Kept w w' ∧ IntsAt w' (.slice (some ⟨r, 0, none⟩) N N) N (fun i => topI (degN A B m) i - f (i + 1)) ∧ w.heap.size ≤ r ∧
    Odo (N + 1) (degN A B m) (btwN A B m) (lackF (N + 1) (degN A B m) (btwN A B m) hp) x ∧ (∀ u, u < N + 1 → f u = fin (N + 1) (degN A B m) (btwN A B m) (lackF (N + 1) (degN A B m) (btwN A B m) hp) x u) ∧
    NF N (btwN A B m) (fun i => f (i + 1)) ∧ stableB (degN A B m) (fun i => f (i + 1)) (N + 1) = true ∧ ∀ i, i < N → 0 ≤ f (i + 1) ∧ f (i + 1) ≤ 19
theorem Low_good (w : World) (N : Nat) (ev hv : Value) (A B : Nat → Int) (m : Nat) (hp : Nat → Int) (hE : PairsAt w ev m A B) (hH : IntsAt w hv N hp) (hm : m ≤ 1000000) (hg : goodB ((N + 1 : Nat) : Int) A B m = true) (hr : ∀ i, i < N → -1000 ≤ hp i ∧ hp i ≤ 1000) :
    Calls Try.prog 15 #[.int .i64 ((N : Int) + 1), ev, hv] w (LowGood w N A B m hp) := by
  refine (Low_any w ((N + 1 : Nat) : Int) ev hv A B m N hp hE hH hm).mono ?_
  rintro e w' ⟨hk, h2, _⟩
  have hc : code1 ((N + 1 : Nat) : Int) A B m (-1000) N hp = 0 := code1_ok hg (holds_mk hr)
  obtain ⟨r, f, x, he, hz, hR, ho, hf, hf0⟩ := h2 hc
  obtain ⟨ok, ⟨p, hpk⟩, _, _⟩ := good_ok hg
  have hcb := good_count hg
  rw [show (((N + 1 : Nat) : Int)).toNat = N + 1 from rfl] at *
  have hs := odo_stable ho hf
  refine ⟨r, f, x, he, hk, CellsAt.of_row hR, hz, ho, hf, ?_, hs, fun i hi => ⟨hf0 (i + 1) (by omega), (stable_bd ok hs i hi).2⟩⟩
  exact rec_nf (hp := fun i => topI (degN A B m) i - hp i) ok hpk hcb.1 (fun i hi => by
    have h1 := (hr i hi).2
    have h2 := ok.D1 (i + 1) (by omega) (by omega)
    show -1000 ≤ topI (degN A B m) i - hp i
    unfold topI
    omega) ho hf
theorem bit_some : ∀ N s, 0 < s → s < 2 ^ N → ∃ v, v < N ∧ bitB s v = true := by
  intro N
  induction N with
  | zero => intro s h1 h2; simp at h2; omega
  | succ N ih =>
    intro s h1 h2
    by_cases e : s < 2 ^ N
    · obtain ⟨v, hv, hb⟩ := ih s h1 e
      exact ⟨v, by omega, hb⟩
    · refine ⟨N, by omega, ?_⟩
      rw [Nat.pow_succ] at h2
      have h3 : s / 2 ^ N = 1 := by
        have h4 : 0 < 2 ^ N := Nat.pow_pos (by omega)
        exact Nat.div_eq_of_lt_le (by omega) (by omega)
      unfold bitB
      rw [h3]; rfl
theorem lossW_sum {N : Nat} {D : Nat → Nat} {J : Nat → Nat → Nat} (ok : YardOk (N + 1) D J) {s v : Nat} (hv : v < N) (hb : bitB s v = true) : sumZ (fun w => lossW D J s v w) N = inS J N (bitB s) v - (D (v + 1) : Int) := by
  have h1 := sumZ_one (f := fun w => if w = v then -(D (v + 1) : Int) else 0) hv (fun w _ hne => if_neg hne)
  simp only [if_true] at h1
  have h2 : sumZ (fun w => lossW D J s v w) N = inS J N (bitB s) v + sumZ (fun w => if w = v then -(D (v + 1) : Int) else 0) N := by
    unfold inS onS
    rw [← sumZ_add]
    refine sumZ_congr (fun w hw => ?_)
    show lossW D J s v w = (if bitB s w = true then (J (v + 1) (w + 1) : Int) else 0) + (if w = v then -(D (v + 1) : Int) else 0)
    unfold lossW
    by_cases e : w = v
    · subst e; rw [if_pos hb, if_pos rfl, if_pos rfl, if_pos hb, ok.J0 (w + 1) (by omega)]; simp
    · rw [if_neg e, if_neg e]; simp
  omega
/-- what the recurrent heaps lack to the greatest ones is superstable -/
theorem isLow_yes {A B : Nat → Int} {m N : Nat} {f : Nat → Int} (ok : YardOk (N + 1) (degN A B m) (btwN A B m)) (hn : NF N (btwN A B m) f) (hs : ∀ i, i < N → 0 ≤ f i ∧ f i < degN A B m (i + 1)) : isLowB A B m N (fun i => topI (degN A B m) i - f i) = true := by
  unfold isLowB
  rw [Bool.and_eq_true, Bool.and_eq_true]
  refine ⟨allN_true.2 (fun i hi => ?_), allN_true.2 (fun t ht => ?_), allN_true.2 (fun i hi => ?_)⟩
  · have := hs i hi
    exact decide_eq_true (by show 0 ≤ topI (degN A B m) i - f i; unfold topI; omega)
  · obtain ⟨v0, hv0, hb0⟩ := bit_some N (t + 1) (by omega) (by omega)
    obtain ⟨v, hv, hb, hle⟩ := hn (bitB (t + 1)) ⟨v0, hv0, hb0⟩
    have hl : leftI (degN A B m) (btwN A B m) (fun i => topI (degN A B m) i - f i) (t + 1) v N < 0 := by
      unfold leftI
      rw [lossW_sum ok hv hb]
      show topI (degN A B m) v - f v + _ < 0
      unfold topI
      omega
    show (!allN _ N) = true
    rw [allN_false hv (by rw [decide_eq_true hl]; rfl)]; rfl
  · have h1 := hs i hi
    have h2 : (deg A B m ((i : Int) + 1) : Int) = (degN A B m (i + 1) : Int) := rfl
    exact decide_eq_true (by show topI (degN A B m) i - f i < _; unfold topI; omega)
end Go.Proofs.Ytlnpipkhofhlnaa
