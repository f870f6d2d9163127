/-
  Package road: which farrier is at a place (slices.Index, slices.Contains), isThere.
-/
import Derived.Test.YtlgpclnmonpkjaaTb
namespace Go.Proofs.Ytlgpclnmonpkjaa
open Go.RowKit Go.Deep

/-- v is a list of k spots -/
def SpsAt (w : World) (v : Value) (k : Nat) (H : Nat → Sp) : Prop := PairsAt w v k (fun i => (((H i).1 : Nat) : Int)) (fun i => (((H i).2 : Nat) : Int))
theorem SpsAt.kept {w w' : World} {v : Value} {k : Nat} {H : Nat → Sp} (h : SpsAt w v k H) (kk : Kept w w') : SpsAt w' v k H := PairsAt.kept h kk
/-- the first of k spots that is s, or k -/
def firstSp (H : Nat → Sp) (s : Sp) (k : Nat) : Nat := least (fun i => decide (H i = s)) k
def indexI (H : Nat → Sp) (s : Sp) (k : Nat) : Int := if firstSp H s k < k then ((firstSp H s k : Nat) : Int) else -1
def hasSp (H : Nat → Sp) (s : Sp) (k : Nat) : Bool := decide (firstSp H s k < k)
theorem hasSp_iff {H : Nat → Sp} {s : Sp} {k : Nat} : hasSp H s k = true ↔ ∃ i, i < k ∧ H i = s := by
  unfold hasSp firstSp
  simp only [decide_eq_true_eq]
  constructor
  · intro h
    have := (least_some h).1
    exact ⟨_, h, by simpa using this⟩
  · rintro ⟨i, hi, e⟩
    rcases Nat.lt_or_ge (least (fun i => decide (H i = s)) k) k with h | h
    · exact h
    · have := least_none.1 (Nat.le_antisymm (least_le _ k) h) i hi
      simp [e] at this
set_option maxRecDepth 100000 in
set_option maxHeartbeats 2000000 in
theorem index_any (w : World) (v : Value) (k : Nat) (H : Nat → Sp) (s : Sp) (hS : SpsAt w v k H) (hk : k ≤ 100) :
    Calls Try.prog 81 #[v, SpV s] w fun e w' => e = .returned (.int .i64 (indexI H s k)) ∧ Kept w w' := by
  obtain ⟨a, b, o, cap, rfl, ha, hc⟩ := hS
  obtain ⟨p, u⟩ := s
  unfold SpV
  simp only
  obtain ⟨n0, HN0⟩ : ∃ n0, w.heap.size = n0 := ⟨_, rfl⟩
  obtain ⟨W1, hW1, hsz, y0, y1, hK⟩ := newbox2 w n0 HN0 (.int .i64 (p : Int)) (.int .i64 (u : Int)) 26
  have HC := Lib.hid hc
  clear hc
  go_enter Try.func81, Try.ntmps81
  go_wp2_with fail
  clear hW1 hsz
  go_loopg [8] k (fun g s8 wr => ∃ i : Nat, i ≤ k ∧ g = k - i ∧ s8 = .int .i64 i ∧ Hid (firstSp H (p, u) i = i) ∧ Kept W1 wr)
  case atStart => exact ⟨0, Nat.zero_le _, rfl, rfl, rfl, Kept.refl _⟩
  case round =>
    obtain ⟨i, hi, rfl, rfl, hF, hK2⟩ := hrel
    by_cases hlt : i < k
    · obtain rfl := ha (by omega)
      obtain ⟨c1, c2⟩ := HC.out i hlt
      have h1 := (hK.trans hK2).cellSome c1
      have h2 := (hK.trans hK2).cellSome c2
      obtain ⟨z0, z1, _⟩ := keep2 y0 y1 hK2
      obtain ⟨⟨x0, x1⟩, HX⟩ : ∃ x, Hid (x = H i) := ⟨_, rfl⟩
      rw [← HX.out] at h1 h2
      simp only at h1 h2
      have n1 : (i : Int) < (k : Int) := by omega
      have n2 : (0 : Int) ≤ (i : Int) := by omega
      clear c1 c2 y0 y1
      by_cases e : (x0, x1) = (p, u)
      · injection e with e0 e1
        subst e0
        subst e1
        have hit : Hid (firstSp H (x0, x1) k = i) := least_hit hF.out (by simp [HX.out]) hlt
        have hv : Hid (indexI H (x0, x1) k = (i : Int)) := by show _ = _; unfold indexI; rw [hit.out, if_pos hlt]
        go_wp2_with fail
        go_quiet (fail)
        go_wp2_with fail
        go_ret
        exact ⟨ret_int hv.out.symm, (hK.trans hK2).drewN _⟩
      · have hF2 : Hid (firstSp H (p, u) (i + 1) = i + 1) := least_step hF.out (by simp only [decide_eq_false_iff_not]; rw [← HX.out]; exact e)
        have ne : ¬ ((p : Int) = (x0 : Int) ∧ (u : Int) = (x1 : Int)) := by
          rintro ⟨h1, h2⟩
          exact e (by rw [show x0 = p by omega, show x1 = u by omega])
        have NE := Lib.hid ne
        clear ne e HX
        by_cases e0 : (p : Int) = (x0 : Int)
        · have e1 : ¬ (u : Int) = (x1 : Int) := fun h => NE.out ⟨e0, h⟩
          have b0 : ((p : Int) == (x0 : Int)) = true := by simp [e0]
          have b1 : ((u : Int) == (x1 : Int)) = false := by simp; omega
          have E0 := Lib.hid e0
          clear e0
          go_wp2_with fail
          go_quiet (fail)
          go_wp2_with fail
          go_roundg (k - (i + 1))
          case measure => omega
          case rel => exact ⟨i + 1, by omega, rfl, by go_num, hF2.out, hK2.drewN _⟩
        · have b0 : ((p : Int) == (x0 : Int)) = false := by simp; omega
          go_wp2_with fail
          go_quiet (fail)
          go_wp2_with fail
          go_roundg (k - (i + 1))
          case measure => omega
          case rel => exact ⟨i + 1, by omega, rfl, by go_num, hF2.out, hK2.drewN _⟩
    · obtain rfl : i = k := by omega
      have hv : Hid (indexI H (p, u) i = (-1 : Int)) := by show _ = _; unfold indexI; rw [hF.out, if_neg (by omega)]
      go_wp2_with fail
      go_ret
      exact ⟨ret_int hv.out.symm, hK.trans hK2⟩
set_option maxRecDepth 100000 in
set_option maxHeartbeats 2000000 in
theorem contains_any (w : World) (v : Value) (k : Nat) (H : Nat → Sp) (s : Sp) (hS : SpsAt w v k H) (hk : k ≤ 100) :
    Calls Try.prog 74 #[v, SpV s] w fun e w' => e = .returned (.bool (hasSp H s k)) ∧ Kept w w' := by
  obtain ⟨j, HJ⟩ : ∃ j, Hid (j = firstSp H s k) := ⟨_, rfl⟩
  have IX := Lib.hid (fun W (hW : SpsAt W v k H) => index_any W v k H s hW hk)
  unfold indexI at IX
  rw [← HJ.out] at IX
  have hv : Hid (hasSp H s k = decide (j < k)) := by show _ = _; rw [HJ.out]; rfl
  obtain ⟨p, u⟩ := s
  unfold SpV at *
  simp only at *
  obtain ⟨n0, HN0⟩ : ∃ n0, w.heap.size = n0 := ⟨_, rfl⟩
  obtain ⟨W1, hW1, hsz, y0, y1, hK⟩ := newbox2 w n0 HN0 (.int .i64 (p : Int)) (.int .i64 (u : Int)) 26
  have hS1 := hS.kept hK
  by_cases e : j < k
  · rw [if_pos e] at IX
    go_enter Try.func74, Try.ntmps74
    go_wp2_with (first | (go_at_call 81; refine (IX.out _ hS1).mono ?_; rintro e w1 ⟨rfl, hk1⟩))
    go_ret
    exact ⟨ret_bool (by rw [hv.out, decide_eq_true e]), hK.trans hk1⟩
  · rw [if_neg e] at IX
    go_enter Try.func74, Try.ntmps74
    go_wp2_with (first | (go_at_call 81; refine (IX.out _ hS1).mono ?_; rintro e w1 ⟨rfl, hk1⟩))
    go_ret
    exact ⟨ret_bool (by rw [hv.out, decide_eq_false e]; try rfl), hK.trans hk1⟩
end Go.Proofs.Ytlgpclnmonpkjaa
