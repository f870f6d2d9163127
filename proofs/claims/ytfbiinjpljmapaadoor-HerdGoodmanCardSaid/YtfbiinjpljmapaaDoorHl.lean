/-
  Package herd: weights in memory; sum, pull.
-/
import Derived.Test.YtfbiinjpljmapaaDoorHk
import Derived.Test.YtfbiinjpljmapaaDoorHg
namespace Go.Proofs.YtfbiinjpljmapaaDoor
open Go.RowKit Go.Deep

/-- v is a slice of these natural numbers -/
def NatsL (w : World) (v : Value) (n : Nat) (Z : Nat → Int) : Prop := ∃ P : Nat → Value, CellsAt w v n P ∧ ∀ i, i < n → NatAt w (P i) (Z i)
theorem NatsL.kept {w w' : World} {v : Value} {n : Nat} {Z : Nat → Int} (h : NatsL w v n Z) (k : Kept w w') : NatsL w' v n Z := by
  obtain ⟨P, h1, h2⟩ := h
  exact ⟨P, h1.kept k, fun i hi => (h2 i hi).kept k⟩
theorem NatAt.nil (w : World) : NatAt w (.slice none 0 0) 0 :=
  ⟨0, fun _ => 0, ⟨none, 0, rfl, Nat.le_refl _, fun _ => rfl, Nat.zero_le _, ⟨none, 0, 0, 0, rfl, fun h => absurd h (by omega), fun i hi => absurd hi (by omega)⟩⟩, ⟨fun i h => absurd h (by omega), fun h => absurd h (by omega)⟩, rfl, by omega⟩
def sumZ (Z : Nat → Int) : Nat → Int
  | 0 => 0
  | k + 1 => sumZ Z k + Z k
set_option maxRecDepth 100000 in
set_option maxHeartbeats 4000000 in
theorem sum_any (w : World) (vp vf : Value) (n : Nat) (Z : Nat → Int) (hP : NatsL w vp n Z) (hB : ∀ j, j ≤ n → sumZ Z j < bigU) (hn : n ≤ 1000) :
    Calls Tryd.prog 73 #[.agg #[vp, vf]] w (NatPost w (sumZ Z n)) := by
  obtain ⟨P, ⟨a, b, o, cap, rfl, ha, hc⟩, hz⟩ := hP
  have HC := Lib.hid hc
  have HZ := Lib.hid hz
  have HB := Lib.hid hB
  have PL := Lib.hid (fun W va vb x y h1 h2 h3 => plus_any W va vb x y h1 h2 h3)
  have d0 : (w.alloc (.cells #[.slice a n cap, vf] 92)).cell? ⟨w.heap.size, 0, none⟩ = some (.slice a n cap) := by unfold World.cell?; dsimp only; rw [blk_alloc_new]; rfl
  have hk0 : Kept w (w.alloc (.cells #[.slice a n cap, vf] 92)) := (Kept.refl w).alloc _
  clear hc hz hB
  go_enter Tryd.func73, Tryd.ntmps73
  go_wp2_with fail
  generalize w.alloc (.cells #[.slice a n cap, vf] 92) = W at *
  go_wp2_with fail
  go_loopg [3, 9] n (fun g s3 s9 wr => ∃ j : Nat, j ≤ n ∧ g = n - j ∧ s9 = .int .i64 j ∧ Kept w wr ∧ NatAt wr s3 (sumZ Z j))
  case atStart => exact ⟨0, Nat.zero_le _, rfl, rfl, hk0, NatAt.nil _⟩
  case round =>
    clear hk0
    obtain ⟨j, hj, rfl, rfl, hK, hN⟩ := hrel
    by_cases hlt : j < n
    · obtain rfl := ha (by omega)
      have t0 := hK.cellSome (HC.out j hlt)
      have hz := (HZ.out j hlt).kept hK
      have s1 : (j : Int) < (n : Int) := by omega
      have s2 : (0 : Int) ≤ (j : Int) := by omega
      have hb := HB.out (j + 1) (by omega)
      simp only [sumZ] at hb
      have hnext : Hid (sumZ Z (j + 1) = sumZ Z j + Z j) := rfl
      obtain ⟨x, HX⟩ : ∃ x, Hid (x = Z j) := ⟨_, rfl⟩
      obtain ⟨p, HP⟩ : ∃ p, Hid (p = P j) := ⟨_, rfl⟩
      rw [← HX.out] at hz hb hnext
      rw [← HP.out] at hz t0
      have HBB := Lib.hid hb
      clear HX hb HP
      go_wp2_with (first | (go_at_call 78; refine (PL.out _ _ _ _ _ hN hz HBB.out).mono ?_; rintro e w3 ⟨v3, rfl, hN3, hK3⟩))
      go_roundg (n - (j + 1))
      case measure => omega
      case rel => exact ⟨j + 1, by omega, rfl, by go_num, hK.trans hK3, by rw [hnext.out]; exact hN3⟩
    · obtain rfl : j = n := by omega
      go_wp2_with fail
      go_ret
      exact ⟨_, rfl, hN, hK⟩
def pullZ (Z : Nat → Int) (l : List Nat) : Nat → Int
  | 0 => 0
  | k + 1 => pullZ Z l k + Z (l.getD k 0)
theorem horsesL_bit {s k i : Nat} (h : i ∈ horsesL s k) : s.testBit i = true := by
  unfold horsesL at h
  rw [List.mem_filter] at h
  exact h.2
theorem getD_mem {l : List Nat} {i : Nat} (h : i < l.length) : l.getD i 0 ∈ l := by
  rw [List.getD_eq_getElem?_getD, List.getElem?_eq_getElem h]
  exact List.getElem_mem h
set_option maxRecDepth 100000 in
set_option maxHeartbeats 4000000 in
theorem pull_any (w : World) (vp vf hv : Value) (n h : Nat) (Z : Nat → Int) (H : Nat → Nat) (hP : NatsL w vp n Z) (hS : SetsAt w hv n H) (hh : h < n) (hH : H h < 65536) (hbit : ∀ j, (H h).testBit j = true → j < n)
    (hB : ∀ j, j ≤ (horsesL (H h) 9).length → pullZ Z (horsesL (H h) 9) j < bigU) (hn : n ≤ 1000) :
    Calls Tryd.prog 87 #[.agg #[vp, vf], hv, .int .i64 h] w (NatPost w (pullZ Z (horsesL (H h) 9) (horsesL (H h) 9).length)) := by
  obtain ⟨P, ⟨a, b, o, cap, rfl, ha, hc⟩, hz⟩ := hP
  obtain ⟨a2, b2, o2, cap2, rfl, ha2, hc2⟩ := hS
  obtain rfl := ha2 (by omega)
  obtain rfl := ha (by omega)
  have u0 := hc2 h hh
  simp only [setV] at u0
  obtain ⟨s, HS⟩ : ∃ s, Hid (s = H h) := ⟨_, rfl⟩
  rw [← HS.out] at u0 hH hbit hB ⊢
  have HO := Lib.hid (fun W => horses_any W s hH)
  have hlt9 : ∀ j, j < (horsesL s 9).length → (horsesL s 9).getD j 0 < n := fun j hj => hbit _ (horsesL_bit (getD_mem hj))
  obtain ⟨l, HLL⟩ : ∃ l, Hid (l = horsesL s 9) := ⟨_, rfl⟩
  rw [← HLL.out] at hB hlt9 HO ⊢
  obtain ⟨len, HLN⟩ : ∃ len, Hid (len = l.length) := ⟨_, rfl⟩
  have hlen : len ≤ 9 := by rw [HLN.out, HLL.out, horsesL_len]; exact cnt_le _ _
  have HC := Lib.hid hc
  have HZ := Lib.hid hz
  have HB := Lib.hid hB
  have HL9 := Lib.hid hlt9
  have PL := Lib.hid (fun W va vb x y h1 h2 h3 => plus_any W va vb x y h1 h2 h3)
  have d0 : (w.alloc (.cells #[.slice (some ⟨b, o, none⟩) n cap, vf] 92)).cell? ⟨w.heap.size, 0, none⟩ = some (.slice (some ⟨b, o, none⟩) n cap) := by unfold World.cell?; dsimp only; rw [blk_alloc_new]; rfl
  have hk0 : Kept w (w.alloc (.cells #[.slice (some ⟨b, o, none⟩) n cap, vf] 92)) := (Kept.refl w).alloc _
  have x0 : (0 : Int) ≤ (h : Int) := by omega
  have x1 : (h : Int) < (n : Int) := by omega
  have u1 := hk0.cellSome u0
  clear hc hz hB hc2 hlt9 HS u0
  rw [← HLN.out]
  go_enter Tryd.func87, Tryd.ntmps87
  go_wp2_with fail
  generalize w.alloc (.cells #[.slice (some ⟨b, o, none⟩) n cap, vf] 92) = W at *
  go_wp2_with (first | (go_at_call 47; refine (HO.out _).mono ?_; rintro e w4 ⟨v4, rfl, hO4, hk4⟩))
  obtain ⟨la, lcap, rfl⟩ := own_shape hO4
  have hN4 := NatsAt.of_own hO4
  rw [← HLN.out]
  obtain ⟨_, lb, lo, _, e, hla, hlc⟩ := hN4
  cases e
  have HLC := Lib.hid hlc
  rw [← HLN.out] at hla
  have d1 := hk4.cellSome d0
  have hk5 := hk0.trans hk4
  have hs5 : w.heap.size < w4.heap.size := World.block_lt_of_cell? _ _ d1
  clear hlc hO4 d0 u1
  go_wp2_with fail
  go_loopg [7, 16] len (fun g s7 s16 wr => ∃ j : Nat, j ≤ len ∧ g = len - j ∧ s16 = .int .i64 j ∧ Kept w4 wr ∧ NatAt wr s7 (pullZ Z l j))
  case atStart => exact ⟨0, Nat.zero_le _, rfl, rfl, Kept.refl _, NatAt.nil _⟩
  case round =>
    obtain ⟨j, hj, rfl, rfl, hK, hN⟩ := hrel
    by_cases hlt : j < len
    · obtain rfl := hla (by omega)
      have hjl : j < l.length := by rw [← HLN.out]; exact hlt
      have y0 := hK.cellSome (HLC.out j hjl)
      have y1 := hK.cellSome d1
      have hi := HL9.out j hjl
      have hb := HB.out (j + 1) (by omega)
      simp only [pullZ] at hb
      have hnext : Hid (pullZ Z l (j + 1) = pullZ Z l j + Z (l.getD j 0)) := rfl
      obtain ⟨i, HI⟩ : ∃ i, Hid (i = l.getD j 0) := ⟨_, rfl⟩
      rw [← HI.out] at y0 hi hb hnext
      have t0 := (hk5.trans hK).cellSome (HC.out i hi)
      have hz := (HZ.out i hi).kept (hk5.trans hK)
      have s1 : (j : Int) < (len : Int) := by omega
      have s2 : (0 : Int) ≤ (j : Int) := by omega
      have s3 : (i : Int) < (n : Int) := by omega
      have s4 : (0 : Int) ≤ (i : Int) := by omega
      obtain ⟨x, HX⟩ : ∃ x, Hid (x = Z i) := ⟨_, rfl⟩
      obtain ⟨p, HP⟩ : ∃ p, Hid (p = P i) := ⟨_, rfl⟩
      rw [← HX.out] at hz hb hnext
      rw [← HP.out] at hz t0
      have HBB := Lib.hid hb
      clear HX hb HP HI
      go_wp2_with (first | (go_at_call 78; refine (PL.out _ _ _ _ _ hN hz HBB.out).mono ?_; rintro e w3 ⟨v3, rfl, hN3, hK3⟩))
      go_roundg (len - (j + 1))
      case measure => omega
      case rel => exact ⟨j + 1, by omega, rfl, by go_num, hK.trans hK3, by rw [hnext.out]; exact hN3⟩
    · obtain rfl : j = len := by omega
      go_wp2_with fail
      go_ret
      exact ⟨_, rfl, hN, hk5.trans hK⟩
end Go.Proofs.YtfbiinjpljmapaaDoor
