/-
  Package herd: product, over.
  Package herd: weights in memory; sum, pull.
-/
import Derived.Test.YtlnlddnjalfamaaGreatDoorHc
import Derived.Test.YtlnlddnjalfamaaGreatDoorHg
namespace Go.Proofs.YtlnlddnjalfamaaGreatDoor
open Go.RowKit Go.Deep

theorem ret_tu {v : Value} {a b : Int} (h : a = b) : Ending.returned (.tuple #[v, .int .u64 a]) = .returned (.tuple #[v, .int .u64 b]) := by rw [h]
def prodN (F : Nat → Nat) : Nat → Int
  | 0 => 1
  | k + 1 => prodN F k * (F k : Int)
set_option maxRecDepth 100000 in
set_option maxHeartbeats 4000000 in
theorem product_any (w : World) (v : Value) (k : Nat) (F : Nat → Nat) (hv : CellsAt w v k (fun i => .int .u64 ((F i : Nat) : Int))) (hF : ∀ i, i < k → F i < 18446744073709551616) (hB : ∀ j, j ≤ k → prodN F j < bigU) (hk : k ≤ 1000) :
    Calls Tryz.prog 80 #[v] w (NatPost w (prodN F k)) := by
  obtain ⟨a, b, o, cap, rfl, ha, hc⟩ := hv
  have HC := Lib.hid hc
  have HF := Lib.hid hF
  have HB := Lib.hid hB
  have SM := Lib.hid (fun W (x : Nat) hx => small_any W x hx)
  have TM := Lib.hid (fun W va vb x y h1 h2 h3 => times_any W va vb x y h1 h2 h3)
  have SM1 := Lib.hid (small_any w 1 (by decide))
  clear hc hF hB
  go_enter Tryz.func80, Tryz.ntmps80
  go_wp2_with (first | (go_at_call 82; refine SM1.out.mono ?_; rintro e w1 ⟨v1, rfl, hN1, hK1⟩))
  clear SM1
  go_loopg [3, 9] k (fun g s3 s9 wr => ∃ j : Nat, j ≤ k ∧ g = k - j ∧ s9 = .int .i64 j ∧ Kept w wr ∧ NatAt wr s3 (prodN F j))
  case atStart => exact ⟨0, Nat.zero_le _, rfl, rfl, hK1, hN1⟩
  case round =>
    clear hK1 hN1
    obtain ⟨j, hj, rfl, rfl, hK, hN⟩ := hrel
    by_cases hlt : j < k
    · obtain rfl := ha (by omega)
      have t0 := hK.cellSome (HC.out j hlt)
      have s1 : (j : Int) < (k : Int) := by omega
      have s2 : (0 : Int) ≤ (j : Int) := by omega
      have hx := HF.out j hlt
      have hb := HB.out (j + 1) (by omega)
      simp only [prodN] at hb
      have hnext : Hid (prodN F (j + 1) = prodN F j * (F j : Int)) := rfl
      obtain ⟨x, HX⟩ : ∃ x, Hid (x = F j) := ⟨_, rfl⟩
      rw [← HX.out] at t0 hx hb hnext
      have SX := Lib.hid (fun W => SM.out W x hx)
      have HBB := Lib.hid hb
      clear HX hb
      go_wp2_with (first | (go_at_call 82; refine (SX.out _).mono ?_; rintro e w2 ⟨v2, rfl, hN2, hK2⟩) | (go_at_call 81; refine (TM.out _ _ _ _ _ (hN.kept hK2) hN2 HBB.out).mono ?_; rintro e w3 ⟨v3, rfl, hN3, hK3⟩))
      go_roundg (k - (j + 1))
      case measure => omega
      case rel => exact ⟨j + 1, by omega, rfl, by go_num, (hK.trans hK2).trans hK3, by rw [hnext.out]; exact hN3⟩
    · obtain rfl : j = k := by omega
      go_wp2_with fail
      go_ret
      exact ⟨_, rfl, hN, hK⟩
/-- the quotient from the element k on, and the rest that is left there -/
structure DivN (D : Nat → Int) (n : Nat) (d : Int) (k : Nat) (r : Int) (Q : Nat → Int) : Prop where
  dig : DigN Q n
  low : ∀ t, t < k → Q t = 0
  r0 : 0 ≤ r
  r1 : r < d
  v : valN D n - valN D k = d * valN Q n + r * 1000000 ^ k
theorem DivN.step {D Q : Nat → Int} {n k : Nat} {d r x : Int} (h : DivN D n d (k + 1) r Q) (hk : k < n) (hx : x = r * 1000000 + D k) (hd : 0 < d) (hD : 0 ≤ D k ∧ D k < 1000000) : DivN D n d k (x % d) (fun t => if t = k then x / d else Q t) where
  dig := fun i hi => by
    by_cases e : i = k
    · simp only [e, if_true]
      have h0 := h.r0
      have h1 := h.r1
      refine ⟨Int.ediv_nonneg (by omega) (by omega), Int.ediv_lt_of_lt_mul hd ?_⟩
      omega
    · simp only [e, if_false]; exact h.dig i hi
  low := fun t ht => by simp only [show ¬ t = k by omega, if_false]; exact h.low t (by omega)
  r0 := Int.emod_nonneg _ (by omega)
  r1 := Int.emod_lt_of_pos _ hd
  v := by
    have h1 := h.v
    have h2 := h.low k (by omega)
    have h3 := Int.emod_add_mul_ediv x d
    rw [valN_upd hk, h2]
    simp only [valN, pw_succN] at h1
    generalize x % d = m at *
    generalize x / d = q at *
    have hD2 : valN D n - valN D k = d * valN Q n + x * 1000000 ^ k := by subst hx; grind
    rw [hD2, ← h3]
    grind
set_option maxRecDepth 100000 in
set_option maxHeartbeats 8000000 in
theorem over_any (w : World) (va : Value) (z : Int) (d : Nat) (hz : NatAt w va z) (hd : 0 < d) (hd2 : d ≤ 1000000000000) :
    Calls Tryz.prog 107 #[va, .int .u64 d] w fun e w' => ∃ v, e = .returned (.tuple #[v, .int .u64 (z % d)]) ∧ NatAt w' v (z / d) ∧ Kept w w' := by
  obtain ⟨n, D, ⟨a, cap, rfl, _, _, _, ⟨_, b, o, _, e, ha, hc⟩⟩, hL, rfl, hn⟩ := hz
  cases e
  have HC := Lib.hid hc
  have HD := Lib.hid hL
  have hmk := fun W => mkNat (n : Int) n rfl (by omega) W
  have hrow := World.rowIs_made w (.int .u64 0) n 69
  have hk0 : Kept w (w.alloc (.cells (madeCells #[.int .u64 0] n) 69)) := (Kept.refl w).alloc _
  clear hc hL
  go_enter Tryz.func107, Tryz.ntmps107
  go_wp2_with fail
  obtain ⟨r, HRR⟩ : ∃ r, Hid (r = w.heap.size) := ⟨_, rfl⟩
  have hrs : w.heap.size ≤ r := by rw [HRR.out]; exact Nat.le_refl _
  rw [← HRR.out] at hrow ⊢
  generalize w.alloc (.cells (madeCells #[.int .u64 0] n) 69) = W0 at *
  have hS0 : Hid (DivN D n d n 0 (fun _ => 0)) := ⟨fun i h => by omega, fun t _ => rfl, by omega, by omega, by
    have := valN_zeros (D := fun _ => 0) (n := 0) n (fun i _ _ => rfl)
    rw [Nat.zero_add] at this
    rw [this]
    simp [valN]⟩
  clear hmk
  go_loopg [7, 8] (n + 1) (fun g s7 s8 wr => ∃ (k : Nat) (c : Int) (S : Nat → Int), k ≤ n ∧ g = k + 1 ∧ s7 = .int .u64 c ∧ s8 = .int .i64 ((k : Int) - 1) ∧ Kept w wr ∧ wr.rowIs r 69 n (fun t => .int .u64 (S t)) ∧ Hid (DivN D n d k c S))
  case atStart => exact ⟨n, 0, fun _ => 0, Nat.le_refl _, rfl, rfl, rfl, hk0, hrow, hS0.out⟩
  case round =>
    clear hk0 hrow hS0
    obtain ⟨k, c, S, hk, rfl, rfl, rfl, hK, hR, hS⟩ := hrel
    by_cases h0 : 0 < k
    · obtain rfl := ha (by omega)
      obtain ⟨j, rfl⟩ : ∃ j, k = j + 1 := ⟨k - 1, by omega⟩
      have ec : ((j + 1 : Nat) : Int) - 1 = (j : Int) := by omega
      rw [ec]
      have t0 := hK.cellSome (HC.out j (by omega))
      have r0 : ∃ q : Int, wr.cell? ⟨r, j, none⟩ = some (.int .u64 q) := ⟨_, hR.cell (i := j) (by omega)⟩
      obtain ⟨q0, r0⟩ := r0
      have f0 := hR.frozen j
      have bd := HD.out.1 j (by omega)
      have hc0 := hS.out.r0
      have hc1 := hS.out.r1
      obtain ⟨x, HX⟩ : ∃ x, Hid (x = D j) := ⟨_, rfl⟩
      rw [← HX.out] at t0 bd
      have hst : Hid (DivN D n d j ((c * 1000000 + x) % d) (fun t => if t = j then (c * 1000000 + x) / d else S t)) := hS.out.step (by omega) (by rw [HX.out]) (by omega) (by rw [← HX.out]; exact bd)
      have s1 : (j : Int) < (n : Int) := by omega
      have s2 : (0 : Int) ≤ (j : Int) := by omega
      have w1 : IntKind.u64.wrap (c * 1000000) = c * 1000000 := IntWalk.u64_in _ (by omega)
      obtain ⟨y, HY⟩ : ∃ y, Hid (y = c * 1000000 + x) := ⟨_, rfl⟩
      have hy0 : 0 ≤ y := by rw [HY.out]; omega
      have hy1 : y < 18446744073709551616 := by rw [HY.out]; omega
      rw [← HY.out] at hst
      have w2 : IntKind.u64.wrap (c * 1000000 + x) = y := by rw [HY.out]; exact IntWalk.u64_in _ (by omega)
      have d0 : ¬ (d : Int) = 0 := by omega
      have e1 : Int.tdiv y (d : Int) = y / d := Int.tdiv_eq_ediv_of_nonneg hy0
      have e2 : Int.tmod y (d : Int) = y % d := Int.tmod_eq_emod_of_nonneg hy0
      have e3 : 0 ≤ y / (d : Int) ∧ y / (d : Int) ≤ y := ⟨Int.ediv_nonneg hy0 (by omega), Int.ediv_le_self _ hy0⟩
      obtain ⟨qq, HQ⟩ : ∃ qq, Hid (qq = y / (d : Int)) := ⟨_, rfl⟩
      obtain ⟨mm, HM⟩ : ∃ mm, Hid (mm = y % (d : Int)) := ⟨_, rfl⟩
      rw [← HQ.out] at e1 e3 hst
      rw [← HM.out] at e2 hst
      have w3 : IntKind.u64.wrap qq = qq := IntWalk.u64_in _ (by omega)
      obtain ⟨e3, e4⟩ := e3
      clear hS HX HY HQ HM bd hc0 hc1
      go_wp2_with fail
      go_region
      all_goals
        go_wp2_with fail
        have hset := ((hR.set j (.int .u64 qq)).drew).congr (g := fun t => .int .u64 ((fun t => if t = j then qq else S t) t)) (fun t ht => by
          by_cases e1 : t = j
          · subst e1
            simp
          · simp [e1])
        have hKS : Kept w (wr.setCell ⟨r, j, none⟩ (.int .u64 qq)).drew := (hK.setCell hrs _).drew
        go_roundg (j + 1)
        case measure => omega
        case rel => exact ⟨j, mm, _, by omega, rfl, rfl, by go_num, hKS, hset, hst.out⟩
    · obtain rfl : k = 0 := by omega
      have hv := hS.out.v
      simp [valN] at hv
      have hsu : SuAt wr (.slice (some ⟨r, 0, none⟩) n n) n S := ⟨_, _, rfl, Nat.le_refl _, (fun h => by cases h), by unfold maxLen; omega, CellsAt.of_row hR⟩
      have TR := Lib.hid (trimmed_any wr _ _ _ S hsu (by omega))
      have hq : Hid (valN D n / d = valN S n ∧ valN D n % d = c) := by
        show _ ∧ _
        rw [hv]
        have h0 := hS.out.r0
        have h1 := hS.out.r1
        rw [Int.add_comm]
        exact ⟨by rw [Int.add_mul_ediv_left _ _ (by omega), Int.ediv_eq_zero_of_lt h0 h1]; omega, by rw [Int.add_mul_emod_self_left]; exact Int.emod_eq_of_lt h0 h1⟩
      have HR := Lib.hid hR
      have HDG := Lib.hid hS.out.dig
      clear hsu hv hS hR
      go_wp2_with fail
      refine TR.out.mono ?_
      rintro e w2 ⟨q, hq2, rfl, rfl, hz, ht⟩
      have HZ := Lib.hid hz
      have HT := Lib.hid ht
      clear hz ht TR
      go_wp2_with fail
      go_ret2
      have hvq : valN S n = valN S q := by
        have := valN_zeros (D := S) (n := q) (n - q) (fun i h1 h2 => HZ.out i h1 (by omega))
        rwa [show q + (n - q) = n by omega] at this
      have hlean : LeanN S q := ⟨fun i hi => HDG.out i (by omega), HT.out⟩
      refine ⟨_, ret_tu hq.out.2.symm, ⟨q, S, ⟨_, _, rfl, by omega, (fun h => by cases h), by unfold maxLen; omega, ⟨_, r, 0, _, rfl, fun _ => rfl, fun i hi => by rw [Nat.zero_add]; exact HR.out.cell (by omega)⟩⟩, hlean, by rw [hq.out.1, hvq], by omega⟩, hK⟩
end Go.Proofs.YtlnlddnjalfamaaGreatDoor
namespace Go.Proofs.YtlnlddnjalfamaaGreatDoor
open Go.RowKit Go.Deep

/-- v is a slice of these natural numbers -/
def NatsL (w : World) (v : Value) (n : Nat) (Z : Nat → Int) : Prop := ∃ P : Nat → Value, CellsAt w v n P ∧ ∀ i, i < n → NatAt w (P i) (Z i)
theorem NatsL.kept {w w' : World} {v : Value} {n : Nat} {Z : Nat → Int} (h : NatsL w v n Z) (k : Kept w w') : NatsL w' v n Z := by
  obtain ⟨P, h1, h2⟩ := h
  exact ⟨P, h1.kept k, fun i hi => (h2 i hi).kept k⟩
theorem NatAt.nil (w : World) : NatAt w (.slice none 0 0) 0 :=
  ⟨0, fun _ => 0, ⟨none, 0, rfl, Nat.le_refl _, fun _ => rfl, Nat.zero_le _, ⟨none, 0, 0, 0, rfl, fun h => absurd h (by omega), fun i hi => absurd hi (by omega)⟩⟩, ⟨fun i h => absurd h (by omega), fun h => absurd h (by omega)⟩, rfl, by omega⟩
def sumZ (Z : Nat → Int) : Nat → Int
  | 0 => 0
  | k + 1 => sumZ Z k + Z k
set_option maxRecDepth 100000 in
set_option maxHeartbeats 4000000 in
theorem sum_any (w : World) (vp vf : Value) (n : Nat) (Z : Nat → Int) (hP : NatsL w vp n Z) (hB : ∀ j, j ≤ n → sumZ Z j < bigU) (hn : n ≤ 1000) :
    Calls Tryz.prog 83 #[.agg #[vp, vf]] w (NatPost w (sumZ Z n)) := by
  obtain ⟨P, ⟨a, b, o, cap, rfl, ha, hc⟩, hz⟩ := hP
  have HC := Lib.hid hc
  have HZ := Lib.hid hz
  have HB := Lib.hid hB
  have PL := Lib.hid (fun W va vb x y h1 h2 h3 => plus_any W va vb x y h1 h2 h3)
  have d0 : (w.alloc (.cells #[.slice a n cap, vf] 101)).cell? ⟨w.heap.size, 0, none⟩ = some (.slice a n cap) := by unfold World.cell?; dsimp only; rw [blk_alloc_new]; rfl
  have hk0 : Kept w (w.alloc (.cells #[.slice a n cap, vf] 101)) := (Kept.refl w).alloc _
  clear hc hz hB
  go_enter Tryz.func83, Tryz.ntmps83
  go_wp2_with fail
  generalize w.alloc (.cells #[.slice a n cap, vf] 101) = W at *
  go_wp2_with fail
  go_loopg [3, 9] n (fun g s3 s9 wr => ∃ j : Nat, j ≤ n ∧ g = n - j ∧ s9 = .int .i64 j ∧ Kept w wr ∧ NatAt wr s3 (sumZ Z j))
  case atStart => exact ⟨0, Nat.zero_le _, rfl, rfl, hk0, NatAt.nil _⟩
  case round =>
    clear hk0
    obtain ⟨j, hj, rfl, rfl, hK, hN⟩ := hrel
    by_cases hlt : j < n
    · obtain rfl := ha (by omega)
      have t0 := hK.cellSome (HC.out j hlt)
      have hz := (HZ.out j hlt).kept hK
      have s1 : (j : Int) < (n : Int) := by omega
      have s2 : (0 : Int) ≤ (j : Int) := by omega
      have hb := HB.out (j + 1) (by omega)
      simp only [sumZ] at hb
      have hnext : Hid (sumZ Z (j + 1) = sumZ Z j + Z j) := rfl
      obtain ⟨x, HX⟩ : ∃ x, Hid (x = Z j) := ⟨_, rfl⟩
      obtain ⟨p, HP⟩ : ∃ p, Hid (p = P j) := ⟨_, rfl⟩
      rw [← HX.out] at hz hb hnext
      rw [← HP.out] at hz t0
      have HBB := Lib.hid hb
      clear HX hb HP
      go_wp2_with (first | (go_at_call 85; refine (PL.out _ _ _ _ _ hN hz HBB.out).mono ?_; rintro e w3 ⟨v3, rfl, hN3, hK3⟩))
      go_roundg (n - (j + 1))
      case measure => omega
      case rel => exact ⟨j + 1, by omega, rfl, by go_num, hK.trans hK3, by rw [hnext.out]; exact hN3⟩
    · obtain rfl : j = n := by omega
      go_wp2_with fail
      go_ret
      exact ⟨_, rfl, hN, hK⟩
def pullZ (Z : Nat → Int) (l : List Nat) : Nat → Int
  | 0 => 0
  | k + 1 => pullZ Z l k + Z (l.getD k 0)
theorem horsesL_bit {s k i : Nat} (h : i ∈ horsesL s k) : s.testBit i = true := by
  unfold horsesL at h
  rw [List.mem_filter] at h
  exact h.2
theorem getD_mem {l : List Nat} {i : Nat} (h : i < l.length) : l.getD i 0 ∈ l := by
  rw [List.getD_eq_getElem?_getD, List.getElem?_eq_getElem h]
  exact List.getElem_mem h
set_option maxRecDepth 100000 in
set_option maxHeartbeats 4000000 in
theorem pull_any (w : World) (vp vf hv : Value) (n h : Nat) (Z : Nat → Int) (H : Nat → Nat) (hP : NatsL w vp n Z) (hS : SetsAt w hv n H) (hh : h < n) (hH : H h < 65536) (hbit : ∀ j, (H h).testBit j = true → j < n)
    (hB : ∀ j, j ≤ (horsesL (H h) 9).length → pullZ Z (horsesL (H h) 9) j < bigU) (hn : n ≤ 1000) :
    Calls Tryz.prog 110 #[.agg #[vp, vf], hv, .int .i64 h] w (NatPost w (pullZ Z (horsesL (H h) 9) (horsesL (H h) 9).length)) := by
  obtain ⟨P, ⟨a, b, o, cap, rfl, ha, hc⟩, hz⟩ := hP
  obtain ⟨a2, b2, o2, cap2, rfl, ha2, hc2⟩ := hS
  obtain rfl := ha2 (by omega)
  obtain rfl := ha (by omega)
  have u0 := hc2 h hh
  simp only [setV] at u0
  obtain ⟨s, HS⟩ : ∃ s, Hid (s = H h) := ⟨_, rfl⟩
  rw [← HS.out] at u0 hH hbit hB ⊢
  have HO := Lib.hid (fun W => horses_any W s hH)
  have hlt9 : ∀ j, j < (horsesL s 9).length → (horsesL s 9).getD j 0 < n := fun j hj => hbit _ (horsesL_bit (getD_mem hj))
  obtain ⟨l, HLL⟩ : ∃ l, Hid (l = horsesL s 9) := ⟨_, rfl⟩
  rw [← HLL.out] at hB hlt9 HO ⊢
  obtain ⟨len, HLN⟩ : ∃ len, Hid (len = l.length) := ⟨_, rfl⟩
  have hlen : len ≤ 9 := by rw [HLN.out, HLL.out, horsesL_len]; exact cnt_le _ _
  have HC := Lib.hid hc
  have HZ := Lib.hid hz
  have HB := Lib.hid hB
  have HL9 := Lib.hid hlt9
  have PL := Lib.hid (fun W va vb x y h1 h2 h3 => plus_any W va vb x y h1 h2 h3)
  have d0 : (w.alloc (.cells #[.slice (some ⟨b, o, none⟩) n cap, vf] 101)).cell? ⟨w.heap.size, 0, none⟩ = some (.slice (some ⟨b, o, none⟩) n cap) := by unfold World.cell?; dsimp only; rw [blk_alloc_new]; rfl
  have hk0 : Kept w (w.alloc (.cells #[.slice (some ⟨b, o, none⟩) n cap, vf] 101)) := (Kept.refl w).alloc _
  have x0 : (0 : Int) ≤ (h : Int) := by omega
  have x1 : (h : Int) < (n : Int) := by omega
  have u1 := hk0.cellSome u0
  clear hc hz hB hc2 hlt9 HS u0
  rw [← HLN.out]
  go_enter Tryz.func110, Tryz.ntmps110
  go_wp2_with fail
  generalize w.alloc (.cells #[.slice (some ⟨b, o, none⟩) n cap, vf] 101) = W at *
  go_wp2_with (first | (go_at_call 43; refine (HO.out _).mono ?_; rintro e w4 ⟨v4, rfl, hO4, hk4⟩))
  obtain ⟨la, lcap, rfl⟩ := own_shape hO4
  have hN4 := NatsAt.of_own hO4
  rw [← HLN.out]
  obtain ⟨_, lb, lo, _, e, hla, hlc⟩ := hN4
  cases e
  have HLC := Lib.hid hlc
  rw [← HLN.out] at hla
  have d1 := hk4.cellSome d0
  have hk5 := hk0.trans hk4
  have hs5 : w.heap.size < w4.heap.size := World.block_lt_of_cell? _ _ d1
  clear hlc hO4 d0 u1
  go_wp2_with fail
  go_loopg [7, 16] len (fun g s7 s16 wr => ∃ j : Nat, j ≤ len ∧ g = len - j ∧ s16 = .int .i64 j ∧ Kept w4 wr ∧ NatAt wr s7 (pullZ Z l j))
  case atStart => exact ⟨0, Nat.zero_le _, rfl, rfl, Kept.refl _, NatAt.nil _⟩
  case round =>
    obtain ⟨j, hj, rfl, rfl, hK, hN⟩ := hrel
    by_cases hlt : j < len
    · obtain rfl := hla (by omega)
      have hjl : j < l.length := by rw [← HLN.out]; exact hlt
      have y0 := hK.cellSome (HLC.out j hjl)
      have y1 := hK.cellSome d1
      have hi := HL9.out j hjl
      have hb := HB.out (j + 1) (by omega)
      simp only [pullZ] at hb
      have hnext : Hid (pullZ Z l (j + 1) = pullZ Z l j + Z (l.getD j 0)) := rfl
      obtain ⟨i, HI⟩ : ∃ i, Hid (i = l.getD j 0) := ⟨_, rfl⟩
      rw [← HI.out] at y0 hi hb hnext
      have t0 := (hk5.trans hK).cellSome (HC.out i hi)
      have hz := (HZ.out i hi).kept (hk5.trans hK)
      have s1 : (j : Int) < (len : Int) := by omega
      have s2 : (0 : Int) ≤ (j : Int) := by omega
      have s3 : (i : Int) < (n : Int) := by omega
      have s4 : (0 : Int) ≤ (i : Int) := by omega
      obtain ⟨x, HX⟩ : ∃ x, Hid (x = Z i) := ⟨_, rfl⟩
      obtain ⟨p, HP⟩ : ∃ p, Hid (p = P i) := ⟨_, rfl⟩
      rw [← HX.out] at hz hb hnext
      rw [← HP.out] at hz t0
      have HBB := Lib.hid hb
      clear HX hb HP HI
      go_wp2_with (first | (go_at_call 85; refine (PL.out _ _ _ _ _ hN hz HBB.out).mono ?_; rintro e w3 ⟨v3, rfl, hN3, hK3⟩))
      go_roundg (len - (j + 1))
      case measure => omega
      case rel => exact ⟨j + 1, by omega, rfl, by go_num, hK.trans hK3, by rw [hnext.out]; exact hN3⟩
    · obtain rfl : j = len := by omega
      go_wp2_with fail
      go_ret
      exact ⟨_, rfl, hN, hk5.trans hK⟩
end Go.Proofs.YtlnlddnjalfamaaGreatDoor
