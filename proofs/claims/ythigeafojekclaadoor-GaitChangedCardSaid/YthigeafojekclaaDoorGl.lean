/-
  Package gait: rows in byte order.
-/
import Derived.RangeFuncNested
import Derived.RangeFuncBound
import Derived.RangeFuncCalls
import Derived.RangeFuncLeaves
import Derived.RangeFuncWrites
import Derived.Shelf.Abstract
import Derived.Shelf.RegionOpen
import Derived.WalkKit
import Derived.OwnWalkIn
import Derived.TacticsInMore
import Derived.LoopNIn
import Derived.LoopIn
import Derived.RegionIn
import Derived.Stop.RegionWithIn
import Derived.Sort.QuietIn
import Derived.Test.YthigeafojekclaaDoorGi
namespace Go.Proofs.YthigeafojekclaaDoor
open Go.RowKit Go.Deep Go.Shelf

/-- the row of n signs with a number, in byte order -/
def bitP (n x : Nat) : Nat → Bool := fun i => x.testBit (n - 1 - i)
theorem bit_div (s i : Nat) : s.testBit i = ((s / 2 ^ i % 2 : Nat) == 1) := by
  rw [Nat.testBit_eq_decide_div_mod_eq]
  rw [Bool.eq_iff_iff]
  simp
theorem of64 (a : Nat) (h : a < 4611686018427387904) : (BitVec.ofInt 64 (a : Int)).toNat = a := by
  rw [BitVec.ofInt_natCast, BitVec.toNat_ofNat, Nat.mod_eq_of_lt (by omega)]
theorem and64 (a b : Nat) (ha : a < 4611686018427387904) (hb : b < 4611686018427387904) : bits .and .i64 (a : Int) (b : Int) = ((a &&& b : Nat) : Int) := by
  show IntKind.i64.wrap ((BitVec.ofInt 64 (a : Int) &&& BitVec.ofInt 64 (b : Int)).toNat : Int) = _
  rw [BitVec.toNat_and, of64 a ha, of64 b hb]
  have : a &&& b ≤ a := Nat.and_le_left
  exact IntWalk.i64_in _ (by omega)
theorem nat_beq (q k : Nat) : ((q : Int) == (k : Int)) = (q == k) := by
  by_cases e : q = k
  · subst e; rw [beq_self_eq_true, beq_self_eq_true]
  · have h : ¬ (q : Int) = (k : Int) := by omega
    rw [beq_false_of_ne e, beq_false_of_ne h]
set_option maxRecDepth 100000 in
theorem rows11_any (W : World) (n x b c i : Nat) (hi : i < n) (hn : n ≤ 20) (hx : x < 4611686018427387904) (hb : W.cell? ⟨b, 0, none⟩ = some (.int .i64 x)) (hc : W.cell? ⟨c, 0, none⟩ = some (.int .i64 n)) :
    Calls Tryd.prog 66 #[.int .i64 (i : Int), .pointer (some ⟨b, 0, none⟩), .pointer (some ⟨c, 0, none⟩)] W fun e w' => e = .returned (.bool (bitP n x i)) ∧ Quiet W w' := by
  have hm : (n : Int) - 1 - (i : Int) = ((n - 1 - i : Nat) : Int) := by omega
  have hb2 : Hid (bitP n x i = ((x / 2 ^ (n - 1 - i) % 2 : Nat) == 1)) := bit_div x _
  obtain ⟨m, HM⟩ : ∃ m, Hid (m = n - 1 - i) := ⟨_, rfl⟩
  rw [← HM.out] at hm hb2
  have hm2 : m < 20 := by rw [HM.out]; omega
  go_enter Tryd.func66, Tryd.ntmps66
  go_wp2_with fail
  go_ret
  refine ⟨ret_bool ?_, Quiet.refl _⟩
  rw [hb2.out, show ((x : Int) / 2 ^ m) = ((x / 2 ^ m : Nat) : Int) by simp, show (1 : Int) = ((1 : Nat) : Int) from rfl, and64 _ 1 (Nat.lt_of_le_of_lt (Nat.div_le_self _ _) hx) (by omega), Nat.and_one_is_mod]
  exact nat_beq _ 1
theorem kept_grown {W W' : World} (h : Kept W W') : W.grownBy W' none := ⟨KeptX.os h, KeptX.tape h, KeptX.output h, KeptX.size h, fun k hk _ => KeptX.block h k hk id⟩
def slotN : Value → Nat | .int _ q => q.toNat | _ => 0
set_option maxRecDepth 100000 in
set_option maxHeartbeats 4000000 in
theorem rows1_in (m l n₀ n Bn : Nat) (hn : n ≤ 13) (hb : Bn < n₀) (J Jx : List Nat → World → Prop) (hJk : ∀ s W W', J s W → Kept W W' → J s W')
    (hY : ∀ pre x W, J pre W → pre.length < 2 ^ n → YieldAt Fence.wide (m - 1) Tryd.prog l #[.string (rowS n (bitP n x))] W fun e W' =>
      (e = .returned (.bool true) ∧ J (pre ++ [x]) W' ∧ Below n₀ W W') ∨ (e = .returned (.bool false) ∧ Jx (pre ++ [x]) W'))
    (W : World) (hsz : n₀ ≤ W.heap.size) (hBn : W.cell? ⟨Bn, 0, none⟩ = some (.int .i64 n)) (h0 : J [] W) :
    CallsIn Fence.wide m Tryd.prog 65 #[.func (.yield l) #[] #[], .pointer (some ⟨Bn, 0, none⟩)] W fun e W' => (∃ v, e = .returned v) ∧
      ((∃ ys, ys = List.range (2 ^ n) ∧ J ys W') ∨ (∃ pre, pre <+: List.range (2 ^ n) ∧ Jx pre W')) := by
  have hdd : ∀ k : Nat, (Fence.wide.depth.isSome = true → 1 ≤ k) := fun k h => by cases h
  have hN : 2 ^ n ≤ 8192 := by have := Nat.pow_le_pow_right (n := 2) (by omega) hn; omega
  obtain ⟨N, HN⟩ : ∃ N : Nat, Hid (N = 2 ^ n) := ⟨2 ^ n, rfl⟩
  have e0 : (2 : Int) ^ n = (N : Int) := by rw [HN.out]; simp
  rw [← HN.out] at hN hY ⊢
  have HJ := Lib.hid hJk
  have HYY := Lib.hid hY
  clear hJk hY
  refine callsIn_of_wp Tryd.func65 rfl trivial ?_ rfl
  simp only [Tryd.ntmps65, List.size_toArray, List.length_cons, List.length_nil, Nat.reduceAdd, Nat.reduceSub, Array.replicate_succ, Array.replicate_zero, List.push_toArray, List.append_toArray, List.nil_append, List.cons_append]
  gi_wp2_with fail
  gi_loopw [6] (fun s6 wr => ∃ k : Nat, k ≤ N ∧ s6 = .int .i64 k ∧ J (List.range k) wr ∧ Below n₀ W wr)
      (fun s6 wr => N - slotN s6)
  case atStart => exact ⟨0, Nat.zero_le _, rfl, h0, Below.refl _ _⟩
  case round =>
    obtain ⟨k, hk, rfl, hJ2, hbk⟩ := hrel
    have hcn := (hbk.cell (p := ⟨Bn, 0, none⟩) hb).trans hBn
    by_cases hlt : k < N
    · have s1 : (k : Int) < (N : Int) := by omega
      have hbx := box_cell wr (.int .i64 k) 3
      have hK0 : Kept wr (wr.alloc (.cells #[.int .i64 k] 3)) := (Kept.refl wr).alloc _
      have RO := Lib.hid (rowOf_any (wr.alloc (.cells #[.int .i64 k] 3)) n 66 #[.pointer (some ⟨wr.heap.size, 0, none⟩), .pointer (some ⟨Bn, 0, none⟩)] (bitP n k) (by omega) (enters_of Tryd.func66 (by kernel_rfl) rfl) (fun W i hi hk => rows11_any W n k _ Bn i hi (by omega) (by omega) (hk.cellSome hbx) ((hK0.trans hk).cellSome hcn)))
      have hcn2 := hK0.cellSome hcn
      have hl : (List.range k).length < N := by simpa using hlt
      clear hbx
      gi_wp2_with (first
        | ((first | refine ⟨trivial, hdd _, ?_⟩ | skip); gi_at_call 62; refine (callsIn_wide.2 RO.out).mono ?_; rintro e w1 ⟨rfl, hk1⟩; have hk2 := hK0.trans hk1; obtain ⟨fn, tmps, assign, body, hy, hR⟩ := HYY.out (List.range k) k w1 (HJ.out _ _ _ hJ2 hk2) hl)
        | ((try refine ⟨hdd _, ?_⟩); refine hR.mono ?_; clear hR; rintro e W2 (⟨rfl, hJ3, hb3⟩ | ⟨rfl, hx2⟩)))
      · refine ⟨⟨k + 1, by omega, by first | rfl | go_num, by rw [List.range_succ]; exact hJ3, ?_⟩, ?_⟩
        · have h1 : n₀ ≤ wr.heap.size := Nat.le_trans hsz hbk.size
          exact (hbk.trans ((Kept.since hk2).mono h1)).trans hb3
        · show N - (((k : Int) + 1).toNat) < N - ((k : Int).toNat)
          omega
      · refine bodyPost_ret (results_none rfl _ _ _) rfl ?_
        refine ⟨⟨_, rfl⟩, Or.inr ⟨_, ?_, hx2⟩⟩
        rw [← List.range_succ]
        obtain ⟨d, rfl⟩ : ∃ d, N = k + 1 + d := ⟨N - (k + 1), by omega⟩
        rw [List.range_add]
        exact List.prefix_append _ _
    · obtain rfl : k = N := by omega
      gi_wp2
      go_end0
      exact ⟨⟨_, rfl⟩, Or.inl ⟨_, rfl, hJ2⟩⟩
/-- the value that rows hands back yields all rows in byte order -/
theorem rows_stops (m n Bn n₀ : Nat) (hn : n ≤ 13) (w : World) (hB : Bn < n₀) (hn0 : n₀ ≤ w.heap.size) (hBn : w.cell? ⟨Bn, 0, none⟩ = some (.int .i64 n)) :
    SeqStopsK Fence.wide m Tryd.prog 65 #[.pointer (some ⟨Bn, 0, none⟩)] (fun x : Nat => #[Value.string (rowS n (bitP n x))]) (Below n₀) (fun ys => ys = List.range (2 ^ n)) (fun pre => pre <+: List.range (2 ^ n)) (2 ^ n) w := fun l J Jx W hW hJ _ hY h0 =>
  rows1_in m l n₀ n Bn hn hB J Jx (fun s W W' hs hk => hJ s W W' none hs (kept_grown hk) (fun r h => by cases h)) hY W (Nat.le_trans hn0 hW.size) ((hW.cell (p := ⟨Bn, 0, none⟩) (by simp; omega)).trans hBn) h0
/-- rows hands back a function that captures the length -/
theorem rows_in (m : Nat) (n : Int) (w : World) :
    CallsIn Fence.wide m Tryd.prog 44 #[.int .i64 n] w fun e w' => e = .returned (.func (.func 65) #[] #[.pointer (some ⟨w.heap.size, 0, none⟩)]) ∧ w' = w.alloc (.cells #[.int .i64 n] 3) := by
  refine callsIn_of_wp Tryd.func44 rfl trivial ?_ rfl
  simp only [Tryd.ntmps44, List.size_toArray, List.length_cons, List.length_nil, Nat.reduceAdd, Nat.reduceSub, Array.replicate_succ, Array.replicate_zero, List.push_toArray, List.append_toArray, List.nil_append, List.cons_append]
  gi_wp2
  go_ret
  exact ⟨rfl, rfl⟩
end Go.Proofs.YthigeafojekclaaDoor
