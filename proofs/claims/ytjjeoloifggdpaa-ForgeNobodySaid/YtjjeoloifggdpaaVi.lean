/-
  Package forge: letters; the message that is looked for.
-/
import Derived.Test.YtjjeoloifggdpaaVh
import Derived.Handy
namespace Go.Proofs.Ytjjeoloifggdpaa
open Go.RowKit Go.Deep Go.Sort

def letV (m : Msg) : Value := .agg #[natV m.src, natV m.dst, .bool m.tok]
theorem box3 (w : World) (a b c : Value) (t : TypeId) : (w.alloc (.cells #[a, b, c] t)).cell? ⟨w.heap.size, 0, none⟩ = some a ∧ (w.alloc (.cells #[a, b, c] t)).cell? ⟨w.heap.size, 1, none⟩ = some b ∧ (w.alloc (.cells #[a, b, c] t)).cell? ⟨w.heap.size, 2, none⟩ = some c := by
  refine ⟨?_, ?_, ?_⟩ <;> (unfold World.cell?; dsimp only; rw [blk_alloc_new]; rfl)
theorem newbox3 (w : World) (n : Nat) (hn : w.heap.size = n) (a b c : Value) (t : TypeId) : ∃ W, w.alloc (.cells #[a, b, c] t) = W ∧ W.heap.size = n + 1 ∧ W.cell? ⟨n, 0, none⟩ = some a ∧ W.cell? ⟨n, 1, none⟩ = some b ∧ W.cell? ⟨n, 2, none⟩ = some c ∧ Kept w W := by
  subst hn
  obtain ⟨h0, h1, h2⟩ := box3 w a b c t
  exact ⟨_, rfl, by simp, h0, h1, h2, (Kept.refl w).alloc _⟩
theorem box2 (w : World) (a b : Value) (t : TypeId) : (w.alloc (.cells #[a, b] t)).cell? ⟨w.heap.size, 0, none⟩ = some a ∧ (w.alloc (.cells #[a, b] t)).cell? ⟨w.heap.size, 1, none⟩ = some b := by
  constructor <;> (unfold World.cell?; dsimp only; rw [blk_alloc_new]; rfl)
theorem newbox2 (w : World) (n : Nat) (hn : w.heap.size = n) (a b : Value) (t : TypeId) : ∃ W, w.alloc (.cells #[a, b] t) = W ∧ W.heap.size = n + 1 ∧ W.cell? ⟨n, 0, none⟩ = some a ∧ W.cell? ⟨n, 1, none⟩ = some b ∧ Kept w W := by
  subst hn
  obtain ⟨h0, h1⟩ := box2 w a b t
  exact ⟨_, rfl, by simp, h0, h1, (Kept.refl w).alloc _⟩
set_option maxRecDepth 100000 in
theorem letter_req (w : World) (a b : Nat) : Calls Try.prog 92 #[.agg #[.int .i64 (a : Int), .int .i64 (b : Int)]] w fun e w' => e = .returned (.agg #[.int .i64 (a : Int), .int .i64 (b : Int), .bool false]) ∧ Kept w w' := by
  obtain ⟨W, hW, hs, c0, c1, hk⟩ := newbox2 w w.heap.size rfl (.int .i64 (a : Int)) (.int .i64 (b : Int)) 96
  go_enter Try.func92, Try.ntmps92
  go_wp2_with fail
  obtain ⟨W2, hW2, _, d0, d1, d2, hk2⟩ := newbox3 W (w.heap.size + 1) hs (.int .i64 (a : Int)) (.int .i64 (b : Int)) (.bool false) 52
  rw [hW2]
  exact bodyPost_ret (v := .agg #[.int .i64 (a : Int), .int .i64 (b : Int), .bool false]) (by simp [results, Try.results92, go_sem, d0, d1, d2]) rfl ⟨rfl, hk.trans hk2⟩
set_option maxRecDepth 100000 in
theorem letter_tok (w : World) (a b : Nat) : Calls Try.prog 93 #[.agg #[.int .i64 (a : Int), .int .i64 (b : Int)]] w fun e w' => e = .returned (.agg #[.int .i64 (a : Int), .int .i64 (b : Int), .bool true]) ∧ Kept w w' := by
  obtain ⟨W, hW, hs, c0, c1, hk⟩ := newbox2 w w.heap.size rfl (.int .i64 (a : Int)) (.int .i64 (b : Int)) 98
  go_enter Try.func93, Try.ntmps93
  go_wp2_with fail
  obtain ⟨W2, hW2, _, d0, d1, d2, hk2⟩ := newbox3 W (w.heap.size + 1) hs (.int .i64 (a : Int)) (.int .i64 (b : Int)) (.bool true) 52
  rw [hW2]
  exact bodyPost_ret (v := .agg #[.int .i64 (a : Int), .int .i64 (b : Int), .bool true]) (by simp [results, Try.results93, go_sem, d0, d1, d2]) rfl ⟨rfl, hk.trans hk2⟩
set_option maxRecDepth 100000 in
set_option maxHeartbeats 1000000 in
theorem deliver1_any (w : World) (m : Msg) (f t b c : Nat) (hb : w.cell? ⟨b, 0, none⟩ = some (.int .i64 (f : Int))) (hc : w.cell? ⟨c, 0, none⟩ = some (.int .i64 (t : Int))) :
    Calls Try.prog 54 #[msgV m, .pointer (some ⟨b, 0, none⟩), .pointer (some ⟨c, 0, none⟩)] w fun e w' => e = .returned (.bool (decide (m.src = f) && decide (m.dst = t))) ∧ Kept w w' := by
  obtain ⟨x, y, k⟩ := m
  have LR := Lib.hid (fun W => letter_req W x y)
  have LT := Lib.hid (fun W => letter_tok W x y)
  have e1 : ((x : Int) == (f : Int)) = decide (x = f) := by rw [Bool.eq_iff_iff]; simp; omega
  have e2 : ((y : Int) == (t : Int)) = decide (y = t) := by rw [Bool.eq_iff_iff]; simp; omega
  show Calls _ _ #[msgV ⟨x, y, k⟩, _, _] w fun e w' => e = .returned (.bool (decide (x = f) && decide (y = t))) ∧ Kept w w'
  generalize decide (x = f) = z1 at *
  generalize decide (y = t) = z2 at *
  unfold msgV natV
  cases k
  · show Calls _ _ #[.iface 96 (.agg #[.int .i64 (x : Int), .int .i64 (y : Int)]), _, _] w _
    clear LT
    cases z1
    · go_enter Try.func54, Try.ntmps54
      go_wp2_with (first | (go_at_call 92; refine (LR.out _).mono ?_; rintro e w1 ⟨rfl, hk1⟩; have d1 := hk1.cellSome hb; have d2 := hk1.cellSome hc; obtain ⟨g0, g1, g2⟩ := box3 w1 (.int .i64 (x : Int)) (.int .i64 (y : Int)) (.bool false) 52; have hk2 : Kept w1 (w1.alloc (.cells #[.int .i64 (x : Int), .int .i64 (y : Int), .bool false] 52)) := (Kept.refl w1).alloc _; have d1 := hk2.cellSome d1; have d2 := hk2.cellSome d2))
      go_ret
      exact ⟨ret_bool (by simp), hk1.trans hk2⟩
    · go_enter Try.func54, Try.ntmps54
      go_wp2_with (first | (go_at_call 92; refine (LR.out _).mono ?_; rintro e w1 ⟨rfl, hk1⟩; have d1 := hk1.cellSome hb; have d2 := hk1.cellSome hc; obtain ⟨g0, g1, g2⟩ := box3 w1 (.int .i64 (x : Int)) (.int .i64 (y : Int)) (.bool false) 52; have hk2 : Kept w1 (w1.alloc (.cells #[.int .i64 (x : Int), .int .i64 (y : Int), .bool false] 52)) := (Kept.refl w1).alloc _; have d1 := hk2.cellSome d1; have d2 := hk2.cellSome d2))
      go_ret
      exact ⟨ret_bool (by simp), hk1.trans hk2⟩
  · show Calls _ _ #[.iface 98 (.agg #[.int .i64 (x : Int), .int .i64 (y : Int)]), _, _] w _
    clear LR
    cases z1
    · go_enter Try.func54, Try.ntmps54
      go_wp2_with (first | (go_at_call 93; refine (LT.out _).mono ?_; rintro e w1 ⟨rfl, hk1⟩; have d1 := hk1.cellSome hb; have d2 := hk1.cellSome hc; obtain ⟨g0, g1, g2⟩ := box3 w1 (.int .i64 (x : Int)) (.int .i64 (y : Int)) (.bool true) 52; have hk2 : Kept w1 (w1.alloc (.cells #[.int .i64 (x : Int), .int .i64 (y : Int), .bool true] 52)) := (Kept.refl w1).alloc _; have d1 := hk2.cellSome d1; have d2 := hk2.cellSome d2))
      go_ret
      exact ⟨ret_bool (by simp), hk1.trans hk2⟩
    · go_enter Try.func54, Try.ntmps54
      go_wp2_with (first | (go_at_call 93; refine (LT.out _).mono ?_; rintro e w1 ⟨rfl, hk1⟩; have d1 := hk1.cellSome hb; have d2 := hk1.cellSome hc; obtain ⟨g0, g1, g2⟩ := box3 w1 (.int .i64 (x : Int)) (.int .i64 (y : Int)) (.bool true) 52; have hk2 : Kept w1 (w1.alloc (.cells #[.int .i64 (x : Int), .int .i64 (y : Int), .bool true] 52)) := (Kept.refl w1).alloc _; have d1 := hk2.cellSome d1; have d2 := hk2.cellSome d2))
      go_ret
      exact ⟨ret_bool (by simp), hk1.trans hk2⟩
end Go.Proofs.Ytjjeoloifggdpaa
