/-
  Sums of small decimal numbers.
-/
import Derived.Test.YtomnjcjipdnnfaaC
import Derived.LoopN
import Derived.Laws.IdiomStrings
namespace Go.Proofs.Ytomnjcjipdnnfaa
open Go.RowKit Go.Deep

theorem mk1 (W : World) : (Instr.makeSlice 81 (.int .i64 1) (.int .i64 1)).run Try.prog W = .ok (.slice (some ⟨W.heap.size, 0, none⟩) 1 1) (W.alloc (.cells #[.int .u8 0] 5)) := by
  have h := run_make_row' (P := Try.prog) 81 5 (.int .u8 0) 1 Try.underlying81 (by kernel_rfl) rfl .i64 .i64 1 (by omega) (by omega) W
  rw [made_rep] at h
  exact h
theorem mk2 (W : World) : (Instr.makeSlice 81 (.int .i64 2) (.int .i64 2)).run Try.prog W = .ok (.slice (some ⟨W.heap.size, 0, none⟩) 2 2) (W.alloc (.cells #[.int .u8 0, .int .u8 0] 5)) := by
  have h := run_make_row' (P := Try.prog) 81 5 (.int .u8 0) 1 Try.underlying81 (by kernel_rfl) rfl .i64 .i64 2 (by omega) (by omega) W
  rw [made_rep] at h
  exact h
theorem cv1 (w : World) (x : UInt8) (z : Int) (hz : z = (x.toNat : Int)) : (convert 81 55 (.slice (some ⟨w.heap.size, 0, none⟩) 1 1)).run Try.prog (w.alloc (.cells #[.int .u8 z] 5)) = .ok (.string ⟨#[x]⟩) (w.alloc (.cells #[.int .u8 z] 5)) :=
  run_convert_bytes_back (P := Try.prog) _ 81 55 5 ⟨w.heap.size, 0, none⟩ 1 [x] Try.underlying81 Try.underlying5 Try.underlying55 (fun j hj => by
    obtain rfl : j = 0 := by simpa using hj
    rw [add_at]; unfold World.cell?; dsimp only; rw [blk_alloc_new]; subst hz; rfl)
theorem cv2 (w : World) (x y : UInt8) (a b : Int) (ha : a = (x.toNat : Int)) (hb : b = (y.toNat : Int)) : (convert 81 55 (.slice (some ⟨w.heap.size, 0, none⟩) 2 2)).run Try.prog (w.alloc (.cells #[.int .u8 a, .int .u8 b] 5)) = .ok (.string ⟨#[x, y]⟩) (w.alloc (.cells #[.int .u8 a, .int .u8 b] 5)) :=
  run_convert_bytes_back (P := Try.prog) _ 81 55 5 ⟨w.heap.size, 0, none⟩ 2 [x, y] Try.underlying81 Try.underlying5 Try.underlying55 (fun j hj => by
    have : j = 0 ∨ j = 1 := by simp at hj; omega
    rcases this with rfl | rfl <;> (rw [add_at]; unfold World.cell?; dsimp only; rw [blk_alloc_new]; subst ha; subst hb; rfl))
set_option maxRecDepth 100000 in
set_option maxHeartbeats 1000000 in
theorem plus_1_1 (w : World) : Calls Try.prog 80 #[.string ⟨#[49]⟩, .string ⟨#[49]⟩] w fun e w' => e = .returned (.string ⟨#[50]⟩) ∧ Kept w w' := by
  have hm := mk1
  have hcv := cv1 w 50 50 rfl
  have hb0a : ((⟨#[49]⟩ : ByteArray)[0]).toNat = 49 := rfl
  go_enter Try.func80, Try.ntmps80
  go_wp2_with fail
  refine wp_loop_rounds 2 ?_
  rw [rounds_succ]
  go_wp2
  rw [rounds_succ]
  go_wp2
  go_ret
  exact ⟨rfl, (Kept.refl w).alloc _⟩
set_option maxRecDepth 100000 in
set_option maxHeartbeats 1000000 in
theorem plus_2_1 (w : World) : Calls Try.prog 80 #[.string ⟨#[50]⟩, .string ⟨#[49]⟩] w fun e w' => e = .returned (.string ⟨#[51]⟩) ∧ Kept w w' := by
  have hm := mk1
  have hcv := cv1 w 51 51 rfl
  have hb0a : ((⟨#[50]⟩ : ByteArray)[0]).toNat = 50 := rfl
  have hb0b : ((⟨#[49]⟩ : ByteArray)[0]).toNat = 49 := rfl
  go_enter Try.func80, Try.ntmps80
  go_wp2_with fail
  refine wp_loop_rounds 2 ?_
  rw [rounds_succ]
  go_wp2
  rw [rounds_succ]
  go_wp2
  go_ret
  exact ⟨rfl, (Kept.refl w).alloc _⟩
set_option maxRecDepth 100000 in
set_option maxHeartbeats 1000000 in
theorem plus_1_3 (w : World) : Calls Try.prog 80 #[.string ⟨#[49]⟩, .string ⟨#[51]⟩] w fun e w' => e = .returned (.string ⟨#[52]⟩) ∧ Kept w w' := by
  have hm := mk1
  have hcv := cv1 w 52 52 rfl
  have hb0a : ((⟨#[49]⟩ : ByteArray)[0]).toNat = 49 := rfl
  have hb0b : ((⟨#[51]⟩ : ByteArray)[0]).toNat = 51 := rfl
  go_enter Try.func80, Try.ntmps80
  go_wp2_with fail
  refine wp_loop_rounds 2 ?_
  rw [rounds_succ]
  go_wp2
  rw [rounds_succ]
  go_wp2
  go_ret
  exact ⟨rfl, (Kept.refl w).alloc _⟩
set_option maxRecDepth 100000 in
set_option maxHeartbeats 1000000 in
theorem plus_4_1 (w : World) : Calls Try.prog 80 #[.string ⟨#[52]⟩, .string ⟨#[49]⟩] w fun e w' => e = .returned (.string ⟨#[53]⟩) ∧ Kept w w' := by
  have hm := mk1
  have hcv := cv1 w 53 53 rfl
  have hb0a : ((⟨#[52]⟩ : ByteArray)[0]).toNat = 52 := rfl
  have hb0b : ((⟨#[49]⟩ : ByteArray)[0]).toNat = 49 := rfl
  go_enter Try.func80, Try.ntmps80
  go_wp2_with fail
  refine wp_loop_rounds 2 ?_
  rw [rounds_succ]
  go_wp2
  rw [rounds_succ]
  go_wp2
  go_ret
  exact ⟨rfl, (Kept.refl w).alloc _⟩
set_option maxRecDepth 100000 in
set_option maxHeartbeats 1000000 in
theorem plus_3_1 (w : World) : Calls Try.prog 80 #[.string ⟨#[51]⟩, .string ⟨#[49]⟩] w fun e w' => e = .returned (.string ⟨#[52]⟩) ∧ Kept w w' := by
  have hm := mk1
  have hcv := cv1 w 52 52 rfl
  have hb0a : ((⟨#[51]⟩ : ByteArray)[0]).toNat = 51 := rfl
  have hb0b : ((⟨#[49]⟩ : ByteArray)[0]).toNat = 49 := rfl
  go_enter Try.func80, Try.ntmps80
  go_wp2_with fail
  refine wp_loop_rounds 2 ?_
  rw [rounds_succ]
  go_wp2
  rw [rounds_succ]
  go_wp2
  go_ret
  exact ⟨rfl, (Kept.refl w).alloc _⟩
set_option maxRecDepth 100000 in
set_option maxHeartbeats 1000000 in
theorem plus_5_5 (w : World) : Calls Try.prog 80 #[.string ⟨#[53]⟩, .string ⟨#[53]⟩] w fun e w' => e = .returned (.string ⟨#[49, 48]⟩) ∧ Kept w w' := by
  have hm := mk1
  have hcv := cv1 w 48 48 rfl
  have hb0a : ((⟨#[53]⟩ : ByteArray)[0]).toNat = 53 := rfl
  go_enter Try.func80, Try.ntmps80
  go_wp2_with fail
  refine wp_loop_rounds 2 ?_
  rw [rounds_succ]
  go_wp2
  rw [rounds_succ]
  go_wp2
  go_ret
  exact ⟨rfl, (Kept.refl w).alloc _⟩
set_option maxRecDepth 100000 in
set_option maxHeartbeats 1000000 in
theorem plus_10_3 (w : World) : Calls Try.prog 80 #[.string ⟨#[49, 48]⟩, .string ⟨#[51]⟩] w fun e w' => e = .returned (.string ⟨#[49, 51]⟩) ∧ Kept w w' := by
  have hm := mk2
  have hcv := cv2 w 49 51 49 51 rfl rfl
  have hb0a : ((⟨#[49, 48]⟩ : ByteArray)[0]).toNat = 49 := rfl
  have hb1a : ((⟨#[49, 48]⟩ : ByteArray)[1]).toNat = 48 := rfl
  have hb0b : ((⟨#[51]⟩ : ByteArray)[0]).toNat = 51 := rfl
  go_enter Try.func80, Try.ntmps80
  go_wp2_with fail
  refine wp_loop_rounds 3 ?_
  rw [rounds_succ]
  go_wp2
  rw [rounds_succ]
  go_wp2
  rw [rounds_succ]
  go_wp2
  go_ret
  exact ⟨rfl, (Kept.refl w).alloc _⟩
end Go.Proofs.Ytomnjcjipdnnfaa
