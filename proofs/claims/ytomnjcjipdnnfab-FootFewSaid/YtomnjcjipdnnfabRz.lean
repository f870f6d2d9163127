/-
  The reference's Far.
-/
import Derived.Test.YtomnjcjipdnnfabA
namespace Go.Proofs.Ytomnjcjipdnnfab
open Go.RowKit Go.Deep

set_option maxRecDepth 100000 in
set_option maxHeartbeats 1000000 in
theorem farR_any (w : World) (x y u v : Int) (hx : pl x) (hy : pl y) (hu : pl u) (hv : pl v) :
    Calls Try.prog 32 #[.agg #[.int .i64 x, .int .i64 y], .agg #[.int .i64 u, .int .i64 v]] w fun e w' => e = .returned (.int .i64 (dist x y u v)) ∧ Kept w w' := by
  have hb := dist_bd hx hy hu hv
  have HB : Hid (dist x y u v = (x - u) * (x - u) + (y - v) * (y - v)) := rfl
  unfold pl at *
  have h1 := sq_le (a := x - u) (c := 2000) (by omega) (by omega)
  have h2 := sq_le (a := y - v) (c := 2000) (by omega) (by omega)
  obtain ⟨p0, p1⟩ := box2 w (.int .i64 x) (.int .i64 y) 38
  obtain ⟨q0, q1⟩ := blk_at (w.alloc (.cells #[.int .i64 x, .int .i64 y] 38)) (.int .i64 u) (.int .i64 v) 38 (w.heap.size + 1) (by simp)
  have hk1 := (Kept.refl (w.alloc (.cells #[.int .i64 x, .int .i64 y] 38))).alloc (.cells #[.int .i64 u, .int .i64 v] 38)
  have hk0 : Kept w ((w.alloc (.cells #[.int .i64 x, .int .i64 y] 38)).alloc (.cells #[.int .i64 u, .int .i64 v] 38)) := ((Kept.refl w).alloc _).alloc _
  have r0 := hk1.cellSome p0
  have r1 := hk1.cellSome p1
  clear p0 p1 hk1
  go_enter Try.func32, Try.ntmps32
  go_wp2_with fail
  go_ret
  exact ⟨ret_int HB.out.symm, hk0⟩
end Go.Proofs.Ytomnjcjipdnnfab
