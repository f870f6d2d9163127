/-
  How an argument of the laws reads: a number of two bytes.
-/
import Derived.Test.YtomnjcjipdnnfabFg
namespace Go.Proofs.Ytomnjcjipdnnfab
open Go.ChangeShapes Go.WideShapes Go.ChangeAt Go.RowKit Go.Deep Go.Joins

theorem u16_nat {z : Int} (h : (Lit.int .u16 z).wf = true) : ∃ n : Nat, z = (n : Int) ∧ n < 65536 := by
  have hb := bounds_u16 h
  exact ⟨z.toNat, by omega, by omega⟩
set_option maxRecDepth 100000 in
theorem u16_arg {H : Type} {enc : TypeId × Value → H} {w : World} {r : Go.Reach} {b0 : Nat} {v : Value} {d : DataW H} {p : List MemPlace} (hv : Value.okWide Try.prog w r b0 32 v) (h : DataW.Trod enc Try.prog w 0 (fun _ => true) true 32 v d p) : ∃ n : Nat, v = .int .u16 n ∧ n < 65536 := by
  obtain ⟨z, rfl, _, _, wz⟩ := open_int Try.underlying32 hv h
  obtain ⟨n, rfl, hn⟩ := u16_nat wz
  exact ⟨n, rfl, hn⟩
end Go.Proofs.Ytomnjcjipdnnfab
