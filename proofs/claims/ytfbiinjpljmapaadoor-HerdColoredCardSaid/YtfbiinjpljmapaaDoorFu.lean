/-
  How an argument of 64 bits reads.
-/
import Derived.Test.YtfbiinjpljmapaaDoorFr
namespace Go.Proofs.YtfbiinjpljmapaaDoor
open Go.ChangeShapes Go.WideShapes Go.ChangeAt Go.RowKit Go.Deep Go.Joins Go.ChangeMaps

theorem u64_nat {z : Int} (h : (Lit.int .u64 z).wf = true) : ∃ n : Nat, z = (n : Int) ∧ n < 18446744073709551616 := by
  have hb := bounds_u64 h
  exact ⟨z.toNat, by omega, by omega⟩
section
variable {H : Type} {enc : TypeId × Value → H}
set_option maxRecDepth 100000 in
theorem u64_arg {w : World} {r : Go.Reach} {b0 : Nat} {v : Value} {d : DataW H} {p : List MemPlace} (hv : Value.okWide Tryd.prog w r b0 46 v) (h : DataW.Trod enc Tryd.prog w 0 (fun _ => true) true 46 v d p) : ∃ n : Nat, v = .int .u64 n ∧ n < 18446744073709551616 := by
  obtain ⟨z, rfl, _, _, wz⟩ := open_int Tryd.underlying46 hv h
  obtain ⟨n, rfl, hn⟩ := u64_nat wz
  exact ⟨n, rfl, hn⟩
end
end Go.Proofs.YtfbiinjpljmapaaDoor
