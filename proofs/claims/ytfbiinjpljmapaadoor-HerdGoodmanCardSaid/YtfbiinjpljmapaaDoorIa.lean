/-
  The library's Cut of a weight at its stroke.
-/
import Derived.Test.YtfbiinjpljmapaaDoorSf
import Derived.Test.YtfbiinjpljmapaaDoorHn
import Derived.RegionTactic
import Derived.BigRegion
namespace Go.Proofs.YtfbiinjpljmapaaDoor
open Go.RowKit Go.Deep Go.Shelf

/-- a weight of one part in d -/
def oneS (d : Nat) : ByteArray := ⟨#[49, 47, UInt8.ofNat (48 + d)]⟩
theorem oneS_size (d : Nat) : (oneS d).size = 3 := rfl
theorem ib_one (d : Nat) : Lib.indexByte (oneS d).data.toList ((47 : Int).toNat.toUInt8) = 1 := rfl
theorem Index_one (w : World) (d : Nat) : Calls Tryd.prog 94 #[.string (oneS d), .string ⟨#[47]⟩] w fun e w' => e = .returned (.int .i64 1) ∧ w = w' := by
  have IB := Lib.hid (fun W => Any.stringslite_IndexByte Tryd.lays217 (oneS d) 47 W)
  rw [ib_one] at IB
  have hs : (oneS d).size = 3 := rfl
  have hne : ([47] == (oneS d).toList) = false := by rw [Lib.toList_data]; rfl
  have h47 : ((⟨#[47]⟩ : ByteArray)[0]'(by decide)).toNat = 47 := rfl
  have h1 : (⟨#[47]⟩ : ByteArray).size = 1 := rfl
  generalize oneS d = s at *
  go_enter Tryd.func94, Tryd.ntmps94
  go_wp2_with (first | (go_at_call 98; refine (IB.out _).mono ?_; rintro e w1 ⟨rfl, rfl⟩))
  go_ret
  exact ⟨rfl, rfl⟩
theorem one_left (d : Nat) : (oneS d).extract 0 1 = digS 1 := rfl
theorem one_right (d : Nat) : (oneS d).extract 2 3 = digS d := rfl
set_option maxRecDepth 100000 in
set_option maxHeartbeats 4000000 in
theorem liteCut_one (w : World) (d : Nat) : Calls Tryd.prog 91 #[.string (oneS d), .string ⟨#[47]⟩] w fun e w' => e = .returned (.tuple #[.string (digS 1), .string (digS d), .bool true]) ∧ Quiet w w' := by
  have IX := Lib.hid (fun W => Index_one W d)
  have hs : (oneS d).size = 3 := rfl
  have h1 : (⟨#[47]⟩ : ByteArray).size = 1 := rfl
  have hl := one_left d
  have hr := one_right d
  rw [← hl, ← hr]
  clear hl hr
  generalize oneS d = s at *
  go_enter Tryd.func91, Tryd.ntmps91
  go_wp2_with (first | (go_at_call 94; refine (IX.out _).mono ?_; rintro e w1 ⟨rfl, rfl⟩))
  go_quiet (fail)
  go_wp2_with fail
  go_ret3
  exact ⟨rfl, (Quiet.refl _).drewN _⟩
theorem Cut_one (w : World) (d : Nat) : Calls Tryd.prog 83 #[.string (oneS d), .string ⟨#[47]⟩] w fun e w' => e = .returned (.tuple #[.string (digS 1), .string (digS d), .bool true]) ∧ Quiet w w' := by
  have LC := Lib.hid (fun W => liteCut_one W d)
  go_enter Tryd.func83, Tryd.ntmps83
  go_wp2_with (first | (go_at_call 91; refine (LC.out _).mono ?_; rintro e w1 ⟨rfl, hq⟩))
  go_ret3
  exact ⟨rfl, hq⟩
end Go.Proofs.YtfbiinjpljmapaaDoor
