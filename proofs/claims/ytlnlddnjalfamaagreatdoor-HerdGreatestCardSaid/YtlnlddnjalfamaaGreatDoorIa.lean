/-
  The library's Cut of a weight at its stroke.
  Package herd: weights of one part in d are read.
-/
import Derived.Test.YtlnlddnjalfamaaGreatDoorSf
import Derived.Test.YtlnlddnjalfamaaGreatDoorHn
import Derived.RegionTactic
import Derived.BigRegion
import Derived.Test.YtlnlddnjalfamaaGreatDoorSg
import Derived.Test.YtlnlddnjalfamaaGreatDoorHc
namespace Go.Proofs.YtlnlddnjalfamaaGreatDoor
open Go.RowKit Go.Deep Go.Shelf

/-- a weight of one part in d -/
def oneS (d : Nat) : ByteArray := ⟨#[49, 47, UInt8.ofNat (48 + d)]⟩
theorem oneS_size (d : Nat) : (oneS d).size = 3 := rfl
theorem ib_one (d : Nat) : Lib.indexByte (oneS d).data.toList ((47 : Int).toNat.toUInt8) = 1 := rfl
theorem Index_one (w : World) (d : Nat) : Calls Tryz.prog 119 #[.string (oneS d), .string ⟨#[47]⟩] w fun e w' => e = .returned (.int .i64 1) ∧ w = w' := by
  have IB := Lib.hid (fun W => Any.stringslite_IndexByte Tryz.lays217 (oneS d) 47 W)
  rw [ib_one] at IB
  have hs : (oneS d).size = 3 := rfl
  have hne : ([47] == (oneS d).toList) = false := by rw [Lib.toList_data]; rfl
  have h47 : ((⟨#[47]⟩ : ByteArray)[0]'(by decide)).toNat = 47 := rfl
  have h1 : (⟨#[47]⟩ : ByteArray).size = 1 := rfl
  generalize oneS d = s at *
  go_enter Tryz.func119, Tryz.ntmps119
  go_wp2_with (first | (go_at_call 123; refine (IB.out _).mono ?_; rintro e w1 ⟨rfl, rfl⟩))
  go_ret
  exact ⟨rfl, rfl⟩
theorem one_left (d : Nat) : (oneS d).extract 0 1 = digS 1 := rfl
theorem one_right (d : Nat) : (oneS d).extract 2 3 = digS d := rfl
set_option maxRecDepth 100000 in
set_option maxHeartbeats 4000000 in
theorem liteCut_one (w : World) (d : Nat) : Calls Tryz.prog 116 #[.string (oneS d), .string ⟨#[47]⟩] w fun e w' => e = .returned (.tuple #[.string (digS 1), .string (digS d), .bool true]) ∧ Quiet w w' := by
  have IX := Lib.hid (fun W => Index_one W d)
  have hs : (oneS d).size = 3 := rfl
  have h1 : (⟨#[47]⟩ : ByteArray).size = 1 := rfl
  have hl := one_left d
  have hr := one_right d
  rw [← hl, ← hr]
  clear hl hr
  generalize oneS d = s at *
  go_enter Tryz.func116, Tryz.ntmps116
  go_wp2_with (first | (go_at_call 119; refine (IX.out _).mono ?_; rintro e w1 ⟨rfl, rfl⟩))
  go_quiet (fail)
  go_wp2_with fail
  go_ret3
  exact ⟨rfl, (Quiet.refl _).drewN _⟩
theorem Cut_one (w : World) (d : Nat) : Calls Tryz.prog 103 #[.string (oneS d), .string ⟨#[47]⟩] w fun e w' => e = .returned (.tuple #[.string (digS 1), .string (digS d), .bool true]) ∧ Quiet w w' := by
  have LC := Lib.hid (fun W => liteCut_one W d)
  go_enter Tryz.func103, Tryz.ntmps103
  go_wp2_with (first | (go_at_call 116; refine (LC.out _).mono ?_; rintro e w1 ⟨rfl, hq⟩))
  go_ret3
  exact ⟨rfl, hq⟩
end Go.Proofs.YtlnlddnjalfamaaGreatDoor
namespace Go.Proofs.YtlnlddnjalfamaaGreatDoor
open Go.RowKit Go.Deep Go.Shelf

theorem parse_digit {d : Nat} (h0 : 1 ≤ d) (h1 : d < 10) : Lib.parseUintB 64 (digS d).data.toList = .ok d := by
  have : d = 1 ∨ d = 2 ∨ d = 3 ∨ d = 4 ∨ d = 5 ∨ d = 6 ∨ d = 7 ∨ d = 8 ∨ d = 9 := by omega
  rcases this with rfl | rfl | rfl | rfl | rfl | rfl | rfl | rfl | rfl <;> decide +kernel
theorem ParseUint_digit (w : World) {d : Nat} (h0 : 1 ≤ d) (h1 : d < 10) : Calls Tryz.prog 117 #[.string (digS d), .int .i64 10, .int .i64 64] w fun e w' => e = .returned (.tuple #[.int .u64 d, .nilIface]) ∧ Kept w w' := by
  refine (Any.strconv_ParseUint_10_at64_ok Tryz.laysPu14 (digS d) (by show 1 ≤ _; decide) d (parse_digit h0 h1) w).mono ?_
  rintro e w' ⟨rfl, h | h⟩
  · exact ⟨rfl, by rw [h]; exact Kept.refl _⟩
  · exact ⟨rfl, by rw [h]; exact kept_bytes _ _ _⟩
set_option maxRecDepth 100000 in
set_option maxHeartbeats 4000000 in
theorem decimalOf_digit (w : World) {d : Nat} (h0 : 1 ≤ d) (h1 : d < 10) : Calls Tryz.prog 104 #[.string (digS d)] w fun e w' => e = .returned (.tuple #[.int .u64 d, .bool true]) ∧ Kept w w' := by
  have PU := Lib.hid (fun W => ParseUint_digit W h0 h1)
  have FU := Lib.hid (fun W => FormatUint_digit W d h1)
  have hs : (digS d).size = 1 := rfl
  have hd : (d : Int) < 10 := by omega
  have hee : ((digS d).toList == (digS d).toList) = true := by simp
  generalize digS d = s at *
  go_enter Tryz.func104, Tryz.ntmps104
  go_wp2_with (first
    | (go_at_call 117; refine (PU.out _).mono ?_; rintro e w1 ⟨rfl, hk1⟩)
    | (go_at_call 118; refine (FU.out _).mono ?_; rintro e w2 ⟨rfl, rfl⟩))
  go_ret2
  exact ⟨rfl, hk1⟩
set_option maxRecDepth 100000 in
set_option maxHeartbeats 4000000 in
theorem weightOf_one (w : World) {d : Nat} (h0 : 2 ≤ d) (h1 : d < 10) : Calls Tryz.prog 79 #[.string (oneS d)] w fun e w' => e = .returned (.tuple #[.int .u64 1, .int .u64 d, .bool true]) ∧ Kept w w' := by
  have CU := Lib.hid (fun W => Cut_one W d)
  have D1 := Lib.hid (fun W => decimalOf_digit W (d := 1) (by omega) (by omega))
  have D2 := Lib.hid (fun W => decimalOf_digit W (d := d) (by omega) h1)
  have DV := Lib.hid (fun W => divisor_any W 1 d (by omega) (by omega))
  rw [Nat.gcd_one_right] at DV
  have hd : (d : Int) > 1 := by omega
  have hd2 : (d : Int) < 10 := by omega
  generalize oneS d = s at *
  generalize digS d = t at *
  generalize digS 1 = u at *
  go_enter Tryz.func79, Tryz.ntmps79
  go_wp2_with (first
    | (go_at_call 103; refine (CU.out _).mono ?_; rintro e w1 ⟨rfl, hq1⟩)
    | (go_at_call 104; refine (D1.out _).mono ?_; clear D1; rintro e w2 ⟨rfl, hk2⟩)
    | (go_at_call 104; refine (D2.out _).mono ?_; rintro e w3 ⟨rfl, hk3⟩)
    | (go_at_call 105; refine (DV.out _).mono ?_; rintro e w4 ⟨rfl, hq4⟩))
  go_ret3
  exact ⟨rfl, ((hq1.kept.trans hk2).trans hk3).trans hq4.kept⟩
end Go.Proofs.YtlnlddnjalfamaaGreatDoor
