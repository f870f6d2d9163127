/-
  strconv.FormatUint of a digit.
-/
import Derived.Test.YtfbiinjpljmapaaDoorChecked
import Derived.Test.YtfbiinjpljmapaaDoorRep
import Derived.Outline
import Derived.Lib.Hide
import Derived.Lib.ConvBytes
import Derived.Laws.IdiomStrings
import Derived.Test.YtfbiinjpljmapaaDoorHk
namespace Go.Proofs.YtfbiinjpljmapaaDoor
open Go.RowKit Go.Deep

/-- a digit as a text -/
def digS (i : Nat) : ByteArray := ⟨#[UInt8.ofNat (48 + i)]⟩
set_option maxRecDepth 100000 in
set_option maxHeartbeats 4000000 in
theorem small_digit (w : World) (i : Nat) (hi : i < 10) : Calls Tryd.prog 108 #[.int .i64 i] w fun e w' => e = .returned (.string (digS i)) ∧ w = w' := by
  have h : i = 0 ∨ i = 1 ∨ i = 2 ∨ i = 3 ∨ i = 4 ∨ i = 5 ∨ i = 6 ∨ i = 7 ∨ i = 8 ∨ i = 9 := by omega
  rcases h with rfl | rfl | rfl | rfl | rfl | rfl | rfl | rfl | rfl | rfl
  all_goals
    go_enter Tryd.func108, Tryd.ntmps108
    go_wp2_with fail
    go_ret
    exact ⟨rfl, rfl⟩
set_option maxRecDepth 100000 in
set_option maxHeartbeats 4000000 in
theorem FormatUint_digit (w : World) (i : Nat) (hi : i < 10) : Calls Tryd.prog 93 #[.int .u64 i, .int .i64 10] w fun e w' => e = .returned (.string (digS i)) ∧ w = w' := by
  have SD := Lib.hid (fun W => small_digit W i hi)
  have h1 : (i : Int) < 100 := by omega
  go_enter Tryd.func93, Tryd.ntmps93
  go_wp2_with (first | (go_at_call 108; refine (SD.out _).mono ?_; rintro e w1 ⟨rfl, rfl⟩) | go_in)
  go_ret
  exact ⟨rfl, rfl⟩
theorem kept_bytes (w : World) (e : TypeId) (s : ByteArray) : Kept w (Lib.bytesWorld w e s) :=
  ⟨rfl, rfl, rfl, by rw [Lib.bytesWorld_size]; omega, fun k hk _ => Lib.bytesWorld_at_old w e s k hk⟩
theorem conv_back (w : World) (s : ByteArray) (cap : Nat) : (convert 135 9 (.slice (some ⟨w.heap.size, 0, none⟩) s.size cap)).run Tryd.prog (Lib.bytesWorld w 5 s) = .ok (.string s) (Lib.bytesWorld w 5 s) := by
  have h := run_convert_bytes_back (P := Tryd.prog) (Lib.bytesWorld w 5 s) 135 9 5 ⟨w.heap.size, 0, none⟩ cap s.data.toList Tryd.underlying135 Tryd.underlying5 Tryd.underlying9 (fun j hj => by
    rw [add_at, Nat.zero_add, Lib.bytesWorld_cell w 5 s j (by simpa using hj)]
    rw [show s.data.toList.getD j 0 = s.data.toList[j] from by rw [List.getD_eq_getElem?_getD, List.getElem?_eq_getElem hj]; rfl])
  simpa using h
set_option maxRecDepth 100000 in
set_option maxHeartbeats 4000000 in
theorem text_digit (w : World) (v : Value) (x : Nat) (hx : x < 10) (h : NatAt w v x) : Calls Tryd.prog 89 #[v] w fun e w' => e = .returned (.string (digS x)) ∧ Kept w w' := by
  have hz := Lib.hid (fun W => isZero_any W v x)
  obtain ⟨n, D, ⟨a, cap, rfl, _, _, _, ⟨_, b, o, _, e, ha, hc⟩⟩, hL, hv, hn⟩ := id h
  cases e
  have HZ := Lib.hid (isZero_any w (.slice a n cap) x h)
  have FU := Lib.hid (fun W => FormatUint_digit W x hx)
  by_cases h0 : x = 0
  · subst h0
    go_enter Tryd.func89, Tryd.ntmps89
    go_wp2_with (first | (go_at_call 75; refine HZ.out.mono ?_; rintro e w1 ⟨rfl, rfl⟩))
    go_ret
    exact ⟨rfl, Kept.refl _⟩
  · have hn1 : n = 1 := by
      have h1 : n ≤ 1 := lean_leN hL (by rw [← hv]; omega)
      have h2 : n ≠ 0 := fun e => by subst e; simp [valN] at hv; omega
      omega
    subst hn1
    have hD : D 0 = (x : Int) := by simp [valN] at hv; omega
    obtain rfl := ha (by omega)
    have t0 := hc 0 (by omega)
    simp only [hD, Nat.add_zero] at t0
    have hd : decide ((x : Int) = 0) = false := decide_eq_false (by omega)
    rw [hd] at HZ
    clear hc hL hv h hD ha hz hd
    have C1 := Lib.run_convert_string_bytes (P := Tryd.prog) w 9 135 5 (digS x) Tryd.underlying9 Tryd.underlying135 Tryd.underlying5
    have hS : (digS x).size = 1 := rfl
    have C2 := conv_back w (digS x) (grownCap w (digS x).size 0 5)
    have hkb := kept_bytes w 5 (digS x)
    rw [hS] at C1 C2
    obtain ⟨c, HCC⟩ : ∃ c, Hid (c = grownCap w 1 0 5) := ⟨_, rfl⟩
    rw [← HCC.out] at C1 C2
    clear hS
    generalize digS x = S at *
    generalize Lib.bytesWorld w 5 S = Wb at *
    go_enter Tryd.func89, Tryd.ntmps89
    go_wp2_with (first | (go_at_call 75; refine HZ.out.mono ?_; rintro e w1 ⟨rfl, rfl⟩) | (go_at_call 93; refine (FU.out _).mono ?_; rintro e w1 ⟨rfl, rfl⟩))
    go_loopg [4, 5] 0 (fun q s4 s5 wr => q = 0 ∧ s4 = .slice (some ⟨w.heap.size, 0, none⟩) 1 c ∧ s5 = .int .i64 (-1) ∧ Wb = wr)
    case atStart => exact ⟨rfl, rfl, rfl, rfl⟩
    case round =>
      obtain ⟨rfl, rfl, rfl, rfl⟩ := hrel
      go_wp2_with fail
      go_ret
      exact ⟨rfl, hkb⟩
end Go.Proofs.YtfbiinjpljmapaaDoor
