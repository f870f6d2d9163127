/-
  strconv.FormatUint of a digit.
  Package herd: quotient, where what remains are digits.
-/
import Derived.Test.YtlnlddnjalfamaaGreatDoorChecked
import Derived.Test.YtlnlddnjalfamaaGreatDoorRep
import Derived.Outline
import Derived.Lib.Hide
import Derived.Lib.ConvBytes
import Derived.Laws.IdiomStrings
import Derived.Test.YtlnlddnjalfamaaGreatDoorHk
namespace Go.Proofs.YtlnlddnjalfamaaGreatDoor
open Go.RowKit Go.Deep

/-- a digit as a text -/
def digS (i : Nat) : ByteArray := ⟨#[UInt8.ofNat (48 + i)]⟩
set_option maxRecDepth 100000 in
set_option maxHeartbeats 4000000 in
theorem small_digit (w : World) (i : Nat) (hi : i < 10) : Calls Tryz.prog 133 #[.int .i64 i] w fun e w' => e = .returned (.string (digS i)) ∧ w = w' := by
  have h : i = 0 ∨ i = 1 ∨ i = 2 ∨ i = 3 ∨ i = 4 ∨ i = 5 ∨ i = 6 ∨ i = 7 ∨ i = 8 ∨ i = 9 := by omega
  rcases h with rfl | rfl | rfl | rfl | rfl | rfl | rfl | rfl | rfl | rfl
  all_goals
    go_enter Tryz.func133, Tryz.ntmps133
    go_wp2_with fail
    go_ret
    exact ⟨rfl, rfl⟩
/-- a number below 100 as a text -/
def twoS (i : Nat) : ByteArray := if i < 10 then digS i else ⟨#[UInt8.ofNat (48 + i / 10), UInt8.ofNat (48 + i % 10)]⟩
theorem twoS_digit {i : Nat} (h : i < 10) : twoS i = digS i := if_pos h
theorem twoS_size (i : Nat) : (twoS i).size ≤ 2 := by
  unfold twoS
  split
  · exact (by decide : 1 ≤ 2)
  · exact (by decide : 2 ≤ 2)
def smalls : ByteArray := { data := (([48, 48, 48, 49, 48, 50, 48, 51, 48, 52, 48, 53, 48, 54, 48, 55, 48, 56, 48, 57, 49, 48, 49, 49, 49, 50, 49, 51, 49, 52, 49, 53, 49, 54, 49, 55, 49, 56, 49, 57, 50, 48, 50, 49, 50, 50, 50, 51, 50, 52].append [50, 53, 50, 54, 50, 55, 50, 56, 50, 57, 51, 48, 51, 49, 51, 50, 51, 51, 51, 52, 51, 53, 51, 54, 51, 55, 51, 56, 51, 57, 52, 48, 52, 49, 52, 50, 52, 51, 52, 52, 52, 53, 52, 54, 52, 55, 52, 56, 52, 57]).append ([53, 48, 53, 49, 53, 50, 53, 51, 53, 52, 53, 53, 53, 54, 53, 55, 53, 56, 53, 57, 54, 48, 54, 49, 54, 50, 54, 51, 54, 52, 54, 53, 54, 54, 54, 55, 54, 56, 54, 57, 55, 48, 55, 49, 55, 50, 55, 51, 55, 52].append [55, 53, 55, 54, 55, 55, 55, 56, 55, 57, 56, 48, 56, 49, 56, 50, 56, 51, 56, 52, 56, 53, 56, 54, 56, 55, 56, 56, 56, 57, 57, 48, 57, 49, 57, 50, 57, 51, 57, 52, 57, 53, 57, 54, 57, 55, 57, 56, 57, 57])).toArray }
theorem smalls_size : smalls.size = 200 := by decide +kernel
theorem smalls_two : ∀ i : Fin 100, 10 ≤ i.val → smalls.extract (i.val * 2) (i.val * 2 + 2) = twoS i.val := by decide +kernel
set_option maxRecDepth 100000 in
set_option maxHeartbeats 4000000 in
theorem small_two (w : World) (i : Nat) (hi : i < 100) : Calls Tryz.prog 133 #[.int .i64 i] w fun e w' => e = .returned (.string (twoS i)) ∧ w = w' := by
  by_cases h : i < 10
  · rw [twoS_digit h]
    exact small_digit w i h
  · have hx := Lib.hid (smalls_two ⟨i, hi⟩ (by show 10 ≤ i; omega))
    have h1 : ¬ (i : Int) < 10 := by omega
    have e1 : ((smalls.size : Nat) : Int) = 200 := by rw [smalls_size]; rfl
    have e2 : (i : Int) * 2 ≤ (i : Int) * 2 + 2 := by omega
    have e3 : (i : Int) * 2 + 2 ≤ 200 := by omega
    have e4 : 0 ≤ (i : Int) * 2 := by omega
    have e5 : 0 ≤ (i : Int) * 2 + 2 := by omega
    have t1 : ((i : Int) * 2).toNat = i * 2 := by omega
    have t2 : ((i : Int) * 2 + 2).toNat = i * 2 + 2 := by omega
    dsimp only at hx
    go_enter Tryz.func133, Tryz.ntmps133
    go_wp2_with fail
    go_ret
    exact ⟨by rw [← hx.out]; rfl, rfl⟩
set_option maxRecDepth 100000 in
set_option maxHeartbeats 4000000 in
theorem FormatUint_two (w : World) (i : Nat) (hi : i < 100) : Calls Tryz.prog 118 #[.int .u64 i, .int .i64 10] w fun e w' => e = .returned (.string (twoS i)) ∧ w = w' := by
  have SD := Lib.hid (fun W => small_two W i hi)
  have h1 : (i : Int) < 100 := by omega
  go_enter Tryz.func118, Tryz.ntmps118
  go_wp2_with (first | (go_at_call 133; refine (SD.out _).mono ?_; rintro e w1 ⟨rfl, rfl⟩) | go_in)
  go_ret
  exact ⟨rfl, rfl⟩
set_option maxRecDepth 100000 in
set_option maxHeartbeats 4000000 in
theorem FormatUint_digit (w : World) (i : Nat) (hi : i < 10) : Calls Tryz.prog 118 #[.int .u64 i, .int .i64 10] w fun e w' => e = .returned (.string (digS i)) ∧ w = w' := by
  have SD := Lib.hid (fun W => small_digit W i hi)
  have h1 : (i : Int) < 100 := by omega
  go_enter Tryz.func118, Tryz.ntmps118
  go_wp2_with (first | (go_at_call 133; refine (SD.out _).mono ?_; rintro e w1 ⟨rfl, rfl⟩) | go_in)
  go_ret
  exact ⟨rfl, rfl⟩
theorem kept_bytes (w : World) (e : TypeId) (s : ByteArray) : Kept w (Lib.bytesWorld w e s) :=
  ⟨rfl, rfl, rfl, by rw [Lib.bytesWorld_size]; omega, fun k hk _ => Lib.bytesWorld_at_old w e s k hk⟩
theorem conv_back (w : World) (s : ByteArray) (cap : Nat) : (convert 70 9 (.slice (some ⟨w.heap.size, 0, none⟩) s.size cap)).run Tryz.prog (Lib.bytesWorld w 5 s) = .ok (.string s) (Lib.bytesWorld w 5 s) := by
  have h := run_convert_bytes_back (P := Tryz.prog) (Lib.bytesWorld w 5 s) 70 9 5 ⟨w.heap.size, 0, none⟩ cap s.data.toList Tryz.underlying70 Tryz.underlying5 Tryz.underlying9 (fun j hj => by
    rw [add_at, Nat.zero_add, Lib.bytesWorld_cell w 5 s j (by simpa using hj)]
    rw [show s.data.toList.getD j 0 = s.data.toList[j] from by rw [List.getD_eq_getElem?_getD, List.getElem?_eq_getElem hj]; rfl])
  simpa using h
set_option maxRecDepth 100000 in
set_option maxHeartbeats 4000000 in
theorem text_two (w : World) (v : Value) (x : Nat) (hx : x < 100) (h : NatAt w v x) : Calls Tryz.prog 108 #[v] w fun e w' => e = .returned (.string (twoS x)) ∧ Kept w w' := by
  have hz := Lib.hid (fun W => isZero_any W v x)
  obtain ⟨n, D, ⟨a, cap, rfl, _, _, _, ⟨_, b, o, _, e, ha, hc⟩⟩, hL, hv, hn⟩ := id h
  cases e
  have HZ := Lib.hid (isZero_any w (.slice a n cap) x h)
  have FU := Lib.hid (fun W => FormatUint_two W x hx)
  by_cases h0 : x = 0
  · subst h0
    go_enter Tryz.func108, Tryz.ntmps108
    go_wp2_with (first | (go_at_call 88; refine HZ.out.mono ?_; rintro e w1 ⟨rfl, rfl⟩))
    go_ret
    exact ⟨rfl, Kept.refl _⟩
  · have hn1 : n = 1 := by
      have h1 : n ≤ 1 := lean_leN hL (by rw [← hv]; omega)
      have h2 : n ≠ 0 := fun e => by subst e; simp [valN] at hv; omega
      omega
    subst hn1
    have hD : D 0 = (x : Int) := by simp [valN] at hv; omega
    obtain rfl := ha (by omega)
    have t0 := hc 0 (by omega)
    simp only [hD, Nat.add_zero] at t0
    have hd : decide ((x : Int) = 0) = false := decide_eq_false (by omega)
    rw [hd] at HZ
    clear hc hL hv h hD ha hz hd
    have C1 := Lib.run_convert_string_bytes (P := Tryz.prog) w 9 70 5 (twoS x) Tryz.underlying9 Tryz.underlying70 Tryz.underlying5
    obtain ⟨sz, hS⟩ : ∃ sz, (twoS x).size = sz := ⟨_, rfl⟩
    have C2 := conv_back w (twoS x) (grownCap w (twoS x).size 0 5)
    have hkb := kept_bytes w 5 (twoS x)
    rw [hS] at C1 C2
    obtain ⟨c, HCC⟩ : ∃ c, Hid (c = grownCap w sz 0 5) := ⟨_, rfl⟩
    rw [← HCC.out] at C1 C2
    clear hS
    generalize twoS x = S at *
    generalize Lib.bytesWorld w 5 S = Wb at *
    go_enter Tryz.func108, Tryz.ntmps108
    go_wp2_with (first | (go_at_call 88; refine HZ.out.mono ?_; rintro e w1 ⟨rfl, rfl⟩) | (go_at_call 118; refine (FU.out _).mono ?_; rintro e w1 ⟨rfl, rfl⟩))
    go_loopg [4, 5] 0 (fun q s4 s5 wr => q = 0 ∧ s4 = .slice (some ⟨w.heap.size, 0, none⟩) sz c ∧ s5 = .int .i64 (-1) ∧ Wb = wr)
    case atStart => exact ⟨rfl, rfl, rfl, rfl⟩
    case round =>
      obtain ⟨rfl, rfl, rfl, rfl⟩ := hrel
      go_wp2_with fail
      go_ret
      exact ⟨rfl, hkb⟩
end Go.Proofs.YtlnlddnjalfamaaGreatDoor
namespace Go.Proofs.YtlnlddnjalfamaaGreatDoor
open Go.RowKit Go.Deep

theorem ret_str {a b : ByteArray} (h : a = b) : Ending.returned (.string a) = .returned (.string b) := by rw [h]
theorem two_ones : ∀ b : Fin 100, b.val ≠ 1 → ((twoS b.val).data.toList == [49]) = false := by decide +kernel
theorem twoS_one {b : Nat} (hb : b < 100) (h : b ≠ 1) : ((twoS b).toList == [49]) = false := by
  rw [ByteArray.toList_eq]
  exact two_ones ⟨b, hb⟩ h
/-- what remains of a number and of the product of the first factors -/
def qTB (x : Nat) (F : Nat → Nat) : Nat → Nat × Nat
  | 0 => (x, 1)
  | k + 1 => ((qTB x F k).1 / Nat.gcd ((qTB x F k).1 % F k) (F k), (qTB x F k).2 * (F k / Nat.gcd ((qTB x F k).1 % F k) (F k)))
/-- a fraction of digits as a text -/
def fracS (t b : Nat) : ByteArray := if b = 1 then twoS t else twoS t ++ (⟨#[47]⟩ ++ twoS b)
set_option maxRecDepth 100000 in
set_option maxHeartbeats 8000000 in
theorem quotient_digit (w : World) (vt vf : Value) (x k : Nat) (F : Nat → Nat) (hx : NatAt w vt x) (hv : CellsAt w vf k (fun i => .int .u64 ((F i : Nat) : Int))) (hF : ∀ i, i < k → 0 < F i ∧ F i ≤ 1000000000000) (hk : k ≤ 1000)
    (hB : ∀ j, j ≤ k → (((qTB x F j).2 : Nat) : Int) < bigU) (h1 : (qTB x F k).1 < 100) (h2 : (qTB x F k).2 < 100) :
    Calls Tryz.prog 86 #[vt, vf] w fun e w' => e = .returned (.string (fracS (qTB x F k).1 (qTB x F k).2)) ∧ Kept w w' := by
  obtain ⟨a, b, o, cap, rfl, ha, hc⟩ := hv
  have HC := Lib.hid hc
  have HF := Lib.hid hF
  have HB := Lib.hid hB
  have SM1 := Lib.hid (small_any w 1 (by decide))
  clear hc hF hB
  obtain ⟨T, HTK⟩ : ∃ T, Hid (T = (qTB x F k).1) := ⟨_, rfl⟩
  obtain ⟨Bo, HBK⟩ : ∃ Bo, Hid (Bo = (qTB x F k).2) := ⟨_, rfl⟩
  rw [← HTK.out] at h1 ⊢
  rw [← HBK.out] at h2 ⊢
  have TX := Lib.hid (fun W v h => text_two W v T h1 h)
  have TB := Lib.hid (fun W v h => text_two W v Bo h2 h)
  have HB2 := Lib.hid h2
  clear h1 h2
  go_enter Tryz.func86, Tryz.ntmps86
  go_wp2_with (first | (go_at_call 82; refine SM1.out.mono ?_; rintro e w1 ⟨v1, rfl, hN1, hK1⟩))
  clear SM1
  have hx1 := hx.kept hK1
  go_loopg [0, 5, 16] k (fun g s0 s5 s16 wr => ∃ j : Nat, j ≤ k ∧ g = k - j ∧ s16 = .int .i64 j ∧ Kept w wr ∧ NatAt wr s0 ((qTB x F j).1 : Nat) ∧ NatAt wr s5 ((qTB x F j).2 : Nat))
  case atStart => exact ⟨0, Nat.zero_le _, rfl, rfl, hK1, hx1, hN1⟩
  case round =>
    clear hK1 hN1 hx1 hx
    obtain ⟨j, hj, rfl, rfl, hK, hT, hBt⟩ := hrel
    by_cases hlt : j < k
    · obtain rfl := ha (by omega)
      have t0 := hK.cellSome (HC.out j hlt)
      have s1 : (j : Int) < (k : Int) := by omega
      have s2 : (0 : Int) ≤ (j : Int) := by omega
      obtain ⟨hf0, hf1⟩ := HF.out j hlt
      have hb := Lib.hid (HB.out (j + 1) (by omega))
      have hn := Lib.hid (show qTB x F (j + 1) = ((qTB x F j).1 / Nat.gcd ((qTB x F j).1 % F j) (F j), (qTB x F j).2 * (F j / Nat.gcd ((qTB x F j).1 % F j) (F j))) from rfl)
      obtain ⟨f, HFF⟩ : ∃ f, Hid (f = F j) := ⟨_, rfl⟩
      obtain ⟨T, HT⟩ : ∃ T, Hid (T = (qTB x F j).1) := ⟨_, rfl⟩
      obtain ⟨Bo, HBo⟩ : ∃ Bo, Hid (Bo = (qTB x F j).2) := ⟨_, rfl⟩
      rw [← HFF.out] at t0 hf0 hf1 hn
      rw [← HT.out] at hT hn
      rw [← HBo.out] at hBt hn
      rw [hn.out] at hb
      have hg0 : 0 < Nat.gcd (T % f) f := Nat.gcd_pos_of_pos_right _ hf0
      have hg1 : Nat.gcd (T % f) f ≤ f := Nat.gcd_le_right _ hf0
      have hm : T % f < f := Nat.mod_lt _ hf0
      obtain ⟨r, HRR⟩ : ∃ r, Hid (r = T % f) := ⟨_, rfl⟩
      rw [← HRR.out] at hg0 hg1 hm hn hb
      have ev : (T : Int) % (f : Int) = (r : Int) := by rw [HRR.out]; exact (Int.natCast_emod T f).symm
      have OV := Lib.hid (fun W v h => over_any W v T f h hf0 hf1)
      rw [ev] at OV
      have DV := Lib.hid (fun W => divisor_any W f r (by omega) (by omega))
      obtain ⟨g, HG⟩ : ∃ g, Hid (g = Nat.gcd r f) := ⟨_, rfl⟩
      rw [← HG.out] at hg0 hg1 hn hb DV
      have ev2 : (T : Int) / (g : Int) = ((T / g : Nat) : Int) := (Int.natCast_ediv T g).symm
      have OV2 := Lib.hid (fun W v h => over_any W v T g h hg0 (by omega))
      rw [ev2] at OV2
      have hq : f / g ≤ f := Nat.div_le_self _ _
      obtain ⟨fq, HFQ⟩ : ∃ fq, Hid (fq = f / g) := ⟨_, rfl⟩
      have e1 : Int.tdiv (f : Int) (g : Int) = (fq : Int) := by rw [HFQ.out]; exact (Int.ofNat_tdiv f g).symm
      rw [← HFQ.out] at hq hn hb
      have w1 : IntKind.u64.wrap (fq : Int) = fq := IntWalk.u64_in _ (by omega)
      have g0 : ¬ (g : Int) = 0 := by omega
      have SM := Lib.hid (fun W => small_any W fq (by omega))
      have TM := Lib.hid (fun W va vb h1 h2 => times_any W va vb Bo fq h1 h2 (by have := hb.out; simpa using this))
      clear HFF HT HBo HRR HG HFQ ev ev2 hg1 hm hq
      go_wp2_with (first | (go_at_call 107; refine (OV.out _ _ hT).mono ?_; clear OV; rintro e w2 ⟨v2, rfl, hN2, hK2⟩) | (go_at_call 105; refine (DV.out _).mono ?_; rintro e w3 ⟨rfl, hQ3⟩) | (go_at_call 107; refine (OV2.out _ _ ((hT.kept hK2).kept hQ3.kept)).mono ?_; rintro e w4 ⟨v4, rfl, hN4, hK4⟩) | (go_at_call 82; refine (SM.out _).mono ?_; rintro e w5 ⟨v5, rfl, hN5, hK5⟩) | (go_at_call 81; refine (TM.out _ _ _ ((((hBt.kept hK2).kept hQ3.kept).kept hK4).kept hK5) hN5).mono ?_; rintro e w6 ⟨v6, rfl, hN6, hK6⟩))
      go_roundg (k - (j + 1))
      case measure => omega
      case rel => exact ⟨j + 1, by omega, rfl, by go_num, ((((hK.trans hK2).trans hQ3.kept).trans hK4).trans hK5).trans hK6, by rw [hn.out]; exact (hN4.kept hK5).kept hK6, by rw [hn.out]; simpa using hN6⟩
    · obtain rfl : j = k := by omega
      rw [← HTK.out] at hT
      rw [← HBK.out] at hBt
      by_cases hone : Bo = 1
      · have hfr : Hid (fracS T Bo = twoS T) := by show _ = _; unfold fracS; rw [if_pos hone]
        subst hone
        rw [show twoS 1 = ⟨#[49]⟩ from rfl] at TB
        go_wp2_with (first | (go_at_call 108; refine (TX.out _ _ hT).mono ?_; clear TX; rintro e w2 ⟨rfl, hk2⟩) | (go_at_call 108; refine (TB.out _ _ (hBt.kept hk2)).mono ?_; rintro e w3 ⟨rfl, hk3⟩))
        go_ret
        exact ⟨ret_str hfr.out.symm, (hK.trans hk2).trans hk3⟩
      · have hfr : Hid (fracS T Bo = twoS T ++ (⟨#[47]⟩ ++ twoS Bo)) := by show _ = _; unfold fracS; rw [if_neg hone]
        have hne := twoS_one HB2.out hone
        have z1 := twoS_size T
        have z2 := twoS_size Bo
        generalize twoS T = S1 at *
        generalize twoS Bo = S2 at *
        have q1 : ¬ 9223372036854775807 < 1 + S2.size := by omega
        have q2 : ¬ 9223372036854775807 < S1.size + (1 + S2.size) := by omega
        go_wp2_with (first | (go_at_call 108; refine (TX.out _ _ hT).mono ?_; clear TX; rintro e w2 ⟨rfl, hk2⟩) | (go_at_call 108; refine (TB.out _ _ (hBt.kept hk2)).mono ?_; rintro e w3 ⟨rfl, hk3⟩))
        go_ret
        exact ⟨ret_str hfr.out.symm, (hK.trans hk2).trans hk3⟩
end Go.Proofs.YtlnlddnjalfamaaGreatDoor
