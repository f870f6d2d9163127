/-
  Naturals of package herd: times.
-/
import Derived.Test.YtfbiinjpljmapaaDoorTe
namespace Go.Proofs.YtfbiinjpljmapaaDoor
open Go.RowKit Go.Deep

/-- the row of a product after i elements of the first number -/
structure MulRowN (N i m : Nat) (O : Nat → Int) (x : Int) : Prop where
  dig : ∀ j, j < N → 0 ≤ O j ∧ O j < 1000000
  val : valN O N = x
  top : ∀ j, i + m ≤ j → O j = 0
/-- the row while an element is taken times those of the second number, up to k -/
structure MulInN (N i m : Nat) (O : Nat → Int) (c x : Int) (k : Nat) : Prop where
  dig : ∀ j, j < N → 0 ≤ O j ∧ O j < 1000000
  val : valN O N + c * 1000000 ^ (i + k) = x
  top : ∀ j, i + m ≤ j → O j = 0
theorem MulInN.step {N i m k : Nat} {O E : Nat → Int} {c t0 x a b s : Int} (h : MulInN N i m O c (t0 + a * valN E k * 1000000 ^ i) k) (hk : k < m) (hN : i + m < N) (hb : b = E k) (hs : s = O (i + k) + c + a * b) (hx : x = t0 + a * valN E (k + 1) * 1000000 ^ i) :
    MulInN N i m (fun j => if j = i + k then s % 1000000 else O j) (s / 1000000) x (k + 1) where
  dig := fun j hj => by
    by_cases e : j = i + k
    · simp only [e, if_true]; omega
    · simp only [e, if_false]; exact h.dig j hj
  val := by
    have h1 := h.val
    rw [Int.pow_add] at h1
    have h2 := mul_stepN h1 hs
    rw [valN_upd (by omega), hx]
    have e1 : (1000000 : Int) ^ (i + (k + 1)) = 1000000 ^ i * 1000000 ^ k * 1000000 := by rw [show i + (k + 1) = i + k + 1 by omega, pw_succN, Int.pow_add]
    have e2 : valN E (k + 1) = valN E k + b * 1000000 ^ k := by simp only [valN, hb]
    rw [e1, e2, Int.pow_add]
    exact h2
  top := fun j hj => by
    simp only [show ¬ (j = i + k) by omega, if_false]
    exact h.top j hj
theorem MulInN.last {N i m : Nat} {O : Nat → Int} {c x : Int} (h : MulInN N i m O c x m) (hN : i + m < N) (hc : 0 ≤ c ∧ c < 1000000) :
    MulRowN N (i + 1) m (fun j => if j = i + m then c else O j) x where
  dig := fun j hj => by
    by_cases e : j = i + m
    · simp only [e, if_true]; exact hc
    · simp only [e, if_false]; exact h.dig j hj
  val := by
    have h1 := h.val
    have h2 := h.top (i + m) (Nat.le_refl _)
    rw [valN_upd hN, h2]
    simp
    exact h1
  top := fun j hj => by
    simp only [show ¬ (j = i + m) by omega, if_false]
    exact h.top j (by omega)
/-- the result lies in a row of its own -/
def NatPostT (w : World) (z : Int) (e : Ending) (w' : World) : Prop := ∃ (g k c N : Nat) (f : Nat → Value), e = .returned (.slice (some ⟨g, 0, none⟩) k c) ∧ NatAt w' (.slice (some ⟨g, 0, none⟩) k c) z ∧ Kept w w' ∧ w'.rowIs g 46 N f
set_option maxRecDepth 100000 in
set_option maxHeartbeats 8000000 in
theorem times_row (w : World) (va vb : Value) (x y : Int) (hx : NatAt w va x) (hy : NatAt w vb y) (hB : x * y < bigU) :
    Calls Tryd.prog 71 #[va, vb] w (NatPostT w (x * y)) := by
  obtain ⟨n, D, ⟨a, cap, rfl, _, _, _, ⟨_, b, o, _, e, ha, hc⟩⟩, hL, rfl, hn⟩ := hx
  cases e
  obtain ⟨m, E, ⟨a2, cap2, rfl, _, _, _, ⟨_, b2, o2, _, e, ha2, hc2⟩⟩, hL2, rfl, hmm⟩ := hy
  cases e
  have HC := Lib.hid hc
  have HC2 := Lib.hid hc2
  have HD := Lib.hid hL
  have HE := Lib.hid hL2
  have HB := Lib.hid hB
  obtain ⟨N, HN⟩ : ∃ N, Hid (N = n + m) := ⟨_, rfl⟩
  have eN : (n : Int) + (m : Int) = (N : Int) := by rw [HN.out]; omega
  have hmk := fun W => mkNat (N : Int) N rfl (by rw [HN.out]; omega) W
  have hrow := World.rowIs_made w (.int .u64 0) N 46
  have hk0 : Kept w (w.alloc (.cells (madeCells #[.int .u64 0] N) 46)) := (Kept.refl w).alloc _
  clear hc hc2 hL hL2 hB
  go_enter Tryd.func71, Tryd.ntmps71
  go_wp2_with fail
  obtain ⟨r, HRR⟩ : ∃ r, Hid (r = w.heap.size) := ⟨_, rfl⟩
  have hrs : w.heap.size ≤ r := by rw [HRR.out]; exact Nat.le_refl _
  rw [← HRR.out] at hrow ⊢
  generalize w.alloc (.cells (madeCells #[.int .u64 0] N) 46) = W0 at *
  have hS0 : Hid (MulRowN N 0 m (fun _ => 0) (valN D 0 * valN E m)) := ⟨fun j hj => by omega, by
    have := valN_zeros (D := fun _ => 0) (n := 0) N (fun i _ _ => rfl)
    rw [Nat.zero_add] at this
    rw [this]
    simp [valN], fun j _ => rfl⟩
  clear hmk
  go_loopg [20] n (fun g s20 wr => ∃ (i : Nat) (O : Nat → Int), i ≤ n ∧ g = n - i ∧ s20 = .int .i64 i ∧ Kept w wr ∧ wr.rowIs r 46 N (fun t => .int .u64 (O t)) ∧ Hid (MulRowN N i m O (valN D i * valN E m)))
  case atStart => exact ⟨0, fun _ => 0, Nat.zero_le _, rfl, rfl, hk0, hrow, hS0.out⟩
  case round =>
    clear hk0 hrow hS0
    obtain ⟨i, O, hin, rfl, rfl, hK, hR, hM⟩ := hrel
    have s0 : (0 : Int) ≤ (i : Int) := by omega
    by_cases hlt : i < n
    · obtain rfl := ha (by omega)
      have t0 := hK.cellSome (HC.out i hlt)
      have hdi := HD.out.1 i hlt
      have hiN : i + m < N := by rw [HN.out]; omega
      have s1 : (i : Int) < (n : Int) := by omega
      obtain ⟨x, HX⟩ : ∃ x, Hid (x = D i) := ⟨_, rfl⟩
      rw [← HX.out] at t0 hdi
      obtain ⟨T0, HT0⟩ : ∃ t, Hid (t = valN D i * valN E m) := ⟨_, rfl⟩
      have hnext : Hid (valN D (i + 1) * valN E m = T0 + x * valN E m * 1000000 ^ i) := by
        show _ = _
        rw [HT0.out, HX.out]
        simp only [valN]
        grind
      have hI0 : Hid (MulInN N i m O 0 (T0 + x * valN E 0 * 1000000 ^ i) 0) := ⟨hM.out.dig, by rw [hM.out.val, HT0.out]; simp [valN], hM.out.top⟩
      clear hM HT0 HX
      go_wp2_with fail
      clear t0
      go_loopg [8, 27] m (fun g s8 s27 wi => ∃ (k : Nat) (c : Int) (O : Nat → Int), k ≤ m ∧ g = m - k ∧ s8 = .int .u64 c ∧ s27 = .int .i64 k ∧ 0 ≤ c ∧ c < 1000000 ∧ Kept w wi ∧ wi.rowIs r 46 N (fun t => .int .u64 (O t)) ∧ Hid (MulInN N i m O c (T0 + x * valN E k * 1000000 ^ i) k))
      case atStart => exact ⟨0, 0, O, Nat.zero_le _, rfl, rfl, rfl, by omega, by omega, hK, hR, hI0.out⟩
      case round =>
        clear hK hR hI0
        obtain ⟨k, c, O, hkm, rfl, rfl, rfl, c0, c1, hK, hR, hI⟩ := hrel
        have s0' : (0 : Int) ≤ (k : Int) := by omega
        obtain ⟨p, hp⟩ : ∃ p, p = i + k := ⟨_, rfl⟩
        have ep : (i : Int) + (k : Int) = (p : Int) := by omega
        have hpN : p < N := by omega
        have x0 := hR.cell hpN
        have x1 := hR.frozen p
        have s3 : (p : Int) < (N : Int) := by omega
        have s4 : (0 : Int) ≤ (p : Int) := by omega
        by_cases hk : k < m
        · obtain rfl := ha2 (by omega)
          have x3 := hK.cellSome (HC2.out k hk)
          have hop := hI.out.dig p hpN
          have hbk := HE.out.1 k hk
          have s2 : (k : Int) < (m : Int) := by omega
          have HST := Lib.hid (MulInN.step (s := O (i + k) + c + x * E k) hI.out hk hiN rfl rfl rfl)
          rw [← hp] at HST
          obtain ⟨y, HY⟩ : ∃ y, Hid (y = E k) := ⟨_, rfl⟩
          obtain ⟨q, HQ⟩ : ∃ q, Hid (q = O p) := ⟨_, rfl⟩
          rw [← HY.out, ← HQ.out] at HST
          rw [← HY.out] at x3 hbk
          rw [← HQ.out] at x0 hop
          have hmd := mul_digitN hop ⟨c0, c1⟩ hdi hbk
          have hpi := mul_digitN (o := 0) (c := 0) ⟨by omega, by omega⟩ ⟨by omega, by omega⟩ hdi hbk
          obtain ⟨P, HP⟩ : ∃ P, Hid (P = x * y) := ⟨_, rfl⟩
          have w1 : IntKind.u64.wrap (x * y) = P := by rw [HP.out]; exact IntWalk.u64_in _ (by omega)
          rw [← HP.out] at hmd hpi HST
          have w2 : IntKind.u64.wrap (q + P) = q + P := IntWalk.u64_in _ (by omega)
          have w3 : IntKind.u64.wrap (q + P + c) = q + c + P := by rw [show q + P + c = q + c + P by omega]; exact IntWalk.u64_in _ (by omega)
          obtain ⟨s, HS⟩ : ∃ s, Hid (s = q + c + P) := ⟨_, rfl⟩
          rw [← HS.out] at w3 HST hmd
          have hQ : 0 ≤ s / 1000000 ∧ s / 1000000 < 1000000 := by omega
          have HPI := Lib.hid hp
          obtain ⟨m1, m2⟩ := hmd
          clear hI hp hop hbk hpi HP HS HY HQ
          go_wp2_with fail
          have hR5 := (hR.set p (.int .u64 (s % 1000000))).congr (g := fun j => .int .u64 ((fun j => if j = p then s % 1000000 else O j) j)) (fun j _ => by
            by_cases e : j = p
            · simp [e]
            · simp [e])
          have hK5 : Kept w (wr.setCell ⟨r, p, none⟩ (.int .u64 (s % 1000000))) := hK.setCell hrs _
          go_roundg (m - (k + 1))
          case measure => omega
          case rel => exact ⟨k + 1, _, _, by omega, rfl, rfl, by go_num, hQ.1, hQ.2, hK5, hR5, HST.out⟩
        · obtain rfl : k = m := by omega
          have hL3 := MulInN.last hI.out hiN ⟨c0, c1⟩
          rw [← hnext.out, ← hp] at hL3
          have HL3 := Lib.hid hL3
          clear hI hL3 hp
          go_wp2_with fail
          have hR5 := (hR.set p (.int .u64 c)).congr (g := fun j => .int .u64 ((fun j => if j = p then c else O j) j)) (fun j _ => by
            by_cases e : j = p
            · simp [e]
            · simp [e])
          have hK5 : Kept w (wr.setCell ⟨r, p, none⟩ (.int .u64 c)) := hK.setCell hrs _
          go_roundg (n - (i + 1))
          case measure => omega
          case rel => exact ⟨i + 1, _, by omega, rfl, by go_num, hK5, hR5, HL3.out⟩
    · obtain rfl : i = n := by omega
      have hfull : Hid (valN O N = valN D i * valN E m) := hM.out.val
      have hdig : Hid (DigN O N) := hM.out.dig
      have hsu : SuAt wr (.slice (some ⟨r, 0, none⟩) N N) N O := ⟨_, _, rfl, Nat.le_refl _, (fun h => by cases h), by unfold maxLen; rw [HN.out]; omega, CellsAt.of_row hR⟩
      have TR := Lib.hid (trimmed_any wr _ _ _ O hsu (by rw [HN.out]; omega))
      have HR := Lib.hid hR
      clear hsu hM hR
      go_wp2_with fail
      refine TR.out.mono ?_
      rintro e w2 ⟨q, hq, rfl, rfl, hz, ht⟩
      have HZ := Lib.hid hz
      have HT := Lib.hid ht
      clear hz ht TR
      go_wp2_with fail
      go_ret
      have hvq : valN O N = valN O q := by
        have := valN_zeros (D := O) (n := q) (N - q) (fun i h1 h2 => HZ.out i h1 (by omega))
        rwa [show q + (N - q) = N by omega] at this
      have hlean : LeanN O q := ⟨fun i hi => hdig.out i (by omega), HT.out⟩
      exact ⟨_, _, _, _, _, rfl, ⟨q, O, ⟨_, _, rfl, by omega, (fun h => by cases h), by unfold maxLen; rw [HN.out]; omega, ⟨_, r, 0, _, rfl, fun _ => rfl, fun i hi => by rw [Nat.zero_add]; exact HR.out.cell (by omega)⟩⟩, hlean, by rw [← hvq, hfull.out], lean_leN hlean (by rw [← hvq, hfull.out]; exact HB.out)⟩, hK, HR.out⟩
theorem times_any (w : World) (va vb : Value) (x y : Int) (hx : NatAt w va x) (hy : NatAt w vb y) (hB : x * y < bigU) :
    Calls Tryd.prog 71 #[va, vb] w (NatPost w (x * y)) := by
  refine (times_row w va vb x y hx hy hB).mono ?_
  rintro e w' ⟨g, k, c, N, f, rfl, h1, h2, _⟩
  exact ⟨_, rfl, h1, h2⟩
end Go.Proofs.YtfbiinjpljmapaaDoor
