/-
  Naturals of package herd: plus.
-/
import Derived.Test.YtfbiinjpljmapaaDoorTc
namespace Go.Proofs.YtfbiinjpljmapaaDoor
open Go.RowKit Go.Deep

def bigU : Int := 1000000 ^ 2000
theorem Tryd.infoU : (Tryd.prog.info? 46).map (fun i => (i.zero, i.size, i.bytes)) = some (some (.int .u64 0), 1, 8) := by kernel_rfl
theorem mkNat (m : Int) (n : Nat) (h : m = n) (hn : n ≤ 1000000) (w : World) :
    (Instr.makeSlice 106 (.int .i64 m) (.int .i64 m)).run Tryd.prog w = .ok (.slice (some ⟨w.heap.size, 0, none⟩) n n) (w.alloc (.cells (madeCells #[.int .u64 0] n) 46)) := by
  subst h
  exact run_make_row' (P := Tryd.prog) 106 46 (.int .u64 0) 8 (by kernel_rfl) Tryd.infoU rfl .i64 .i64 n (by omega) (by omega) w
def NatPost (w : World) (z : Int) (e : Ending) (w' : World) : Prop := ∃ v, e = .returned v ∧ NatAt w' v z ∧ Kept w w'
/-- the sum so far: k elements, and the carry behind them -/
structure SumN (D E : Nat → Int) (m k : Nat) (S : Nat → Int) : Prop where
  dig : DigN S k
  c0 : 0 ≤ S k
  c1 : S k ≤ 1
  z : ∀ t, k < t → S t = 0
  v : valN S k + S k * 1000000 ^ k = valN D k + valN (extN E m) k
theorem SumN.step {D E : Nat → Int} {m k : Nat} {S : Nat → Int} (h : SumN D E m k S) {s : Int} (hs : s = S k + D k + extN E m k) (h0 : 0 ≤ s) (h1 : s < 2000000) : SumN D E m (k + 1) (fun t => if t = k then s % 1000000 else if t = k + 1 then s / 1000000 else S t) where
  dig := fun i hi => by
    by_cases e : i = k
    · simp only [e, if_true]; omega
    · simp only [e, if_false, show ¬ i = k + 1 by omega]; exact h.dig i (by omega)
  c0 := by simp only [show ¬ (k + 1 = k) by omega, if_false, if_true]; omega
  c1 := by simp only [show ¬ (k + 1 = k) by omega, if_false, if_true]; omega
  z := fun t ht => by simp only [show ¬ t = k by omega, show ¬ t = k + 1 by omega, if_false]; exact h.z t (by omega)
  v := by
    have g1 : valN (fun t => if t = k then s % 1000000 else if t = k + 1 then s / 1000000 else S t) k = valN S k := valN_congr (fun j hj => by simp only [show ¬ j = k by omega, show ¬ j = k + 1 by omega, if_false])
    simp only [valN, g1, show ¬ (k + 1 = k) by omega, if_false, if_true, pw_succN]
    exact plus_stepN h.v hs
set_option maxRecDepth 100000 in
set_option maxHeartbeats 8000000 in
theorem plus_ge (w : World) (va vb : Value) (n m : Nat) (D E : Nat → Int) (hA : SuAt w va n D) (hB : SuAt w vb m E) (hD : DigN D n) (hE : DigN E m) (hn : n ≤ 2000) (hnm : m ≤ n) :
    Calls Tryd.prog 78 #[va, vb] w fun e w' => ∃ (g k : Nat) (S : Nat → Int), e = .returned (.slice (some ⟨g, 0, none⟩) k (n + 1)) ∧ SuAt w' (.slice (some ⟨g, 0, none⟩) k (n + 1)) k S ∧ LeanN S k ∧ valN S k = valN D n + valN E m ∧ Kept w w' ∧ w.heap.size ≤ g := by
  obtain ⟨a, cap, rfl, _, _, _, ⟨_, b, o, _, e, ha, hc⟩⟩ := hA
  cases e
  obtain ⟨a2, cap2, rfl, _, _, _, ⟨_, b2, o2, _, e, ha2, hc2⟩⟩ := hB
  cases e
  have HC := Lib.hid hc
  have HC2 := Lib.hid hc2
  have HD := Lib.hid hD
  have HE := Lib.hid hE
  have hmk := fun W => mkNat ((n : Int) + 1) (n + 1) (by omega) (by omega) W
  have hrow := World.rowIs_made w (.int .u64 0) (n + 1) 46
  have hk0 : Kept w (w.alloc (.cells (madeCells #[.int .u64 0] (n + 1)) 46)) := (Kept.refl w).alloc _
  clear hc hc2 hD hE
  go_enter Tryd.func78, Tryd.ntmps78
  go_wp2_with fail
  obtain ⟨r, HRR⟩ : ∃ r, Hid (r = w.heap.size) := ⟨_, rfl⟩
  have hrs : w.heap.size ≤ r := by rw [HRR.out]; exact Nat.le_refl _
  rw [← HRR.out] at hrow ⊢
  generalize w.alloc (.cells (madeCells #[.int .u64 0] (n + 1)) 46) = W0 at *
  have hS0 : Hid (SumN D E m 0 (fun _ => 0)) := ⟨fun i h => absurd h (by omega), by omega, by omega, fun t _ => rfl, by simp [valN]⟩
  clear hmk
  go_loopg [21] n (fun g s21 wr => ∃ (k : Nat) (S : Nat → Int), k ≤ n ∧ g = n - k ∧ s21 = .int .i64 k ∧ Kept w wr ∧ wr.rowIs r 46 (n + 1) (fun t => .int .u64 (S t)) ∧ Hid (SumN D E m k S))
  case atStart => exact ⟨0, fun _ => 0, Nat.zero_le _, rfl, rfl, hk0, hrow, hS0.out⟩
  case round =>
    clear hk0 hrow hS0
    obtain ⟨k, S, hk, rfl, rfl, hK, hR, hS⟩ := hrel
    by_cases hlt : k < n
    · obtain rfl := ha (by omega)
      have t0 := hK.cellSome (HC.out k hlt)
      have r0 := hR.cell (i := k) (by omega)
      have r1 := hR.cell (i := k + 1) (by omega)
      have f0 := hR.frozen k
      have f1 := hR.frozen (k + 1)
      have bd := HD.out k hlt
      have hc0 := hS.out.c0
      have hc1 := hS.out.c1
      obtain ⟨x, HX⟩ : ∃ x, Hid (x = D k) := ⟨_, rfl⟩
      obtain ⟨c, HCC⟩ : ∃ c, Hid (c = S k) := ⟨_, rfl⟩
      rw [← HX.out] at t0 bd
      rw [← HCC.out] at r0 hc0 hc1
      have s1 : (k : Int) < (n : Int) := by omega
      have s2 : (k : Int) < (n : Int) + 1 := by omega
      have s3 : (k : Int) + 1 < (n : Int) + 1 := by omega
      have s4 : (0 : Int) ≤ (k : Int) := by omega
      have w1 : IntKind.u64.wrap (c + x) = c + x := IntWalk.u64_in _ (by omega)
      by_cases hm : k < m
      · obtain rfl := ha2 (by omega)
        have t1 := hK.cellSome (HC2.out k hm)
        have be := HE.out k hm
        obtain ⟨y, HY⟩ : ∃ y, Hid (y = E k) := ⟨_, rfl⟩
        rw [← HY.out] at t1 be
        have hy : Hid (extN E m k = y) := by show extN E m k = y; rw [HY.out]; unfold extN; rw [if_pos hm]
        have w2 : IntKind.u64.wrap (c + x + y) = c + x + y := IntWalk.u64_in _ (by omega)
        have sm : (k : Int) < (m : Int) := by omega
        have hst : Hid (SumN D E m (k + 1) (fun t => if t = k then (c + x + y) % 1000000 else if t = k + 1 then (c + x + y) / 1000000 else S t)) := hS.out.step (s := c + x + y) (by rw [hy.out, ← HX.out, ← HCC.out]) (by omega) (by omega)
        clear HX HCC hy hS
        go_wp2_with fail
        go_quiet (fail)
        go_wp2_with fail
        have hkd : Kept wr (wr.drewN nq) := (Kept.refl wr).drewN nq
        have hset := ((hkd.row hR).set k (.int .u64 ((c + x + y) % 1000000))).set (k + 1) (.int .u64 ((c + x + y) / 1000000))
        have hset2 := hset.congr (g := fun t => .int .u64 ((fun t => if t = k then (c + x + y) % 1000000 else if t = k + 1 then (c + x + y) / 1000000 else S t) t)) (fun t ht => by
          by_cases e1 : t = k
          · subst e1
            simp
          · by_cases e2 : t = k + 1
            · subst e2
              simp
            · simp [e1, e2])
        have hKS : Kept w (((wr.drewN nq).setCell ⟨r, k, none⟩ (.int .u64 ((c + x + y) % 1000000))).setCell ⟨r, k + 1, none⟩ (.int .u64 ((c + x + y) / 1000000))) := ((hK.trans hkd).setCell hrs _).setCell hrs _
        go_roundg (n - (k + 1))
        case measure => omega
        case rel => exact ⟨k + 1, _, by omega, rfl, by go_num, hKS, hset2, hst.out⟩
      · have hy : Hid (extN E m k = 0) := by show extN E m k = 0; unfold extN; rw [if_neg hm]
        have sm : ¬ (k : Int) < (m : Int) := by omega
        have hst : Hid (SumN D E m (k + 1) (fun t => if t = k then (c + x) % 1000000 else if t = k + 1 then (c + x) / 1000000 else S t)) := hS.out.step (s := c + x) (by rw [hy.out, ← HX.out, ← HCC.out]; omega) (by omega) (by omega)
        clear HX HCC hy hS
        go_wp2_with fail
        go_quiet (fail)
        go_wp2_with fail
        have hkd : Kept wr (wr.drewN nq) := (Kept.refl wr).drewN nq
        have hset := ((hkd.row hR).set k (.int .u64 ((c + x) % 1000000))).set (k + 1) (.int .u64 ((c + x) / 1000000))
        have hset2 := hset.congr (g := fun t => .int .u64 ((fun t => if t = k then (c + x) % 1000000 else if t = k + 1 then (c + x) / 1000000 else S t) t)) (fun t ht => by
          by_cases e1 : t = k
          · subst e1
            simp
          · by_cases e2 : t = k + 1
            · subst e2
              simp
            · simp [e1, e2])
        have hKS : Kept w (((wr.drewN nq).setCell ⟨r, k, none⟩ (.int .u64 ((c + x) % 1000000))).setCell ⟨r, k + 1, none⟩ (.int .u64 ((c + x) / 1000000))) := ((hK.trans hkd).setCell hrs _).setCell hrs _
        go_roundg (n - (k + 1))
        case measure => omega
        case rel => exact ⟨k + 1, _, by omega, rfl, by go_num, hKS, hset2, hst.out⟩
    · obtain rfl : k = n := by omega
      have hv := hS.out.v
      have hfull : Hid (valN S (k + 1) = valN D k + valN E m) := by
        have h1 := extN_le (D := E) (n := m) (k := k) (by omega)
        rw [h1] at hv
        exact hv
      have hdig : Hid (DigN S (k + 1)) := fun i hi => by
        by_cases e : i = k
        · rw [e]; have h1 := hS.out.c0; have h2 := hS.out.c1; omega
        · exact hS.out.dig i (by omega)
      have hsu : SuAt wr (.slice (some ⟨r, 0, none⟩) (k + 1) (k + 1)) (k + 1) S := ⟨_, _, rfl, Nat.le_refl _, (fun h => by cases h), by unfold maxLen; omega, CellsAt.of_row hR⟩
      have TR := Lib.hid (trimmed_any wr _ _ _ S hsu (by omega))
      have HR := Lib.hid hR
      clear hsu hv hS hR
      go_wp2_with fail
      refine TR.out.mono ?_
      rintro e w2 ⟨q, hq, rfl, rfl, hz, ht⟩
      have HZ := Lib.hid hz
      have HT := Lib.hid ht
      clear hz ht TR
      go_wp2_with fail
      go_ret
      have hvq : valN S (k + 1) = valN S q := by
        have := valN_zeros (D := S) (n := q) (k + 1 - q) (fun i h1 h2 => HZ.out i h1 (by omega))
        rwa [show q + (k + 1 - q) = k + 1 by omega] at this
      have hcq := CellsAt.of_row (cap := k + 1) HR.out
      exact ⟨r, q, S, rfl, ⟨_, _, rfl, by omega, (fun h => by cases h), by unfold maxLen; omega, ⟨_, r, 0, _, rfl, fun _ => rfl, fun i hi => by rw [Nat.zero_add]; exact HR.out.cell (by omega)⟩⟩, ⟨fun i hi => hdig.out i (by omega), HT.out⟩, by rw [← hvq, hfull.out], hK, hrs⟩
set_option maxRecDepth 100000 in
set_option maxHeartbeats 8000000 in
theorem plus_lt (w : World) (va vb : Value) (n m : Nat) (D E : Nat → Int) (hA : SuAt w va n D) (hB : SuAt w vb m E) (hD : DigN D n) (hE : DigN E m) (hn : n ≤ 2000) (hnm : m < n) :
    Calls Tryd.prog 78 #[vb, va] w fun e w' => ∃ (g k : Nat) (S : Nat → Int), e = .returned (.slice (some ⟨g, 0, none⟩) k (n + 1)) ∧ SuAt w' (.slice (some ⟨g, 0, none⟩) k (n + 1)) k S ∧ LeanN S k ∧ valN S k = valN D n + valN E m ∧ Kept w w' ∧ w.heap.size ≤ g := by
  obtain ⟨a, cap, rfl, _, _, _, ⟨_, b, o, _, e, ha, hc⟩⟩ := hA
  cases e
  obtain ⟨a2, cap2, rfl, _, _, _, ⟨_, b2, o2, _, e, ha2, hc2⟩⟩ := hB
  cases e
  have HC := Lib.hid hc
  have HC2 := Lib.hid hc2
  have HD := Lib.hid hD
  have HE := Lib.hid hE
  have hmk := fun W => mkNat ((n : Int) + 1) (n + 1) (by omega) (by omega) W
  have hrow := World.rowIs_made w (.int .u64 0) (n + 1) 46
  have hk0 : Kept w (w.alloc (.cells (madeCells #[.int .u64 0] (n + 1)) 46)) := (Kept.refl w).alloc _
  clear hc hc2 hD hE
  go_enter Tryd.func78, Tryd.ntmps78
  go_wp2_with fail
  obtain ⟨r, HRR⟩ : ∃ r, Hid (r = w.heap.size) := ⟨_, rfl⟩
  have hrs : w.heap.size ≤ r := by rw [HRR.out]; exact Nat.le_refl _
  rw [← HRR.out] at hrow ⊢
  generalize w.alloc (.cells (madeCells #[.int .u64 0] (n + 1)) 46) = W0 at *
  have hS0 : Hid (SumN D E m 0 (fun _ => 0)) := ⟨fun i h => absurd h (by omega), by omega, by omega, fun t _ => rfl, by simp [valN]⟩
  clear hmk
  go_loopg [21] n (fun g s21 wr => ∃ (k : Nat) (S : Nat → Int), k ≤ n ∧ g = n - k ∧ s21 = .int .i64 k ∧ Kept w wr ∧ wr.rowIs r 46 (n + 1) (fun t => .int .u64 (S t)) ∧ Hid (SumN D E m k S))
  case atStart => exact ⟨0, fun _ => 0, Nat.zero_le _, rfl, rfl, hk0, hrow, hS0.out⟩
  case round =>
    clear hk0 hrow hS0
    obtain ⟨k, S, hk, rfl, rfl, hK, hR, hS⟩ := hrel
    by_cases hlt : k < n
    · obtain rfl := ha (by omega)
      have t0 := hK.cellSome (HC.out k hlt)
      have r0 := hR.cell (i := k) (by omega)
      have r1 := hR.cell (i := k + 1) (by omega)
      have f0 := hR.frozen k
      have f1 := hR.frozen (k + 1)
      have bd := HD.out k hlt
      have hc0 := hS.out.c0
      have hc1 := hS.out.c1
      obtain ⟨x, HX⟩ : ∃ x, Hid (x = D k) := ⟨_, rfl⟩
      obtain ⟨c, HCC⟩ : ∃ c, Hid (c = S k) := ⟨_, rfl⟩
      rw [← HX.out] at t0 bd
      rw [← HCC.out] at r0 hc0 hc1
      have s1 : (k : Int) < (n : Int) := by omega
      have s2 : (k : Int) < (n : Int) + 1 := by omega
      have s3 : (k : Int) + 1 < (n : Int) + 1 := by omega
      have s4 : (0 : Int) ≤ (k : Int) := by omega
      have w1 : IntKind.u64.wrap (c + x) = c + x := IntWalk.u64_in _ (by omega)
      by_cases hm : k < m
      · obtain rfl := ha2 (by omega)
        have t1 := hK.cellSome (HC2.out k hm)
        have be := HE.out k hm
        obtain ⟨y, HY⟩ : ∃ y, Hid (y = E k) := ⟨_, rfl⟩
        rw [← HY.out] at t1 be
        have hy : Hid (extN E m k = y) := by show extN E m k = y; rw [HY.out]; unfold extN; rw [if_pos hm]
        have w2 : IntKind.u64.wrap (c + x + y) = c + x + y := IntWalk.u64_in _ (by omega)
        have sm : (k : Int) < (m : Int) := by omega
        have hst : Hid (SumN D E m (k + 1) (fun t => if t = k then (c + x + y) % 1000000 else if t = k + 1 then (c + x + y) / 1000000 else S t)) := hS.out.step (s := c + x + y) (by rw [hy.out, ← HX.out, ← HCC.out]) (by omega) (by omega)
        clear HX HCC hy hS
        go_wp2_with fail
        go_quiet (fail)
        go_wp2_with fail
        have hkd : Kept wr (wr.drewN nq) := (Kept.refl wr).drewN nq
        have hset := ((hkd.row hR).set k (.int .u64 ((c + x + y) % 1000000))).set (k + 1) (.int .u64 ((c + x + y) / 1000000))
        have hset2 := hset.congr (g := fun t => .int .u64 ((fun t => if t = k then (c + x + y) % 1000000 else if t = k + 1 then (c + x + y) / 1000000 else S t) t)) (fun t ht => by
          by_cases e1 : t = k
          · subst e1
            simp
          · by_cases e2 : t = k + 1
            · subst e2
              simp
            · simp [e1, e2])
        have hKS : Kept w (((wr.drewN nq).setCell ⟨r, k, none⟩ (.int .u64 ((c + x + y) % 1000000))).setCell ⟨r, k + 1, none⟩ (.int .u64 ((c + x + y) / 1000000))) := ((hK.trans hkd).setCell hrs _).setCell hrs _
        go_roundg (n - (k + 1))
        case measure => omega
        case rel => exact ⟨k + 1, _, by omega, rfl, by go_num, hKS, hset2, hst.out⟩
      · have hy : Hid (extN E m k = 0) := by show extN E m k = 0; unfold extN; rw [if_neg hm]
        have sm : ¬ (k : Int) < (m : Int) := by omega
        have hst : Hid (SumN D E m (k + 1) (fun t => if t = k then (c + x) % 1000000 else if t = k + 1 then (c + x) / 1000000 else S t)) := hS.out.step (s := c + x) (by rw [hy.out, ← HX.out, ← HCC.out]; omega) (by omega) (by omega)
        clear HX HCC hy hS
        go_wp2_with fail
        go_quiet (fail)
        go_wp2_with fail
        have hkd : Kept wr (wr.drewN nq) := (Kept.refl wr).drewN nq
        have hset := ((hkd.row hR).set k (.int .u64 ((c + x) % 1000000))).set (k + 1) (.int .u64 ((c + x) / 1000000))
        have hset2 := hset.congr (g := fun t => .int .u64 ((fun t => if t = k then (c + x) % 1000000 else if t = k + 1 then (c + x) / 1000000 else S t) t)) (fun t ht => by
          by_cases e1 : t = k
          · subst e1
            simp
          · by_cases e2 : t = k + 1
            · subst e2
              simp
            · simp [e1, e2])
        have hKS : Kept w (((wr.drewN nq).setCell ⟨r, k, none⟩ (.int .u64 ((c + x) % 1000000))).setCell ⟨r, k + 1, none⟩ (.int .u64 ((c + x) / 1000000))) := ((hK.trans hkd).setCell hrs _).setCell hrs _
        go_roundg (n - (k + 1))
        case measure => omega
        case rel => exact ⟨k + 1, _, by omega, rfl, by go_num, hKS, hset2, hst.out⟩
    · obtain rfl : k = n := by omega
      have hv := hS.out.v
      have hfull : Hid (valN S (k + 1) = valN D k + valN E m) := by
        have h1 := extN_le (D := E) (n := m) (k := k) (by omega)
        rw [h1] at hv
        exact hv
      have hdig : Hid (DigN S (k + 1)) := fun i hi => by
        by_cases e : i = k
        · rw [e]; have h1 := hS.out.c0; have h2 := hS.out.c1; omega
        · exact hS.out.dig i (by omega)
      have hsu : SuAt wr (.slice (some ⟨r, 0, none⟩) (k + 1) (k + 1)) (k + 1) S := ⟨_, _, rfl, Nat.le_refl _, (fun h => by cases h), by unfold maxLen; omega, CellsAt.of_row hR⟩
      have TR := Lib.hid (trimmed_any wr _ _ _ S hsu (by omega))
      have HR := Lib.hid hR
      clear hsu hv hS hR
      go_wp2_with fail
      refine TR.out.mono ?_
      rintro e w2 ⟨q, hq, rfl, rfl, hz, ht⟩
      have HZ := Lib.hid hz
      have HT := Lib.hid ht
      clear hz ht TR
      go_wp2_with fail
      go_ret
      have hvq : valN S (k + 1) = valN S q := by
        have := valN_zeros (D := S) (n := q) (k + 1 - q) (fun i h1 h2 => HZ.out i h1 (by omega))
        rwa [show q + (k + 1 - q) = k + 1 by omega] at this
      have hcq := CellsAt.of_row (cap := k + 1) HR.out
      exact ⟨r, q, S, rfl, ⟨_, _, rfl, by omega, (fun h => by cases h), by unfold maxLen; omega, ⟨_, r, 0, _, rfl, fun _ => rfl, fun i hi => by rw [Nat.zero_add]; exact HR.out.cell (by omega)⟩⟩, ⟨fun i hi => hdig.out i (by omega), HT.out⟩, by rw [← hvq, hfull.out], hK, hrs⟩
end Go.Proofs.YtfbiinjpljmapaaDoor
