/-
  The library's Grow of nothing and Concat of two lists of spots.
-/
import Derived.Test.YtlgpclnmonpkjaaTm
import Derived.Lib.AppendZerosOnto
import Derived.Lib.SliceRun
namespace Go.Proofs.Ytlgpclnmonpkjaa
open Go.RowKit Go.Deep

theorem Try.under3D : Try.prog.underlying 3 = some (.int .i64) := by kernel_rfl
def GrowSpotPost (w : World) (e : Ending) (w' : World) : Prop := ∃ v, e = .returned v ∧ Kept w w' ∧ w'.ownsRow w.heap.size 26 2 v 0 []
set_option maxRecDepth 100000 in
set_option maxHeartbeats 4000000 in
theorem Grow_spots (w : World) (n : Nat) (hn : n ≤ 100) : Calls Try.prog 88 #[.slice none 0 0, .int .i64 n] w (GrowSpotPost w) := by
  by_cases h0 : 0 < n
  · obtain ⟨i0, hi0, hz0, hz1, hz2⟩ := info_parts Try.infoSpot
    have hrz : ∀ ty, (Builtin.append_ #[36, 3] ty #[.slice none 0 0, .int .i64 (n : Int)]).run Try.prog w = .ok (.slice (some ⟨w.heap.size, 0, none⟩) n (grownCap w n 0 26)) (w.drew.alloc (.cells (#[] ++ Builtin.zeroCells (Value.agg #[.int .i64 0, .int .i64 0]).cells n ++ Builtin.zeroCells (Value.agg #[.int .i64 0, .int .i64 0]).cells (grownCap w n 0 26 - n)) 26)) := fun ty => by
      have h := Lib.run_append_grow_zeros w 36 3 ty 26 i0 (.agg #[.int .i64 0, .int .i64 0]) .i64 .i64 Try.underlying36 Try.under3D hi0 hz0 none 0 0 [] (run_firstCells_none w.drew i0.size 0 0 0) n h0 (by omega) (by omega) (by omega) (by rw [hz2]; omega) (growslice_fits (by omega) (by rw [hz2]; omega))
      rw [Nat.zero_add] at h
      exact h
    have s1 : ¬ (n : Int) < 0 := by omega
    have s2 : (n : Int) > 0 := by omega
    have hc1 := grownCap_ge w n 0 26
    have hc2 := grownCap_le_maxLen w n 0 26 (by unfold maxLen; omega)
    obtain ⟨G, hG⟩ : ∃ G, G = grownCap w n 0 26 := ⟨_, rfl⟩
    rw [← hG] at hrz hc1 hc2
    clear hG
    have hc3 : G ≤ 9223372036854775807 := by unfold maxLen at hc2; omega
    obtain ⟨CL, hCL⟩ : ∃ CL, CL = (#[] ++ Builtin.zeroCells (Value.agg #[.int .i64 0, .int .i64 0]).cells n ++ Builtin.zeroCells (Value.agg #[.int .i64 0, .int .i64 0]).cells (G - n)) := ⟨_, rfl⟩
    have hsz : CL.size = G * 2 := by
      rw [hCL]
      simp only [Array.size_append, size_zeroCells, List.size_toArray, List.length_nil]
      show 0 + n * 2 + (G - n) * 2 = G * 2
      omega
    rw [← hCL] at hrz
    clear hCL
    have hKw : Kept w (w.alloc (.cells CL 26)).drew := ((Kept.refl w).alloc _).drew
    have hOw0 : (w.alloc (.cells CL 26)).ownsRow w.heap.size 26 2 (.slice (some ⟨w.heap.size, 0, none⟩) 0 G) 0 [] :=
      World.ownsRow_made w CL G (Nat.le_refl _) hc2 hsz
    have hOw := own_keptY hOw0 (Kept.drew (Kept.refl _)) (fun _ _ _ _ _ h => h)
    clear hc2 hsz hOw0
    go_enter Try.func88, Try.ntmps88
    go_wp2_with (at_builtin; refine Lib.wpList_append_run _ rfl _ _ _ _ rfl _ _ rfl rfl _ _ (hrz _) ?_)
    all_goals
      go_ret
      exact ⟨_, rfl, hKw, hOw⟩
  · obtain rfl : n = 0 := by omega
    go_enter Try.func88, Try.ntmps88
    go_wp2_with fail
    all_goals
      go_ret
      exact ⟨_, rfl, Kept.refl _, rfl, .inl ⟨rfl, rfl⟩⟩
def catL (Hs : Nat → Nat → Sp) (ms : Nat → Nat) : Nat → List Value
  | 0 => []
  | i + 1 => catL Hs ms i ++ spsL (Hs i) (ms i)
def totM (ms : Nat → Nat) : Nat → Nat
  | 0 => 0
  | i + 1 => totM ms i + ms i
theorem totM_le (ms : Nat → Nat) (h : ms 0 + ms 1 ≤ 100) : ∀ i, i ≤ 2 → totM ms i ≤ 100 := fun i hi => by
  have : i = 0 ∨ i = 1 ∨ i = 2 := by omega
  rcases this with rfl | rfl | rfl <;> simp only [totM] <;> omega
set_option maxRecDepth 100000 in
set_option maxHeartbeats 4000000 in
theorem Concat_spots (w : World) (bl ol cl : Nat) (gs ps cs ms : Nat → Nat) (Hs : Nat → Nat → Sp) (hms : ms 0 + ms 1 ≤ 100)
    (hl : ∀ i, i < 2 → w.cell? ⟨bl, ol + i, none⟩ = some (.slice (some ⟨gs i, ps i, none⟩) (ms i) (cs i)))
    (hF : ∀ i, i < 2 → ∀ t, t < ms i → w.cell? ⟨gs i, ps i + t * 2, none⟩ = some (.int .i64 (((Hs i t).1 : Nat) : Int)) ∧ w.cell? ⟨gs i, ps i + t * 2 + 1, none⟩ = some (.int .i64 (((Hs i t).2 : Nat) : Int))) :
    Calls Try.prog 84 #[.slice (some ⟨bl, ol, none⟩) 2 cl] w fun e w' => ∃ v, e = .returned v ∧ Kept w w' ∧ w'.ownsRow w.heap.size 26 2 v (totM ms 2) (catL Hs ms 2) := by
  obtain ⟨i0, hi0, hz0, hz1, hz2⟩ := info_parts Try.infoSpot
  have HT := Lib.hid (totM_le ms hms)
  have GR := Lib.hid (fun W => Grow_spots W (totM ms 2) (HT.out 2 (by omega)))
  have HL := Lib.hid hl
  have HF := Lib.hid hF
  clear hl hF
  go_enter Try.func84, Try.ntmps84
  go_wp2_with fail
  go_loopg [3, 11] 2 (fun mm s3 s11 wr => ∃ i : Nat, i ≤ 2 ∧ mm = 2 - i ∧ s11 = .int .i64 i ∧ s3 = .int .i64 ((totM ms i : Nat) : Int) ∧ w = wr)
  case atStart => exact ⟨0, by omega, rfl, by first | rfl | go_num, rfl, rfl⟩
  case round =>
    obtain ⟨i, hi, rfl, rfl, rfl, rfl⟩ := hrel
    by_cases hlt : i < 2
    · have s1 : (i : Int) < 2 := by omega
      have s2 : (0 : Int) ≤ (i : Int) := by omega
      have t1 := HL.out i hlt
      have hnx : Hid (totM ms (i + 1) = totM ms i + ms i) := rfl
      have hb := HT.out (i + 1) (by omega)
      rw [hnx.out] at hb
      obtain ⟨m, HM⟩ : ∃ m, Hid (m = totM ms i) := ⟨_, rfl⟩
      rw [← HM.out] at hb ⊢
      obtain ⟨l, HLl⟩ : ∃ l, Hid (l = ms i) := ⟨_, rfl⟩
      rw [← HLl.out] at hb t1
      have s4 : ¬ (m : Int) + (l : Int) < 0 := by omega
      go_wp2_with fail
      go_roundg (2 - (i + 1))
      case measure => omega
      case rel => exact ⟨i + 1, by omega, rfl, by first | rfl | go_num, by rw [hnx.out, ← HM.out, ← HLl.out]; first | rfl | go_num, rfl⟩
    · obtain rfl : i = 2 := by omega
      go_wp2_with (first | (go_at_call 88; refine (GR.out _).mono ?_; rintro e w1 ⟨gv, rfl, hk1, hO1⟩; obtain ⟨ga, gc, rfl⟩ := own_shape hO1))
      go_loopg [6, 27] 2 (fun mm s6 s27 wr => ∃ i : Nat, i ≤ 2 ∧ mm = 2 - i ∧ s27 = .int .i64 i ∧ Kept w wr ∧ w.heap.size ≤ wr.heap.size ∧ wr.ownsRow w.heap.size 26 2 s6 (totM ms i) (catL Hs ms i))
      case atStart => exact ⟨0, by omega, rfl, by first | rfl | go_num, hk1, hk1.size, hO1⟩
      case round =>
        clear hk1 hO1
        obtain ⟨i, hi, rfl, rfl, hK, hsz, hO⟩ := hrel
        obtain ⟨sa, sc, rfl⟩ := own_shape hO
        by_cases hlt : i < 2
        · have s1 : (i : Int) < 2 := by omega
          have s2 : (0 : Int) ≤ (i : Int) := by omega
          have t1 := hK.cellSome (HL.out i hlt)
          have hb := HT.out (i + 1) (by omega)
          have hnx : totM ms (i + 1) = totM ms i + ms i := rfl
          rw [hnx] at hb
          have HNX := Lib.hid hnx
          have HC := Lib.hid (spsL_cells (fun t ht => ⟨hK.cellSome (HF.out i hlt t ht).1, hK.cellSome (HF.out i hlt t ht).2⟩))
          clear hnx
          go_wp2_with (first | (at_builtin; refine wpList_append_own _ rfl _ _ 36 rfl w.heap.size 26 i0 (.agg #[.int .i64 0, .int .i64 0]) 2 16 Try.underlying36 hi0 hz0 hz1 hz2 rfl (by decide) _ _ _ rfl hO ⟨gs i, ps i, none⟩ (ms i) (cs i) (spsL (Hs i) (ms i)) rfl (spsL_len _ _) HC.out (spsL_one _ _) (by unfold maxLen; omega) (by omega) hsz ?_))
          intro v' w2 hO3 hgr _
          have hK2 : Kept w w2 := hK.grown hgr (fun k hk => (hO.lt k hk).1)
          have hsz2 : w.heap.size ≤ w2.heap.size := Nat.le_trans hsz hgr.size
          have hO4 : w2.ownsRow w.heap.size 26 2 v' (totM ms (i + 1)) (catL Hs ms (i + 1)) := hO3
          clear hO hO3 hgr hK HC hsz
          go_wp2_with fail
          go_roundg (2 - (i + 1))
          case measure => omega
          case rel => exact ⟨i + 1, by omega, rfl, by first | rfl | go_num, hK2, hsz2, hO4⟩
        · obtain rfl : i = 2 := by omega
          have s1 : ¬ ((2 : Nat) : Int) < 2 := by omega
          go_wp2_with fail
          go_ret
          exact ⟨_, rfl, hK, hO⟩
theorem catL_two (H : Nat → Sp) (G : Nat → Sp) (a : Nat) : ∀ b, spsL H a ++ spsL G b = spsL (fun t => if t < a then H t else G (t - a)) (a + b) := by
  intro b
  induction b with
  | zero =>
    simp only [spsL, List.append_nil, Nat.add_zero]
    exact spsL_congr a fun i hi => by rw [if_pos hi]
  | succ b ih =>
    rw [← Nat.add_assoc]
    simp only [spsL]
    rw [← List.append_assoc, ih, if_neg (by omega), show a + b - a = b by omega]
end Go.Proofs.Ytlgpclnmonpkjaa
