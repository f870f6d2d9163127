/-
  The library's Grow of nothing; Concat of a slice with itself.
-/
import Derived.Test.YtfbiinjpljmapaaDoorIe
import Derived.Lib.AppendZerosOnto
import Derived.Lib.SliceRun
namespace Go.Proofs.YtfbiinjpljmapaaDoor
open Go.RowKit Go.Deep

def GrowNilPost (w : World) (e : Ending) (w' : World) : Prop := ∃ g c, e = .returned (.slice (some ⟨g, 0, none⟩) 0 c) ∧ Kept w w' ∧ w'.ownsRow w.heap.size 46 1 (.slice (some ⟨g, 0, none⟩) 0 c) 0 []
set_option maxRecDepth 100000 in
set_option maxHeartbeats 4000000 in
theorem Grow_nil (w : World) (n : Nat) (h0 : 0 < n) (hn : n ≤ 100) : Calls Tryd.prog 90 #[.slice none 0 0, .int .i64 n] w (GrowNilPost w) := by
  obtain ⟨i0, hi0, hz0, hz1, hz2⟩ := info_parts Tryd.infoU8
  have hrz : ∀ ty, (Builtin.append_ #[90, 3] ty #[.slice none 0 0, .int .i64 (n : Int)]).run Tryd.prog w = .ok (.slice (some ⟨w.heap.size, 0, none⟩) n (grownCap w n 0 46)) (w.drew.alloc (.cells (#[] ++ Builtin.zeroCells (Value.int .u64 0).cells n ++ Builtin.zeroCells (Value.int .u64 0).cells (grownCap w n 0 46 - n)) 46)) := fun ty => by
    have h := Lib.run_append_grow_zeros w 90 3 ty 46 i0 (.int .u64 0) .i64 .i64 Tryd.underlying90 Tryd.underlying3 hi0 hz0 none 0 0 [] (run_firstCells_none w.drew i0.size 0 0 0) n h0 (by omega) (by omega) (by omega) (by rw [hz2]; omega) (growslice_fits (by omega) (by rw [hz2]; omega))
    rw [Nat.zero_add] at h
    exact h
  have s1 : ¬ (n : Int) < 0 := by omega
  have s2 : (n : Int) > 0 := by omega
  have hc1 := grownCap_ge w n 0 46
  have hc2 := grownCap_le_maxLen w n 0 46 (by unfold maxLen; omega)
  obtain ⟨G, hG⟩ : ∃ G, G = grownCap w n 0 46 := ⟨_, rfl⟩
  rw [← hG] at hrz hc1 hc2
  clear hG
  have hc3 : G ≤ 9223372036854775807 := by unfold maxLen at hc2; omega
  have hKw : Kept w (w.alloc (.cells (Builtin.zeroCells #[.int .u64 0] n ++ Builtin.zeroCells #[.int .u64 0] (G - n)) 46)).drew := ((Kept.refl w).alloc _).drew
  have hOw0 : (w.alloc (.cells (Builtin.zeroCells #[.int .u64 0] n ++ Builtin.zeroCells #[.int .u64 0] (G - n)) 46)).ownsRow w.heap.size 46 1 (.slice (some ⟨w.heap.size, 0, none⟩) 0 G) 0 [] :=
    World.ownsRow_made w _ G (Nat.le_refl _) hc2 (by simp [Builtin.zeroCells]; omega)
  have hOw := own_keptY hOw0 (Kept.drew (Kept.refl _)) (fun _ _ _ _ _ h => h)
  clear hc2
  go_enter Tryd.func90, Tryd.ntmps90
  go_wp2_with (at_builtin; refine Lib.wpList_append_run _ rfl _ _ _ _ rfl _ _ rfl rfl _ _ (hrz _) ?_)
  all_goals
    go_ret
    exact ⟨_, _, rfl, hKw, hOw⟩
theorem us_append (D E : Nat → Int) (a b : Nat) : us D a ++ us E b = us (fun t => if t < a then D t else E (t - a)) (a + b) := by
  induction b with
  | zero => simp [us]; intro t ht h; omega
  | succ b ih =>
    rw [us_succ, ← List.append_assoc, ih, show a + (b + 1) = a + b + 1 by omega, us_succ, if_neg (by omega), show a + b - a = b by omega]
/-- the factors twice -/
def twiceF (F : Nat → Nat) (n : Nat) : Nat → Nat := fun t => F (t % n)
theorem us_step (F : Nat → Nat) (n i : Nat) : us (fun t => ((twiceF F n t : Nat) : Int)) (i * n) ++ us (fun t => ((F t : Nat) : Int)) n = us (fun t => ((twiceF F n t : Nat) : Int)) (i * n + n) := by
  rw [us_append]
  exact us_congr fun t ht => by
    (try dsimp only)
    by_cases h : t < i * n
    · rw [if_pos h]
    · rw [if_neg h]
      unfold twiceF
      have e : t % n = t - i * n := by
        have h2 : t = n * i + (t - i * n) := by rw [Nat.mul_comm n i]; omega
        rw [h2, Nat.mul_add_mod, Nat.mod_eq_of_lt (by rw [Nat.mul_comm n i] at h2; omega)]
        rw [Nat.mul_comm n i]
        omega
      rw [e]
theorem us_cells {w : World} {gf n : Nat} {F : Nat → Nat} (h : ∀ t, t < n → w.cell? ⟨gf, t, none⟩ = some (.int .u64 ((F t : Nat) : Int))) : ∀ (j : Nat) (u : Value), (us (fun t => ((F t : Nat) : Int)) n)[j]? = some u → w.cell? ((⟨gf, 0, none⟩ : Addr).add j) = some u := fun j u hj => by
  have hlt : j < n := by
    rcases Nat.lt_or_ge j n with h1 | h1
    · exact h1
    · rw [List.getElem?_eq_none (by simp [us]; omega)] at hj; cases hj
  rw [us_get hlt] at hj
  cases hj
  rw [add_at, Nat.zero_add]
  exact h j hlt
set_option maxRecDepth 100000 in
set_option maxHeartbeats 4000000 in
theorem Concat_two (w : World) (bl ol cl : Nat) (gf n : Nat) (F : Nat → Nat) (hn : 0 < n) (hn9 : n ≤ 9)
    (hl : ∀ i, i < 2 → w.cell? ⟨bl, ol + i, none⟩ = some (.slice (some ⟨gf, 0, none⟩) n n))
    (hF : ∀ t, t < n → w.cell? ⟨gf, t, none⟩ = some (.int .u64 ((F t : Nat) : Int))) :
    Calls Tryd.prog 79 #[.slice (some ⟨bl, ol, none⟩) 2 cl] w fun e w' => ∃ v, e = .returned v ∧ Kept w w' ∧ CellsAt w' v (n + n) (fun t => .int .u64 ((twiceF F n t : Nat) : Int)) := by
  obtain ⟨i0, hi0, hz0, hz1, hz2⟩ := info_parts Tryd.infoU8
  have GR := Lib.hid (fun W => Grow_nil W (n + n) (by omega) (by omega))
  have HL := Lib.hid hl
  have HF := Lib.hid hF
  clear hl hF
  go_enter Tryd.func79, Tryd.ntmps79
  go_wp2_with fail
  go_loopg [3, 11] 2 (fun mm s3 s11 wr => ∃ i : Nat, i ≤ 2 ∧ mm = 2 - i ∧ s11 = .int .i64 i ∧ s3 = .int .i64 ((i * n : Nat) : Int) ∧ w = wr)
  case atStart => exact ⟨0, by omega, rfl, by first | rfl | go_num, by simp, rfl⟩
  case round =>
    obtain ⟨i, hi, rfl, rfl, rfl, rfl⟩ := hrel
    by_cases hlt : i < 2
    · have s1 : (i : Int) < 2 := by omega
      have s2 : (0 : Int) ≤ (i : Int) := by omega
      have t1 := HL.out i hlt
      obtain ⟨m, hm⟩ : ∃ m, m = i * n := ⟨_, rfl⟩
      have hm9 : m ≤ 9 := by
        rw [hm]
        have : i * n ≤ 1 * 9 := Nat.mul_le_mul (by omega) hn9
        omega
      have hnx : Hid ((((i + 1) * n : Nat) : Int) = (m : Int) + (n : Int)) := by show _ = _; rw [hm, Nat.add_mul]; simp
      rw [← hm]
      clear hm
      have s4 : ¬ (m : Int) + (n : Int) < 0 := by omega
      go_wp2_with fail
      go_roundg (2 - (i + 1))
      case measure => omega
      case rel => exact ⟨i + 1, by omega, rfl, by first | rfl | go_num, by rw [hnx.out], rfl⟩
    · obtain rfl : i = 2 := by omega
      have e2 : ((2 * n : Nat) : Int) = ((n + n : Nat) : Int) := by omega
      rw [e2]
      go_wp2_with (first | (go_at_call 90; refine (GR.out _).mono ?_; rintro e w1 ⟨g1, c1, rfl, hk1, hO1⟩))
      go_loopg [6, 27] 2 (fun mm s6 s27 wr => ∃ i : Nat, i ≤ 2 ∧ mm = 2 - i ∧ s27 = .int .i64 i ∧ Kept w wr ∧ w.heap.size ≤ wr.heap.size ∧ wr.ownsRow w.heap.size 46 1 s6 (i * n) (us (fun t => ((twiceF F n t : Nat) : Int)) (i * n)))
      case atStart => exact ⟨0, by omega, rfl, by first | rfl | go_num, hk1, hk1.size, by rw [Nat.zero_mul]; exact hO1⟩
      case round =>
        clear hk1 hO1
        obtain ⟨i, hi, rfl, rfl, hK, hsz, hO⟩ := hrel
        obtain ⟨sa, sc, rfl⟩ := own_shape hO
        by_cases hlt : i < 2
        · have s1 : (i : Int) < 2 := by omega
          have s2 : (0 : Int) ≤ (i : Int) := by omega
          have t1 := hK.cellSome (HL.out i hlt)
          have hm9 : i * n ≤ 9 := by
            have : i * n ≤ 1 * 9 := Nat.mul_le_mul (by omega) hn9
            omega
          have HC := us_cells (fun t ht => hK.cellSome (HF.out t ht))
          have HST := Lib.hid (us_step F n i)
          have hmm : Hid ((i + 1) * n = i * n + n) := Nat.succ_mul i n
          go_wp2_with (first | (at_builtin; refine wpList_append_own _ rfl _ _ 90 rfl w.heap.size 46 i0 (.int .u64 0) 1 8 Tryd.underlying90 hi0 hz0 hz1 hz2 rfl (by decide) _ _ _ rfl hO ⟨gf, 0, none⟩ n n (us (fun t => ((F t : Nat) : Int)) n) rfl ?c1 HC ?c2 ?c3 ?c4 ?c5 ?_))
          case c1 => simp [us]
          case c2 => intro u hu; simp [us] at hu; obtain ⟨t, _, rfl⟩ := hu; simp [Value.oneCell']
          case c3 => unfold maxLen; omega
          case c4 => omega
          case c5 => exact hsz
          intro v' w2 hO3 hgr _
          have hK2 : Kept w w2 := hK.grown hgr (fun k hk => (hO.lt k hk).1)
          have hsz2 : w.heap.size ≤ w2.heap.size := Nat.le_trans hsz hgr.size
          have hO4 : w2.ownsRow w.heap.size 46 1 v' ((i + 1) * n) (us (fun t => ((twiceF F n t : Nat) : Int)) ((i + 1) * n)) := by rw [hmm.out, ← HST.out]; exact hO3
          clear hO hO3 hgr hK HC hsz
          go_wp2_with fail
          go_roundg (2 - (i + 1))
          case measure => omega
          case rel => exact ⟨i + 1, by omega, rfl, by first | rfl | go_num, hK2, hsz2, hO4⟩
        · obtain rfl : i = 2 := by omega
          have HOO : Hid (CellsAt wr (.slice sa (2 * n) sc) (n + n) (fun t => .int .u64 ((twiceF F n t : Nat) : Int))) := by
            show CellsAt _ _ _ _
            have h := CellsAt.of_own hO
            have e : 2 * n = n + n := by omega
            rw [e] at h ⊢
            exact h.congr fun t ht => by rw [List.getD_eq_getElem?_getD, us_get ht]; rfl
          clear hO
          have s1 : ¬ ((2 : Nat) : Int) < 2 := by omega
          go_wp2_with fail
          go_ret
          exact ⟨_, rfl, hK, HOO.out⟩
end Go.Proofs.YtfbiinjpljmapaaDoor
