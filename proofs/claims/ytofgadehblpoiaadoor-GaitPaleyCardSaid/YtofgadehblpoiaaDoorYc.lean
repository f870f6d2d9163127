/-
  The reference of gait: both, Sylvester.
-/
import Derived.Test.YtofgadehblpoiaaDoorYb
import Derived.Test.YtofgadehblpoiaaDoorRc
namespace Go.Proofs.YtofgadehblpoiaaDoor
open Go.RowKit Go.Deep Go.Shelf

set_option maxRecDepth 100000 in
set_option maxHeartbeats 4000000 in
theorem rboth_any (w : World) (i j : Nat) (hi : i < 128) (hj : j < 128) :
    Calls Tryd.prog 65 #[.int .i64 i, .int .i64 j] w fun e w' => e = .returned (.int .i64 ((pop (i &&& j) : Nat) : Int)) ∧ w = w' := by
  have hv := and_lt (j := j) hi
  have ea := and64 i j (by omega) (by omega)
  obtain ⟨v0, HV⟩ : ∃ v0, v0 = i &&& j := ⟨_, rfl⟩
  rw [← HV] at hv ea ⊢
  clear HV
  go_enter Tryd.func65, Tryd.ntmps65
  go_wp2_with fail
  go_loopg [5, 6] 7 (fun g s5 s6 wr => ∃ f v c : Nat, f = g ∧ f ≤ 7 ∧ v < 2 ^ f ∧ c + f ≤ 7 ∧ Hid (c + popF f v = pop v0) ∧ s5 = .int .i64 c ∧ s6 = .int .i64 v ∧ w = wr)
  case atStart => exact ⟨7, v0, 0, rfl, Nat.le_refl _, hv, by omega, by show _ = _; rw [Nat.zero_add]; rfl, rfl, rfl, rfl⟩
  case round =>
    obtain ⟨f, v, c, rfl, hg, hvg, hcg, hp, rfl, rfl, rfl⟩ := hrel
    by_cases h0 : v = 0
    · subst h0
      have hr : Hid (c = pop v0) := by show _ = _; rw [← hp.out, popF_zero]; omega
      clear hp
      go_wp2_with fail
      go_ret
      exact ⟨ret_int (by rw [hr.out]), rfl⟩
    · obtain ⟨f, rfl⟩ : ∃ f', f = f' + 1 := ⟨f - 1, by
        rcases Nat.eq_zero_or_pos f with e | e
        · subst e; simp at hvg; omega
        · omega⟩
      have s1 : (v : Int) > 0 := by omega
      have hp2 : Hid (c + v % 2 + popF f (v / 2) = pop v0) := by show _ = _; rw [← hp.out]; simp only [popF]; omega
      have hv2 : v / 2 < 2 ^ f := by rw [Nat.pow_succ] at hvg; omega
      obtain ⟨q, HQ⟩ : ∃ q : Nat, Hid (q = v % 2) := ⟨_, rfl⟩
      obtain ⟨u, HU⟩ : ∃ u : Nat, Hid (u = v / 2) := ⟨_, rfl⟩
      have hq : q < 2 := by rw [HQ.out]; omega
      have et : Int.tmod (v : Int) 2 = (q : Int) := by rw [HQ.out]; exact (Int.ofNat_tmod v 2).symm
      have ed : Int.tdiv (v : Int) 2 = (u : Int) := by rw [HU.out]; exact (Int.ofNat_tdiv v 2).symm
      rw [← HQ.out, ← HU.out] at hp2
      rw [← HU.out] at hv2
      have hvs : v < 128 := by
        have : 2 ^ (f + 1) ≤ 2 ^ 7 := Nat.pow_le_pow_right (by omega) hg
        omega
      have hus : u < 128 := by rw [HU.out]; omega
      clear hp HQ HU hvg
      go_wp2_with fail
      go_roundg f
      case measure => omega
      case rel => exact ⟨f, u, c + q, rfl, by omega, hv2, by omega, hp2, by first | rfl | go_num, by first | rfl | go_num, rfl⟩
set_option maxRecDepth 100000 in
set_option maxHeartbeats 8000000 in
theorem rSylvester_any (w : World) (k : Nat) (hk : k ≤ 6) :
    Calls Tryd.prog 29 #[.int .i64 k] w (StrsPost w (2 ^ k) (sylS (2 ^ k))) := by
  obtain ⟨i0, hi, hz0, hz1, hz2⟩ := info_parts Tryd.info9
  have hN : 2 ^ k ≤ 64 := by have := Nat.pow_le_pow_right (n := 2) (by omega) hk; omega
  obtain ⟨N, HN⟩ : ∃ N : Nat, Hid (N = 2 ^ k) := ⟨2 ^ k, rfl⟩
  have e0 : (2 : Int) ^ k = (N : Int) := by rw [HN.out]; simp
  rw [← HN.out] at hN ⊢
  have BO := Lib.hid (fun W (i j : Nat) (hi : i < 128) (hj : j < 128) => rboth_any W i j hi hj)
  have hO0 := own_zero w w.heap.size 9 (Nat.le_refl _)
  have hK0 : Kept w (w.alloc (.cells #[] 9)) := (Kept.refl w).alloc _
  go_enter Tryd.func29, Tryd.ntmps29
  go_wp2_with fail
  have hsz0 : w.heap.size < (w.alloc (.cells #[] 9)).heap.size := by simp
  obtain ⟨G, HG⟩ : ∃ G, Hid (G = w.heap.size) := ⟨_, rfl⟩
  generalize w.alloc (.cells #[] 9) = W0 at *
  go_loopg [3, 4] N (fun g s3 s4 wr => ∃ i : Nat, i ≤ N ∧ g = N - i ∧ s4 = .int .i64 i ∧ Kept w wr ∧ wr.ownsRow w.heap.size 9 1 s3 i (strs (sylS N) i) ∧ w.heap.size < wr.heap.size)
  case atStart => exact ⟨0, Nat.zero_le _, rfl, rfl, hK0, hO0, hsz0⟩
  case round =>
    obtain ⟨i, hi1, rfl, rfl, hK, hO, hsz⟩ := hrel
    clear hK0 hO0 hsz0
    obtain ⟨va, vcap, rfl⟩ := own_shape hO
    by_cases hlt : i < N
    · have s3 : (i : Int) < (N : Int) := by omega
      obtain ⟨Wo, rfl⟩ : ∃ Wo : World, Wo = wr := ⟨_, rfl⟩
      go_wp2_with fail
      go_loopg [5, 6] N (fun g s5 s6 wi => ∃ j : Nat, j ≤ N ∧ g + j = N ∧ s5 = .string (rowS j (fun j => par i j)) ∧ s6 = .int .i64 j ∧ Wo = wi)
      case atStart => exact ⟨0, Nat.zero_le _, by omega, rfl, rfl, rfl⟩
      case round =>
        obtain ⟨j, hj, hg, rfl, rfl, rfl⟩ := hrel
        have hszj : (rowS j (fun j => par i j)).size = j := rowS_size _ _
        by_cases hlt2 : j < N
        · have s4 : (j : Int) < (N : Int) := by omega
          have BOj := Lib.hid (fun W => BO.out W i j (by omega) (by omega))
          have hsn := Lib.hid (row_snoc j (fun j => par i j))
          have hpb := pm_bit (par i j)
          have hTs : (rowS 1 (fun _ => par i j)).size = 1 := rowS_size _ _
          unfold pmS at hpb
          have hbd : Hid (par i j = (pop (i &&& j) % 2 == 1)) := rfl
          have hp := popF_le 7 (i &&& j)
          rw [show popF 7 (i &&& j) = pop (i &&& j) from rfl] at hp
          generalize pop (i &&& j) = p at *
          obtain ⟨q, HQ⟩ : ∃ q : Nat, Hid (q = p % 2) := ⟨_, rfl⟩
          have hq2 : q < 2 := by rw [HQ.out]; omega
          have et : Int.tmod (p : Int) 2 = (q : Int) := by rw [HQ.out]; exact (Int.ofNat_tmod p 2).symm
          rw [← HQ.out] at hbd
          have s5 : ¬ 9223372036854775807 < j + 1 := by omega
          obtain ⟨R', HR'⟩ : ∃ R', R' = rowS (j + 1) (fun j => par i j) := ⟨_, rfl⟩
          rw [← HR'] at hsn
          obtain ⟨b0, HB⟩ : ∃ b0, b0 = par i j := ⟨_, rfl⟩
          simp only [← HB] at hpb hTs hbd hsn
          clear HQ HB
          cases b0 with
          | true =>
            obtain rfl : q = 1 := by simpa using hbd.out.symm
            simp only [if_true] at hpb
            generalize rowS 1 (fun _ => true) = T at *
            generalize rowS j (fun j => par i j) = R at *
            go_wp2_with (first | (go_at_call 65; refine (BOj.out _).mono ?_; rintro e w1 ⟨rfl, rfl⟩))
            go_roundg (N - (j + 1))
            case measure => omega
            case rel => exact ⟨j + 1, by omega, by omega, by rw [← HR', hsn.out], by first | rfl | go_num, rfl⟩
          | false =>
            obtain rfl : q = 0 := by
              have h1 : q ≠ 1 := fun e => by have := hbd.out; simp [e] at this
              omega
            simp only [Bool.false_eq_true, if_false] at hpb
            generalize rowS 1 (fun _ => false) = T at *
            generalize rowS j (fun j => par i j) = R at *
            go_wp2_with (first | (go_at_call 65; refine (BOj.out _).mono ?_; rintro e w1 ⟨rfl, rfl⟩))
            go_roundg (N - (j + 1))
            case measure => omega
            case rel => exact ⟨j + 1, by omega, by omega, by rw [← HR', hsn.out], by first | rfl | go_num, rfl⟩
        · obtain rfl : j = N := by omega
          have hnx : Hid (strs (sylS j) (i + 1) = strs (sylS j) i ++ [.string (rowS j (fun j => par i j))]) := strs_succ _ _
          generalize rowS j (fun j => par i j) = R at *
          go_wp2_with (first | (at_builtin; refine wpList_append_own _ rfl _ _ 42 rfl w.heap.size 9 i0 (.string ⟨#[]⟩) 1 16 Tryd.underlying42 hi hz0 hz1 hz2 rfl (by decide) _ _ _ rfl (hO.alloc _) ⟨_, 0, none⟩ 1 1 [.string R] rfl rfl (cell_one_new _ _ _) ?c2 ?c3 ?c4 ?c5 ?_))
          case c2 => simp [Value.oneCell']
          case c3 => unfold maxLen; omega
          case c4 => omega
          case c5 => (try simp); omega
          intro ov' w2 hO3 hgr _
          have hK2 : Kept w w2 := (hK.alloc _).grew hgr (hO.alloc _) (Nat.le_refl _)
          have hO4 : w2.ownsRow w.heap.size 9 1 ov' (i + 1) (strs (sylS j) (i + 1)) := by rw [hnx.out]; exact hO3
          have hsz2 : w.heap.size < w2.heap.size := by have := hgr.size; simp at this; omega
          clear hO3 hgr hO
          go_wp2_with fail
          go_roundg (j - (i + 1))
          case measure => omega
          case rel => exact ⟨i + 1, by omega, rfl, by first | rfl | go_num, hK2, hO4, hsz2⟩
    · obtain rfl : i = N := by omega
      go_wp2_with fail
      go_ret
      exact ⟨_, rfl, hK, hO⟩
end Go.Proofs.YtofgadehblpoiaaDoor
