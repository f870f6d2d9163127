/-
  The reference of gait: Paley.
-/
import Derived.Test.YtcgbfhjefepafaaDoorPa
namespace Go.Proofs.YtcgbfhjefepafaaDoor
open Go.RowKit Go.Deep Go.Shelf

theorem palS_one (n i : Nat) : rowS 1 (palP n (i + 1)) = ⟨#[45]⟩ := by
  rw [minus_row]
  refine rowS_congr fun j hj => ?_
  rw [show j = 0 by omega]
  simp [palP]
theorem palS_same {n i : Nat} (hi : i < n) : palP n (i + 1) (i + 1) = false := by
  unfold palP
  rw [if_neg (by omega), if_neg (by omega), show n + (i + 1) - (i + 1) = n by omega, Nat.mod_self, leg_zero (by omega)]
set_option maxRecDepth 100000 in
set_option maxHeartbeats 8000000 in
theorem rPaley_any (w : World) (n : Nat) (hn1 : 1 ≤ n) (hn : n ≤ 100) :
    Calls Tryd.prog 40 #[.int .i64 n] w (StrsPost w (n + 1) (palS n)) := by
  obtain ⟨i0, hi, hz0, hz1, hz2⟩ := info_parts Tryd.info9
  have LE := Lib.hid (fun W => rLegendre_any W n hn1 (by omega))
  have hp0 := Lib.hid (palS_zero n)
  obtain ⟨S, HS⟩ : ∃ S, Hid (S = rowS n (legP n)) := ⟨_, rfl⟩
  have hSs : S.size = n := by rw [HS.out]; exact rowS_size _ _
  rw [← HS.out] at LE
  go_enter Tryd.func40, Tryd.ntmps40
  go_wp2_with (first | (go_at_call 38; refine (LE.out _).mono ?_; rintro e w1 ⟨rfl, rfl⟩))
  go_loopg [4, 5] (n + 1) (fun g s4 s5 wr => ∃ k : Nat, k ≤ n + 1 ∧ g = n + 1 - k ∧ s4 = .string (rowS k (fun _ => false)) ∧ s5 = .int .i64 k ∧ w = wr)
  case atStart => exact ⟨0, Nat.zero_le _, rfl, rfl, rfl, rfl⟩
  case round =>
    obtain ⟨k, hk, rfl, rfl, rfl, rfl⟩ := hrel
    have hsz : (rowS k (fun _ => false)).size = k := rowS_size _ _
    by_cases hlt : k < n + 1
    · have s2 : (k : Int) ≤ (n : Int) := by omega
      have hsn : Hid (rowS (k + 1) (fun _ => false) = rowS k (fun _ => false) ++ ⟨#[43]⟩) := row_snoc k (fun _ => false)
      have s4 : ¬ 9223372036854775807 < k + 1 := by omega
      obtain ⟨R', HR'⟩ : ∃ R', R' = rowS (k + 1) (fun _ => false) := ⟨_, rfl⟩
      rw [← HR'] at hsn
      generalize rowS k (fun _ => false) = R at *
      go_wp2_with fail
      go_roundg (n + 1 - (k + 1))
      case measure => omega
      case rel => exact ⟨k + 1, by omega, rfl, by rw [← HR', hsn.out], by first | rfl | go_num, rfl⟩
    · obtain rfl : k = n + 1 := by omega
      have s2 : ¬ ((n + 1 : Nat) : Int) ≤ (n : Int) := by omega
      rw [← hp0.out] at hsz ⊢
      obtain ⟨T, HT⟩ : ∃ T, Hid (T = palS n 0) := ⟨_, rfl⟩
      rw [← HT.out] at hsz ⊢
      go_wp2_with fail
      have hK0 : Kept w (w.alloc (.cells #[.string T] 9)) := (Kept.refl w).alloc _
      have hO0 := strs_lit w w.heap.size w.heap.size (palS n) T HT.out.symm rfl (Nat.le_refl _)
      obtain ⟨G, HG⟩ : ∃ G, Hid (G = w.heap.size) := ⟨_, rfl⟩
      have hsz0 : w.heap.size < (w.alloc (.cells #[.string T] 9)).heap.size := by simp
      generalize w.alloc (.cells #[.string T] 9) = W0 at *
      clear LE hsz
      go_loopg [6, 7] n (fun g s6 s7 wr => ∃ i : Nat, i ≤ n ∧ g = n - i ∧ s7 = .int .i64 ((i : Int) + 1) ∧ Kept w wr ∧ wr.ownsRow w.heap.size 9 1 s6 (i + 1) (strs (palS n) (i + 1)) ∧ w.heap.size < wr.heap.size)
      case atStart => exact ⟨0, Nat.zero_le _, rfl, rfl, hK0, hO0, hsz0⟩
      case round =>
        obtain ⟨i, hi1, rfl, rfl, hK, hO, hsz⟩ := hrel
        clear hK0 hO0 hsz0
        obtain ⟨va, vcap, rfl⟩ := own_shape hO
        by_cases hlt : i < n
        · have s3 : (i : Int) + 1 ≤ (n : Int) := by omega
          have hone := Lib.hid (palS_one n i)
          have hsame := Lib.hid (palS_same hlt)
          obtain ⟨Wo, rfl⟩ : ∃ Wo : World, Wo = wr := ⟨_, rfl⟩
          go_wp2_with fail
          go_loopg [8, 9] n (fun g s8 s9 wi => ∃ j : Nat, 1 ≤ j ∧ j ≤ n + 1 ∧ g + j = n + 1 ∧ s8 = .string (rowS j (palP n (i + 1))) ∧ s9 = .int .i64 j ∧ Wo = wi)
          case atStart => exact ⟨1, Nat.le_refl _, by omega, by omega, by rw [hone.out], rfl, rfl⟩
          case round =>
            obtain ⟨j, hj1, hj, hg, rfl, rfl, rfl⟩ := hrel
            have hszj : (rowS j (palP n (i + 1))).size = j := rowS_size _ _
            by_cases hlt2 : j < n + 1
            · have s4 : (j : Int) ≤ (n : Int) := by omega
              have s5 : ¬ 9223372036854775807 < j + 1 := by omega
              have hsn := Lib.hid (row_snoc j (palP n (i + 1)))
              obtain ⟨R', HR'⟩ : ∃ R', R' = rowS (j + 1) (palP n (i + 1)) := ⟨_, rfl⟩
              rw [← HR'] at hsn
              generalize rowS j (palP n (i + 1)) = R at *
              by_cases hij : i + 1 = j
              · subst hij
                have e2 : ((i : Int) + 1 == ((i + 1 : Nat) : Int)) = true := by simp
                have hres : Hid (R' = R ++ ⟨#[43]⟩) := by
                  show _ = _
                  rw [hsn.out, hsame.out]
                  rfl
                clear hsn
                go_wp2_with fail
                go_roundg (n + 1 - (i + 1 + 1))
                case measure => omega
                case rel => exact ⟨i + 1 + 1, by omega, by omega, by omega, by rw [← HR', hres.out], by first | rfl | go_num, rfl⟩
              · have e2 : ((i : Int) + 1 == (j : Int)) = false := by simp; omega
                have s0 : ¬ (n : Int) = 0 := by omega
                obtain ⟨a, HA⟩ : ∃ a : Nat, Hid (a = (n + j - (i + 1)) % n) := ⟨_, rfl⟩
                have han : a < n := by rw [HA.out]; exact Nat.mod_lt _ (by omega)
                have hc : (j : Int) - ((i : Int) + 1) + (n : Int) = ((n + j - (i + 1) : Nat) : Int) := by omega
                have e1 : Int.tmod ((j : Int) - ((i : Int) + 1) + (n : Int)) (n : Int) = (a : Int) := by rw [hc, HA.out]; exact (Int.ofNat_tmod _ n).symm
                have hpa : palP n (i + 1) j = legP n a := by
                  unfold palP
                  rw [if_neg (by omega), if_neg (by omega), ← HA.out]
                have hx : Hid (S.extract a (a + 1) = rowS 1 (fun _ => palP n (i + 1) j)) := by
                  show _ = _
                  rw [HS.out, rowS_extract _ _ _ _ (by omega), hpa, show a + 1 - a = 1 by omega]
                  exact rowS_congr fun t ht => by rw [show a + t = a by omega]
                have hres : Hid (R' = R ++ S.extract a (a + 1)) := by
                  show _ = _
                  rw [hsn.out, hx.out]
                have s6 : (0 : Int) ≤ (a : Int) := by omega
                have s7 : (a : Int) ≤ (a : Int) + 1 := by omega
                have s8 : (a : Int) + 1 ≤ (n : Int) := by omega
                have hxs : (S.extract a (a + 1)).size = 1 := by rw [hx.out]; exact rowS_size _ _
                have hw1 : IntKind.i64.wrap (a : Int) = (a : Int) := IntWalk.i64_in _ (by omega)
                have hw2 : IntKind.i64.wrap ((a : Int) + 1) = (a : Int) + 1 := IntWalk.i64_in _ (by omega)
                have et : ((a : Int) + 1).toNat = a + 1 := by omega
                clear hsn HA hc hpa hx hij
                go_wp2_with fail
                go_roundg (n + 1 - (j + 1))
                case measure => omega
                case rel => exact ⟨j + 1, by omega, by omega, by omega, by first | (rw [← HR', hres.out]) | (rw [← HR', hres.out]; rfl), by first | rfl | go_num, rfl⟩
            · obtain rfl : j = n + 1 := by omega
              have s4 : ¬ ((n + 1 : Nat) : Int) ≤ (n : Int) := by omega
              have hnx : Hid (strs (palS n) (i + 1 + 1) = strs (palS n) (i + 1) ++ [.string (rowS (n + 1) (palP n (i + 1)))]) := strs_succ _ _
              generalize rowS (n + 1) (palP n (i + 1)) = R at *
              go_wp2_with (first | (at_builtin; refine wpList_append_own _ rfl _ _ 55 rfl w.heap.size 9 i0 (.string ⟨#[]⟩) 1 16 Tryd.underlying55 hi hz0 hz1 hz2 rfl (by decide) _ _ _ rfl (hO.alloc _) ⟨_, 0, none⟩ 1 1 [.string R] rfl rfl (cell_one_new _ _ _) ?c2 ?c3 ?c4 ?c5 ?_))
              case c2 => simp [Value.oneCell']
              case c3 => unfold maxLen; omega
              case c4 => omega
              case c5 => (try simp); omega
              intro ov' w2 hO3 hgr _
              have hK2 : Kept w w2 := (hK.alloc _).grew hgr (hO.alloc _) (Nat.le_refl _)
              have hO4 : w2.ownsRow w.heap.size 9 1 ov' (i + 1 + 1) (strs (palS n) (i + 1 + 1)) := by rw [hnx.out]; exact hO3
              have hsz2 : w.heap.size < w2.heap.size := by have := hgr.size; simp at this; omega
              clear hO3 hgr hO
              go_wp2_with fail
              go_roundg (n - (i + 1))
              case measure => omega
              case rel => exact ⟨i + 1, by omega, rfl, by first | rfl | go_num, hK2, hO4, hsz2⟩
        · obtain rfl : i = n := by omega
          have s3 : ¬ (i : Int) + 1 ≤ (i : Int) := by omega
          go_wp2_with fail
          go_ret
          exact ⟨_, rfl, hK, hO⟩
end Go.Proofs.YtcgbfhjefepafaaDoor
