/-
  Matrices as tables of rows; the reference's Matrix.
-/
import Derived.Test.YtlnpipkhofhlnaaTw
import Derived.Test.YtlnpipkhofhlnaaIk
import Derived.Deep.AppendLies
namespace Go.Proofs.Ytlnpipkhofhlnaa
open Go.RowKit Go.Deep

/-- v is a slice of k rows of N ints each -/
def MatAt (w : World) (v : Value) (k N : Nat) (M : Nat → Nat → Int) : Prop :=
  ∃ us : Nat → Value, CellsAt w v k us ∧ ∀ i, i < k → ∃ b o cap, us i = .slice (some ⟨b, o, none⟩) N cap ∧ N ≤ cap ∧ cap ≤ maxLen ∧ ∀ j, j < N → w.cell? ⟨b, o + j, none⟩ = some (.int .i64 (M i j))
theorem MatAt.kept {w w' : World} {v : Value} {k N : Nat} {M : Nat → Nat → Int} (h : MatAt w v k N M) (kk : Kept w w') : MatAt w' v k N M := by
  obtain ⟨us, h1, h2⟩ := h
  refine ⟨us, h1.kept kk, fun i hi => ?_⟩
  obtain ⟨b, o, cap, e, h3, h4, h5⟩ := h2 i hi
  exact ⟨b, o, cap, e, h3, h4, fun j hj => kk.cellSome (h5 j hj)⟩
theorem MatAt.congr {w : World} {v : Value} {k N : Nat} {M M' : Nat → Nat → Int} (h : MatAt w v k N M) (e : ∀ i j, i < k → j < N → M i j = M' i j) : MatAt w v k N M' := by
  obtain ⟨us, h1, h2⟩ := h
  refine ⟨us, h1, fun i hi => ?_⟩
  obtain ⟨b, o, cap, e2, h3, h4, h5⟩ := h2 i hi
  exact ⟨b, o, cap, e2, h3, h4, fun j hj => by rw [← e i j hi hj]; exact h5 j hj⟩
def rowsL (M : Nat → Nat → Int) (k : Nat) : List (Nat → Int) := (List.range k).map M
theorem rowsL_len (M : Nat → Nat → Int) (k : Nat) : (rowsL M k).length = k := by simp [rowsL]
theorem rowsL_at {M : Nat → Nat → Int} {k i : Nat} (h : i < k) : (rowsL M k)[i]? = some (M i) := by simp [rowsL, h]
theorem rowsL_succ (M : Nat → Nat → Int) (k : Nat) : rowsL M (k + 1) = rowsL M k ++ [M k] := by simp [rowsL, List.range_succ]
theorem own_caps {w : World} {base n : Nat} {b cap : Nat} {xs : List Value} (h : w.ownsRow base 3 1 (.slice (some ⟨b, 0, none⟩) n cap) n xs) : n ≤ cap ∧ cap ≤ maxLen := by
  rcases h.2 with ⟨e, _⟩ | ⟨g, cap', cur, e, _, _, h1, h2, _, _⟩
  · cases e
  · cases e
    exact ⟨h1, h2⟩
theorem TabL.mat {w : World} {base lo : Nat} {v : Value} {M : Nat → Nat → Int} {k N : Nat} (h : TabL w base lo v (rowsL M k) N) (hN : 0 < k → 1 ≤ N) : MatAt w v k N M := by
  obtain ⟨us, h1, h2⟩ := h.read
  rw [rowsL_len] at h1
  refine ⟨us, h1, fun i hi => ?_⟩
  have h3 := h2 i (M i) (rowsL_at hi)
  have hN1 := hN (by omega)
  obtain ⟨b, cap, e, _, _⟩ := h3.form (by omega)
  rw [e] at h3
  have h4 := own_caps h3
  obtain ⟨a2, b2, o2, cap2, e2, ha2, hc2⟩ := ints_at h3
  cases e2
  have := ha2 (by omega)
  cases this
  exact ⟨b, 0, cap, e, h4.1, h4.2, hc2⟩
theorem mat_shape {w : World} {v : Value} {k N : Nat} {M : Nat → Nat → Int} (h : MatAt w v k N M) : ∃ a cap, v = .slice a k cap := by
  obtain ⟨us, ⟨a, b, o, cap, e, _⟩, _⟩ := h
  exact ⟨a, cap, e⟩
def TabPost (w : World) (k N : Nat) (M : Nat → Nat → Int) (e : Ending) (w' : World) : Prop := ∃ v, e = .returned v ∧ Kept w w' ∧ TabL w' w.heap.size w.heap.size v (rowsL M k) N
set_option maxRecDepth 100000 in
set_option maxHeartbeats 4000000 in
theorem matrix_ref (w : World) (n m : Nat) (ev : Value) (A B : Nat → Int) (hE : PairsAt w ev m A B) (hm : m ≤ 20) (hn2 : 2 ≤ n) (hn8 : n ≤ 8) :
    Calls Try.prog 32 #[.int .i64 n, ev] w (TabPost w (n - 1) (n - 1) (lapM (degN A B m) (btwN A B m))) := by
  obtain ⟨N, HN⟩ : ∃ N, Hid (N = n - 1) := ⟨_, rfl⟩
  have hN7 : N ≤ 7 := by rw [HN.out]; omega
  have hN1 : 1 ≤ N := by rw [HN.out]; omega
  rw [← HN.out]
  obtain ⟨M, HM⟩ : ∃ M, Hid (M = lapM (degN A B m) (btwN A B m)) := ⟨_, rfl⟩
  rw [← HM.out]
  have HMD : Hid (∀ i, M i i = (deg A B m ((i : Int) + 1) : Int)) := fun i => by rw [HM.out]; exact if_pos rfl
  have HMO : Hid (∀ i j, i ≠ j → M i j = -(btw A B m ((i : Int) + 1) ((j : Int) + 1) : Int)) := fun i j h => by rw [HM.out]; exact if_neg h
  obtain ⟨i0, hi, hz0, hz1, hz2⟩ := info_parts Try.info3
  obtain ⟨i1, hii, hy0, hy1, hy2⟩ := info_parts Try.infoInts
  have hO0 := own_zeroT w w.heap.size 25 1 (Nat.le_refl _)
  have hT0 := TabL.nil _ w.heap.size w.heap.size N hO0
  have hK0 : Kept w (w.alloc (.cells #[] 25)) := (Kept.refl w).alloc _
  clear hO0
  go_enter Try.func32, Try.ntmps32
  go_wp2_with fail
  generalize w.alloc (.cells #[] 25) = W0 at *
  go_loopg [5, 6] N (fun g s5 s6 wr => ∃ k : Nat, k ≤ N ∧ g = N - k ∧ s6 = .int .i64 ((k : Int) + 1) ∧ Kept w wr ∧ TabL wr w.heap.size w.heap.size s5 (rowsL M k) N)
  case atStart => exact ⟨0, Nat.zero_le _, rfl, rfl, hK0, hT0⟩
  case round =>
    obtain ⟨k, hk, rfl, rfl, hK, hT⟩ := hrel
    clear hK0 hT0
    by_cases hlt : k < N
    · have s1 : (k : Int) + 1 < (n : Int) := by have := HN.out; omega
      obtain ⟨Ws, rfl⟩ : ∃ Ws : World, Ws = wr := ⟨_, rfl⟩
      have hO0 := own_zero Ws Ws.heap.size (Nat.le_refl _)
      have hk1 : Kept Ws (Ws.alloc (.cells #[] 3)) := (Kept.refl Ws).alloc _
      go_wp2_with fail
      generalize Ws.alloc (.cells #[] 3) = W1 at *
      go_loopg [7, 8] N (fun g s7 s8 wi => ∃ j : Nat, j ≤ N ∧ g = N - j ∧ s8 = .int .i64 ((j : Int) + 1) ∧ Kept Ws wi ∧ wi.ownsRow Ws.heap.size 3 1 s7 j (ints (M k) j))
      case atStart => exact ⟨0, Nat.zero_le _, rfl, rfl, hk1, hO0⟩
      case round =>
        obtain ⟨j, hj, rfl, rfl, hKi, hO⟩ := hrel
        clear hO0 hk1
        by_cases hlj : j < N
        · have s2 : (j : Int) + 1 < (n : Int) := by have := HN.out; omega
          have hE2 := hE.kept (hK.trans hKi)
          have hwi := Kept.size hKi
          by_cases hkj : k = j
          · subst hkj
            obtain ⟨dv, HDV⟩ : ∃ dv, Hid (dv = deg A B m ((k : Int) + 1)) := ⟨_, rfl⟩
            have hmd := HMD.out k
            rw [← HDV.out] at hmd
            have HMDk := Lib.hid hmd
            clear hmd
            go_wp2_with fail
            refine (degree_w _ _ m A B _ dv HDV.out hE2 (by omega)).mono ?_
            rintro e w5 ⟨rfl, rfl⟩
            go_wp2_with (first | (at_builtin; refine wpList_append_own _ rfl _ _ 25 rfl Ws.heap.size 3 i0 (.int .i64 0) 1 8 Try.underlying25 hi hz0 hz1 hz2 rfl (by decide) _ _ _ rfl (hO.alloc _) ⟨wr.heap.size, 0, none⟩ 1 1 [.int .i64 (dv : Int)] rfl rfl ?c1 ?c2 ?c3 ?c4 ?c5 ?_))
            case c1 => exact cell_one_new wr (.int .i64 (dv : Int)) 3
            case c2 => simp [Value.oneCell']
            case c3 => unfold maxLen; omega
            case c4 => omega
            case c5 => simp; omega
            intro ov' w2 hO3 hgr _
            have hX := grew_X hgr (hO.alloc _)
            have hK3 : Kept Ws w2 := (hKi.alloc _).step hX (fun i hi => hi)
            have hO4 : w2.ownsRow Ws.heap.size 3 1 ov' (k + 1) (ints (M k) (k + 1)) := by rw [ints_succ, HMDk.out]; exact hO3
            clear hO3 hgr hX hKi hO
            go_wp2_with fail
            go_roundg (N - (k + 1))
            case measure => omega
            case rel => exact ⟨k + 1, by omega, rfl, by go_num, hK3, hO4⟩
          · obtain ⟨dv, HDV⟩ : ∃ dv, Hid (dv = btw A B m ((k : Int) + 1) ((j : Int) + 1)) := ⟨_, rfl⟩
            have hd20 : dv ≤ 20 := by rw [HDV.out]; exact Nat.le_trans (cnt_le _ _) hm
            have hmd := HMO.out k j hkj
            rw [← HDV.out] at hmd
            have HMDk := Lib.hid hmd
            have e1 : ((k : Int) + 1 == (j : Int) + 1) = false := by simp; omega
            have HKJ := Lib.hid hkj
            clear hmd hkj
            go_wp2_with fail
            refine (between_w _ _ m A B _ _ dv HDV.out hE2 (by omega)).mono ?_
            rintro e w5 ⟨rfl, rfl⟩
            have s3 : IntKind.i64.wrap (-(dv : Int)) = -(dv : Int) := IntWalk.i64_in _ (by omega)
            go_wp2_with (first | (at_builtin; refine wpList_append_own _ rfl _ _ 25 rfl Ws.heap.size 3 i0 (.int .i64 0) 1 8 Try.underlying25 hi hz0 hz1 hz2 rfl (by decide) _ _ _ rfl (hO.alloc _) ⟨wr.heap.size, 0, none⟩ 1 1 [.int .i64 (-(dv : Int))] rfl rfl ?d1 ?d2 ?d3 ?d4 ?d5 ?_))
            case d1 => exact cell_one_new wr (.int .i64 (-(dv : Int))) 3
            case d2 => simp [Value.oneCell']
            case d3 => unfold maxLen; omega
            case d4 => omega
            case d5 => simp; omega
            intro ov' w2 hO3 hgr _
            have hX := grew_X hgr (hO.alloc _)
            have hK3 : Kept Ws w2 := (hKi.alloc _).step hX (fun i hi => hi)
            have hO4 : w2.ownsRow Ws.heap.size 3 1 ov' (j + 1) (ints (M k) (j + 1)) := by rw [ints_succ, HMDk.out]; exact hO3
            clear hO3 hgr hX hKi hO
            go_wp2_with fail
            go_roundg (N - (j + 1))
            case measure => omega
            case rel => exact ⟨j + 1, by omega, rfl, by go_num, hK3, hO4⟩
        · obtain rfl : j = N := by omega
          have s2 : ¬ (j : Int) + 1 < (n : Int) := by have := HN.out; omega
          obtain ⟨b, cap, rfl, hbb, hbl⟩ := hO.form (by omega)
          obtain ⟨vs, hv1, hv2, hv3⟩ := hT.kept hKi
          rw [rowsL_len] at hv1 hv2
          have HV1 := Lib.hid hv1
          have hKw := hK.trans hKi
          have hwi := Kept.size hKw
          clear hv1
          go_wp2_with (first | (at_builtin; refine wpList_append_own _ rfl _ _ 63 rfl w.heap.size 25 i1 (.slice none 0 0) 1 24 Try.underlying63 hii hy0 hy1 hy2 rfl (by decide) _ _ _ rfl (hv2.alloc _) ⟨wr.heap.size, 0, none⟩ 1 1 [.slice (some ⟨b, 0, none⟩) j cap] rfl rfl ?e1 ?e2 ?e3 ?e4 ?e5 ?_))
          case e2 => simp [Value.oneCell']
          case e3 => unfold maxLen; omega
          case e4 => omega
          case e5 => (try simp); omega
          intro ov5 W5 hO7 hgr7 _
          have hX7 := grew_X hgr7 (hv2.alloc _)
          have hK5 : Kept w W5 := (hKw.alloc _).step hX7 (fun i hi => hi)
          have hT5 : TabL W5 w.heap.size w.heap.size ov5 (rowsL M (k + 1)) j := by
            rw [rowsL_succ]
            have hss := Kept.size hK
            refine TabL.grow (by rw [rowsL_len]; exact HV1.out) (by rw [rowsL_len]; exact hv2.alloc _) (fun i x hx => ?_) (own_base (hO.alloc _) hss) (by rw [rowsL_len]; exact hO7) hgr7
            obtain ⟨u, h4, h5⟩ := hv3 i x hx
            exact ⟨u, h4, h5.alloc _⟩
          clear hO7 hgr7 hX7 hv2 hv3 hO hKi hKw hK hT
          go_wp2_with fail
          go_roundg (j - (k + 1))
          case measure => omega
          case rel => exact ⟨k + 1, by omega, rfl, by go_num, hK5, hT5⟩
    · obtain rfl : k = N := by omega
      have s1 : ¬ (k : Int) + 1 < (n : Int) := by have := HN.out; omega
      go_wp2_with fail
      go_ret
      exact ⟨_, rfl, hK, hT⟩
end Go.Proofs.Ytlnpipkhofhlnaa
