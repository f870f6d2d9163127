/-
  The reference of gait: Like.
-/
import Derived.Test.YthigeafojekclaaDoorRs
namespace Go.Proofs.YthigeafojekclaaDoor
open Go.RowKit Go.Deep Go.Shelf

/-- the likeness k, by the signs -/
def likR (s : ByteArray) (k m : Nat) : Int := sumZ (fun i => sgS s i * sgS s (i + k)) m
theorem likR_row (n k : Nat) (p : Nat → Bool) (hk : k ≤ n) : likR (rowS n p) k (n - k) = likeN n p k := by
  unfold likR likeN lkN
  exact sumZ_congr fun i hi => by rw [sgS_row (by omega), sgS_row (by omega), Nat.add_comm]
theorem likR_bound (s : ByteArray) (k m : Nat) : -(m : Int) ≤ likR s k m ∧ likR s k m ≤ m := by
  have := sumZ_le (f := fun i => sgS s i * sgS s (i + k)) (c := 1) (n := m) (fun i _ => by rcases sgS_cases s i with h | h <;> rcases sgS_cases s (i + k) with h2 | h2 <;> rw [h, h2] <;> omega)
  unfold likR
  omega
def IntsPost (w : World) (n : Nat) (f : Nat → Int) (e : Ending) (w' : World) : Prop := ∃ v, e = .returned v ∧ Kept w w' ∧ w'.ownsRow w.heap.size 3 1 v n (ints f n)
set_option maxRecDepth 100000 in
set_option maxHeartbeats 4000000 in
theorem rLike_any (w : World) (s : ByteArray) (n : Nat) (hs : s.size = n) (hn : n ≤ 100) :
    Calls Tryd.prog 12 #[.string s] w (IntsPost w n (fun k => likR s k (n - k))) := by
  obtain ⟨i0, hi, hz0, hz1, hz2⟩ := info_parts Tryd.info3
  have SG := Lib.hid (fun (W : World) (i : Nat) (h : i < s.size) => Sign_any W s i h)
  have hO0 := own_zero w w.heap.size 3 (Nat.le_refl _)
  have hK0 : Kept w (w.alloc (.cells #[] 3)) := (Kept.refl w).alloc _
  have hs0 : w.heap.size < (w.alloc (.cells #[] 3)).heap.size := by simp
  obtain ⟨G, HG⟩ : ∃ G, Hid (G = w.heap.size) := ⟨_, rfl⟩
  go_enter Tryd.func12, Tryd.ntmps12
  go_wp2_with fail
  generalize w.alloc (.cells #[] 3) = W0 at *
  go_loopg [3, 4] n (fun g s3 s4 wr => ∃ k : Nat, k ≤ n ∧ g = n - k ∧ s4 = .int .i64 k ∧ Kept w wr ∧ wr.ownsRow w.heap.size 3 1 s3 k (ints (fun k => likR s k (n - k)) k) ∧ w.heap.size < wr.heap.size)
  case atStart => exact ⟨0, Nat.zero_le _, rfl, rfl, hK0, hO0, hs0⟩
  case round =>
    obtain ⟨k, hk, rfl, rfl, hK, hO, hsz⟩ := hrel
    clear hK0 hO0 hs0
    obtain ⟨va, vcap, rfl⟩ := own_shape hO
    by_cases hlt : k < n
    · have s2 : (k : Int) < (n : Int) := by omega
      obtain ⟨Wo, rfl⟩ : ∃ Wo : World, Wo = wr := ⟨_, rfl⟩
      go_wp2_with fail
      go_loopg [5, 6] (n - k) (fun g s5 s6 wi => ∃ (i : Nat) (x : Int), i ≤ n - k ∧ g = n - k - i ∧ s6 = .int .i64 i ∧ s5 = .int .i64 x ∧ Wo = wi ∧ Hid (x = likR s k i) ∧ -(i : Int) ≤ x ∧ x ≤ i)
      case atStart => exact ⟨0, 0, Nat.zero_le _, rfl, rfl, rfl, rfl, rfl, by omega, by omega⟩
      case round =>
        obtain ⟨i, x, hi2, rfl, rfl, rfl, rfl, hx, hb1, hb2⟩ := hrel
        by_cases hlt2 : i < n - k
        · have s3 : (i : Int) + (k : Int) < (n : Int) := by omega
          have SG1 := Lib.hid (fun W => SG.out W i (by omega))
          have SG2 := Lib.hid (fun W => show Calls Tryd.prog 30 #[.string s, .int .i64 ((i : Int) + (k : Int))] W fun e w' => e = .returned (.int .i64 (sgS s (i + k))) ∧ W = w' by
            have := SG.out W (i + k) (by omega)
            rw [show ((i + k : Nat) : Int) = (i : Int) + (k : Int) by omega] at this
            exact this)
          have hnx : Hid (likR s k (i + 1) = x + sgS s i * sgS s (i + k)) := by show _ = _; rw [hx.out]; rfl
          have hp : -1 ≤ sgS s i * sgS s (i + k) ∧ sgS s i * sgS s (i + k) ≤ 1 := by rcases sgS_cases s i with h | h <;> rcases sgS_cases s (i + k) with h2 | h2 <;> rw [h, h2] <;> omega
          generalize sgS s i = a at *
          generalize sgS s (i + k) = b at *
          obtain ⟨hp1, hp2⟩ := hp
          have w1 : wrap64 (a * b) = a * b := IntWalk.wrap64_in _ (by omega)
          obtain ⟨y, HY⟩ : ∃ y, Hid (y = a * b) := ⟨_, rfl⟩
          rw [← HY.out] at hp1 hp2 hnx w1
          have hab : a * b = y := HY.out.symm
          clear hx
          go_wp2_with (first | (go_at_call 30; first | (refine (SG1.out _).mono ?_; clear SG1; rintro e w1 ⟨rfl, rfl⟩) | (refine (SG2.out _).mono ?_; rintro e w1 ⟨rfl, rfl⟩)))
          go_roundg (n - k - (i + 1))
          case measure => omega
          case rel => exact ⟨i + 1, x + y, by omega, rfl, by first | rfl | go_num, rfl, rfl, hnx.out.symm, by omega, by omega⟩
        · obtain rfl : i = n - k := by omega
          have hnx : Hid (ints (fun k => likR s k (n - k)) (k + 1) = ints (fun k => likR s k (n - k)) k ++ [.int .i64 x]) := by show _ = _; rw [hx.out]; exact ints_succ _ _
          have s3 : ¬ ((n - k : Nat) : Int) + (k : Int) < (n : Int) := by omega
          clear hx
          go_wp2_with (first | (at_builtin; refine wpList_append_own _ rfl _ _ 23 rfl w.heap.size 3 i0 (.int .i64 0) 1 8 Tryd.underlying23 hi hz0 hz1 hz2 rfl (by decide) _ _ _ rfl (hO.alloc _) ⟨_, 0, none⟩ 1 1 [.int .i64 x] rfl rfl (cell_one_new _ _ _) ?c2 ?c3 ?c4 ?c5 ?_))
          case c2 => simp [Value.oneCell']
          case c3 => unfold maxLen; omega
          case c4 => omega
          case c5 => (try simp); omega
          intro ov' w2 hO3 hgr _
          have hK2 : Kept w w2 := (hK.alloc _).grew hgr (hO.alloc _) (Nat.le_refl _)
          have hO4 : w2.ownsRow w.heap.size 3 1 ov' (k + 1) (ints (fun k => likR s k (n - k)) (k + 1)) := by rw [hnx.out]; exact hO3
          have hsz2 : w.heap.size < w2.heap.size := by have := hgr.size; simp at this; omega
          clear hO3 hgr hO
          go_wp2_with fail
          go_roundg (n - (k + 1))
          case measure => omega
          case rel => exact ⟨k + 1, by omega, rfl, by first | rfl | go_num, hK2, hO4, hsz2⟩
    · obtain rfl : k = n := by omega
      go_wp2_with fail
      go_ret
      exact ⟨_, rfl, hK, hO⟩
end Go.Proofs.YthigeafojekclaaDoor
