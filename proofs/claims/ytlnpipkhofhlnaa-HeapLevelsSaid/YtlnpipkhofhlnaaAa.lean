/-
  The reference's Stable and All: all recurrent heaps, in lexicographic order.
-/
import Derived.Test.YtlnpipkhofhlnaaLp
import Derived.RegionTactic
import Derived.BigRegion
import Derived.Test.YtlnpipkhofhlnaaTw
import Derived.Test.YtlnpipkhofhlnaaA
namespace Go.Proofs.Ytlnpipkhofhlnaa
open Go.RowKit Go.Deep

theorem TabL.store3 {w w' : World} {base lo r nn : Nat} {g : Nat → Value} {v : Value} {l : List (Nat → Int)} {N : Nat} (h : TabL w base lo v l N) (k : KeptX (fun k => k = r) w w') (hr : r < lo) (hrow : w.rowIs r 3 nn g) : TabL w' base lo v l N := by
  obtain ⟨vs, h1, h2, h3⟩ := h
  refine ⟨vs, h1, own_keptY h2 k (fun b c f hb _ hS => ?_), fun i x hx => ?_⟩
  · obtain ⟨c2, h4, _⟩ := hrow
    rw [hS, h4] at hb
    injection hb with hb
    injection hb with _ hb
    exact absurd hb (by decide)
  · obtain ⟨u, h4, h5⟩ := h3 i x hx
    exact ⟨u, h4, own_store h5 k hr⟩
/-- an append to a row of another type leaves a row of ints as it is -/
theorem row_grow {w w' : World} {base T size r : Nat} {v : Value} {k n : Nat} {xs : List Value} {f : Nat → Value} (h : w.rowIs r 3 n f) (ho : w.ownsRow base T size v k xs) (hT : T ≠ 3) (hg : w.grownBy w' v.ownBlock) : w'.rowIs r 3 n f := by
  refine h.of_block (hg.block r h.lt (fun hb => ?_))
  rcases ho.2 with ⟨h1, _⟩ | ⟨g', cap', cur, h1, _, h3, _⟩
  · subst h1; simp [Value.ownBlock] at hb
  · subst h1
    have e1 : g' = r := by simpa [Value.ownBlock] using hb.symm
    subst e1
    obtain ⟨c2, h4, _⟩ := h
    rw [h4] at h3
    injection h3 with h3
    injection h3 with _ h3
    exact hT h3.symm
/-- the k-th heaps, the last number turning fastest -/
def lexV (D : Nat → Nat) (N k : Nat) : Nat → Nat := back N (vec N (back N (degT D)) k)
def lexP (D : Nat → Nat) (N : Nat) : Nat := prodN (back N (degT D)) N
theorem lexV_at {D : Nat → Nat} {N k i : Nat} (hi : i < N) : lexV D N k i = vec N (back N (degT D)) k (N - 1 - i) := if_pos hi
theorem back_at {f : Nat → Nat} {N i : Nat} (hi : i < N) : back N f (N - 1 - i) = f i := by
  unfold back; rw [if_pos (by omega)]; congr 1; omega
theorem lexV_lt {D : Nat → Nat} {N k i : Nat} (h : ∀ j, j < N → 1 ≤ degT D j) (hi : i < N) : lexV D N k i < degT D i := by
  rw [lexV_at hi, ← back_at (f := degT D) hi]
  exact vec_lt (by rw [back_at hi]; exact h i hi) (by omega)
theorem back_pos {D : Nat → Nat} {N : Nat} (h : ∀ j, j < N → 1 ≤ degT D j) : ∀ j, j < N → 1 ≤ back N (degT D) j := fun j hj => by
  unfold back; rw [if_pos hj]; exact h _ (by omega)
theorem lex_next {D : Nat → Nat} {N k i : Nat} (h : ∀ j, j < N → 1 ≤ degT D j) (hk : k < lexP D N) (hi : i < N) (hd : ∀ j, i < j → j < N → lexV D N k j + 1 = degT D j) (hu : lexV D N k i + 1 < degT D i) :
    k + 1 < lexP D N ∧ ∀ j, j < N → lexV D N (k + 1) j = if i < j then 0 else if j = i then lexV D N k i + 1 else lexV D N k j := by
  have hb : back N (degT D) (N - 1 - i) = degT D i := back_at hi
  obtain ⟨h1, h2⟩ := vec_next (n := N) (D := back N (degT D)) (k := k) (i := N - 1 - i) (back_pos h) hk (by omega) (fun j hj => by
    have h3 := hd (N - 1 - j) (by omega) (by omega)
    rw [lexV_at (by omega), show N - 1 - (N - 1 - j) = j by omega] at h3
    rw [h3]
    unfold back; rw [if_pos (by omega)]) (by rw [hb, ← lexV_at hi]; exact hu)
  refine ⟨h1, fun j hj => ?_⟩
  rw [lexV_at hj, h2]
  show (if N - 1 - j < N - 1 - i then 0 else if N - 1 - j = N - 1 - i then _ else _) = _
  by_cases e : i < j
  · rw [if_pos (by omega), if_pos e]
  · rw [if_neg (by omega), if_neg e]
    by_cases e2 : j = i
    · subst e2; rw [if_pos rfl, if_pos rfl, lexV_at hi]
    · rw [if_neg (by omega), if_neg e2, lexV_at hj]
theorem lex_last {D : Nat → Nat} {N k : Nat} (h : ∀ j, j < N → 1 ≤ degT D j) (hk : k < lexP D N) (hd : ∀ j, j < N → lexV D N k j + 1 = degT D j) : k + 1 = lexP D N :=
  vec_last (back_pos h) hk (fun j hj => by
    have h3 := hd (N - 1 - j) (by omega)
    rw [lexV_at (by omega), show N - 1 - (N - 1 - j) = j by omega] at h3
    rw [h3]
    unfold back; rw [if_pos hj])
/-- the recurrent ones of the first k -/
def recL (J : Nat → Nat → Nat) (D : Nat → Nat) (N k : Nat) : List (Nat → Int) := ((List.range k).filter (fun j => fullB J N (lexV D N j))).map (fun j i => ((lexV D N j i : Nat) : Int))
theorem recL_yes {J : Nat → Nat → Nat} {D : Nat → Nat} {N k : Nat} (h : fullB J N (lexV D N k) = true) : recL J D N (k + 1) = recL J D N k ++ [fun i => ((lexV D N k i : Nat) : Int)] := by
  unfold recL; rw [List.range_succ, List.filter_append, List.map_append]; simp [h]
theorem recL_no {J : Nat → Nat → Nat} {D : Nat → Nat} {N k : Nat} (h : fullB J N (lexV D N k) = false) : recL J D N (k + 1) = recL J D N k := by
  unfold recL; rw [List.range_succ, List.filter_append, List.map_append]; simp [h]
theorem recL_len (J : Nat → Nat → Nat) (D : Nat → Nat) (N k : Nat) : (recL J D N k).length ≤ k := by
  unfold recL
  rw [List.length_map]
  have := List.length_filter_le (fun j => fullB J N (lexV D N j)) (List.range k)
  simpa using this
theorem degree_w (w : World) (ev : Value) (n : Nat) (A B : Nat → Int) (v : Int) (d : Nat) (hd : d = deg A B n v) (hE : PairsAt w ev n A B) (hn : n ≤ 1000000) :
    Calls Try.prog 25 #[ev, .int .i64 v] w fun e w' => e = .returned (.int .i64 d) ∧ w = w' := by rw [hd]; exact degree_any w ev n A B v hE hn
set_option maxRecDepth 100000 in
set_option maxHeartbeats 2000000 in
theorem stable_ref (w : World) (n m : Nat) (ev : Value) (A B : Nat → Int) (hE : PairsAt w ev m A B) (hm : m ≤ 20) (hn1 : 1 ≤ n) (hn8 : n ≤ 8) :
    Calls Try.prog 12 #[.int .i64 n, ev] w fun e w' => e = .returned (.int .i64 (prodN (degT (degN A B m)) (n - 1) : Nat)) ∧ w = w' := by
  have hD : ∀ i, degT (degN A B m) i ≤ 20 := fun i => Nat.le_trans (cnt_le _ _) hm
  have HD := Lib.hid hD
  obtain ⟨N, HN⟩ : ∃ N, Hid (N = n - 1) := ⟨_, rfl⟩
  have hnN : n = N + 1 := by rw [HN.out]; omega
  have hN7 : N ≤ 7 := by omega
  have HNN := Lib.hid hnN
  rw [← HN.out]
  clear hD hnN
  go_enter Try.func12, Try.ntmps12
  go_wp2_with fail
  go_loopg [5, 6] N (fun g u5 s6 wr => ∃ k : Nat, k ≤ N ∧ g = N - k ∧ u5 = .int .i64 ((prodN (degT (degN A B m)) k : Nat) : Int) ∧ s6 = .int .i64 ((k : Int) + 1) ∧ w = wr)
  case atStart => exact ⟨0, Nat.zero_le _, rfl, rfl, rfl, rfl⟩
  case round =>
    obtain ⟨k, hk, rfl, rfl, rfl, rfl⟩ := hrel
    by_cases hlt : k < N
    · have hb2 := prodN_bd (N := k + 1) (D := degT (degN A B m)) (fun i hi => HD.out i) (by omega)
      obtain ⟨dv, HDV⟩ : ∃ dv, Hid (dv = deg A B m ((k : Int) + 1)) := ⟨_, rfl⟩
      have he : prodN (degT (degN A B m)) (k + 1) = prodN (degT (degN A B m)) k * dv := by rw [HDV.out]; rfl
      obtain ⟨P, HP⟩ : ∃ P, Hid (P = prodN (degT (degN A B m)) k) := ⟨_, rfl⟩
      rw [← HP.out] at he ⊢
      rw [he] at hb2
      have HE := Lib.hid he
      have s1 : IntKind.i64.wrap ((P : Int) * (dv : Int)) = (P : Int) * (dv : Int) := IntWalk.i64_in _ (by
        have : ((P * dv : Nat) : Int) ≤ 1280000000 := by omega
        rw [Int.natCast_mul] at this
        have : 0 ≤ (P : Int) * (dv : Int) := Int.mul_nonneg (by omega) (by omega)
        omega)
      have s2 : (k : Int) + 1 < (n : Int) := by have := HNN.out; omega
      clear he hb2
      go_wp2_with fail
      refine (degree_w _ _ m A B _ dv HDV.out hE (by omega)).mono ?_
      rintro e w6 ⟨rfl, rfl⟩
      go_wp2_with fail
      go_roundg (N - (k + 1))
      case measure => omega
      case rel => exact ⟨k + 1, by omega, rfl, by rw [HE.out, Int.natCast_mul], by go_num, rfl⟩
    · obtain rfl : k = N := by omega
      have s2 : ¬ (k : Int) + 1 < (n : Int) := by have := HNN.out; omega
      go_wp2_with fail
      go_ret
      exact ⟨rfl, rfl⟩
def AllPost (w : World) (n : Nat) (A B : Nat → Int) (m : Nat) (e : Ending) (w' : World) : Prop := ∃ v, e = .returned v ∧ Kept w w' ∧ TabL w' w.heap.size (w.heap.size + 2) v (recL (btwN A B m) (degN A B m) (n - 1) (lexP (degN A B m) (n - 1))) (n - 1)
set_option maxRecDepth 100000 in
set_option maxHeartbeats 8000000 in
theorem all_ref (w : World) (n m : Nat) (ev : Value) (A B : Nat → Int) (hE : PairsAt w ev m A B) (ok : YardOk n (degN A B m) (btwN A B m)) (hm : m ≤ 20) :
    Calls Try.prog 48 #[.int .i64 n, ev] w (AllPost w n A B m) := by
  have hn2 := ok.n2
  have hn8 := ok.n8
  have hn1 : 1 ≤ n := by omega
  have hE1 : n - 1 + 1 = n := by omega
  obtain ⟨D, HDD⟩ : ∃ D, Hid (D = degN A B m) := ⟨_, rfl⟩
  obtain ⟨J, HJJ⟩ : ∃ J, Hid (J = btwN A B m) := ⟨_, rfl⟩
  rw [← HDD.out] at ok
  rw [← HJJ.out] at ok
  have hdeg1 : ∀ j, j < n - 1 → 1 ≤ degT D j := fun j hj => ok.D1 (j + 1) (by omega) (by omega)
  have HDEG := Lib.hid hdeg1
  have hP1 : 1 ≤ lexP D (n - 1) := prodN_pos (back_pos hdeg1)
  have hPb : lexP D (n - 1) ≤ 1280000000 := prodN_bd (fun i hi => by unfold back; rw [if_pos hi]; exact ok.D20 _ (by omega)) (by omega)
  obtain ⟨i0, hi, hz0, hz1, hz2⟩ := info_parts Try.info3
  obtain ⟨i1, hii, hy0, hy1, hy2⟩ := info_parts Try.infoInts
  have hmk := fun W => mkInts ((n : Int) - 1) (n - 1) (by omega) (by omega) W
  have hwN : IntKind.i64.wrap ((n : Int) - 1) = (n : Int) - 1 := IntWalk.i64_in _ (by omega)
  obtain ⟨P, HP⟩ : ∃ P, Hid (P = lexP D (n - 1)) := ⟨_, rfl⟩
  rw [← HP.out] at hP1 hPb
  clear hdeg1
  go_enter Try.func48, Try.ntmps48
  go_wp2_with fail
  go_region
  focus
    go_wp2_with fail
    have hO0 := own_zeroT w w.heap.size 25 1 (Nat.le_refl _)
    have hk1 : Kept (w.alloc (.cells #[] 25)) (((w.alloc (.cells #[] 25)).alloc (.cells (madeCells #[.int .i64 0] (n - 1)) 3)).drew) := ((Kept.refl _).alloc _).drew
    have hK0 : Kept w (((w.alloc (.cells #[] 25)).alloc (.cells (madeCells #[.int .i64 0] (n - 1)) 3)).drew) := (((Kept.refl _).alloc _).alloc _).drew
    have hR0 := Kept.row ((Kept.refl _).drew) (World.rowIs_made (w.alloc (.cells #[] 25)) (.int .i64 0) (n - 1) 3)
    have hT0 := TabL.nil _ w.heap.size (w.heap.size + 2) (n - 1) (own_kept hO0 hk1)
    have hs0 : (((w.alloc (.cells #[] 25)).alloc (.cells (madeCells #[.int .i64 0] (n - 1)) 3)).drew).heap.size = w.heap.size + 2 := by simp
    rw [nblk_alloc] at hR0
    obtain ⟨lb, HLB⟩ : ∃ lb, Hid (lb = w.heap.size + 1) := ⟨_, rfl⟩
    have hlb1 : lb < w.heap.size + 2 := by rw [HLB.out]; omega
    have hlb2 : w.heap.size ≤ lb := by rw [HLB.out]; omega
    rw [← HLB.out] at hR0 ⊢
    obtain ⟨ov, HOV⟩ : ∃ ov, Hid (ov = Value.slice (some ⟨w.heap.size, 0, none⟩) 0 0) := ⟨_, rfl⟩
    rw [← HOV.out] at hT0 ⊢
    clear hO0 hk1 HLB HOV hmk
    generalize ((w.alloc (.cells #[] 25)).alloc (.cells (madeCells #[.int .i64 0] (n - 1)) 3)).drew = W0 at *
  rotate_left
  focus
    go_wp2_with fail
    have hO0 := own_zeroT (w.alloc (.cells (madeCells #[.int .i64 0] (n - 1)) 3)) w.heap.size 25 1 (by simp)
    have hk1 : Kept ((w.alloc (.cells (madeCells #[.int .i64 0] (n - 1)) 3)).alloc (.cells #[] 25)) (((w.alloc (.cells (madeCells #[.int .i64 0] (n - 1)) 3)).alloc (.cells #[] 25)).drew) := (Kept.refl _).drew
    have hK0 : Kept w (((w.alloc (.cells (madeCells #[.int .i64 0] (n - 1)) 3)).alloc (.cells #[] 25)).drew) := (((Kept.refl _).alloc _).alloc _).drew
    have hR0 := Kept.row (((Kept.refl _).alloc (.cells #[] 25)).drew) (World.rowIs_made w (.int .i64 0) (n - 1) 3)
    have hT0 := TabL.nil _ w.heap.size (w.heap.size + 2) (n - 1) (own_kept hO0 hk1)
    have hs0 : (((w.alloc (.cells (madeCells #[.int .i64 0] (n - 1)) 3)).alloc (.cells #[] 25)).drew).heap.size = w.heap.size + 2 := by simp
    rw [nblk_alloc] at hT0
    obtain ⟨ov, HOV⟩ : ∃ ov, Hid (ov = Value.slice (some ⟨w.heap.size + 1, 0, none⟩) 0 0) := ⟨_, rfl⟩
    rw [← HOV.out] at hT0 ⊢
    obtain ⟨lb, HLB⟩ : ∃ lb, Hid (lb = w.heap.size) := ⟨_, rfl⟩
    have hlb1 : lb < w.heap.size + 2 := by rw [HLB.out]; omega
    have hlb2 : w.heap.size ≤ lb := by rw [HLB.out]; omega
    have hR1 := hR0
    rw [← HLB.out] at hR1 ⊢
    replace hR0 := hR1
    clear hO0 hk1 HLB HOV hmk hR1
    generalize ((w.alloc (.cells (madeCells #[.int .i64 0] (n - 1)) 3)).alloc (.cells #[] 25)).drew = W0 at *
  all_goals
    go_loopg [5] P (fun q s5 wr => ∃ k : Nat, k < P ∧ q = P - k ∧ Kept w wr ∧ wr.rowIs lb 3 (n - 1) (fun i => .int .i64 ((lexV D (n - 1) k i : Nat) : Int)) ∧ TabL wr w.heap.size (w.heap.size + 2) s5 (recL J D (n - 1) k) (n - 1) ∧ w.heap.size + 2 ≤ wr.heap.size)
    case atStart => exact ⟨0, hP1, rfl, hK0, hR0.congr (fun i hi => by rw [lexV_at hi, vec_zero]; rfl), hT0, by omega⟩
    case round =>
      obtain ⟨k, hkP, rfl, hK, hR, hT, hsz⟩ := hrel
      clear hK0 hR0 hT0 hs0
      have hIL : IntsAt wr (.slice (some ⟨lb, 0, none⟩) (n - 1 : Nat) (n - 1 : Nat)) (n - 1) (fun i => ((lexV D (n - 1) k i : Nat) : Int)) := CellsAt.of_row hR
      obtain ⟨bb, HBB⟩ : ∃ bb, Hid (bb = decide ((burnAll n J (fun i => ((lexV D (n - 1) k i : Nat) : Int))).length = n - 1)) := ⟨_, rfl⟩
      have hfb : fullB J (n - 1) (lexV D (n - 1) k) = bb := by rw [HBB.out]; unfold fullB; rw [hE1]
      have hb := rburn_any wr n m ev _ A B (fun i => ((lexV D (n - 1) k i : Nat) : Int)) (hE.kept hK) hm hn8 hn1 hIL
      rw [← HJJ.out] at hb
      clear hIL
      go_wp2_with fail
      refine hb.mono ?_
      clear hb
      rintro e w2 ⟨ov2, rfl, hk2, ho2⟩
      clear ho2
      rw [← HBB.out]
      have hK2 := hK.trans hk2
      have hR2 := hk2.row hR
      have hT2 := hT.kept hk2
      have hs2 : w.heap.size + 2 ≤ w2.heap.size := by have := Kept.size hk2; omega
      have HFB := Lib.hid hfb
      clear hK hR hT hsz hk2 hfb
      cases bb
      focus
        have hT5 : TabL w2 w.heap.size (w.heap.size + 2) u5 (recL J D (n - 1) (k + 1)) (n - 1) := by rw [recL_no HFB.out]; exact hT2
        clear hT2
        go_wp2_with fail
        obtain ⟨W5, rfl⟩ : ∃ W5 : World, W5 = w2 := ⟨_, rfl⟩
        obtain ⟨ov5, rfl⟩ : ∃ ov5 : Value, ov5 = u5 := ⟨_, rfl⟩
        have hK5 := hK2
        have hR5 := hR2
        have hs5 := hs2
        clear hK2 hR2 hs2
      rotate_left
      focus
        obtain ⟨vs, hv1, hv2, hv3⟩ := hT2
        have hL := recL_len J D (n - 1) k
        have hyes := recL_yes HFB.out
        have HYES := Lib.hid hyes
        obtain ⟨RL, HRL⟩ : ∃ RL, Hid (RL = recL J D (n - 1) k) := ⟨_, rfl⟩
        rw [← HRL.out] at hv1 hv2 hv3 hL
        have HV1 := Lib.hid hv1
        obtain ⟨q, HQ⟩ : ∃ q, Hid (q = RL.length) := ⟨_, rfl⟩
        rw [← HQ.out] at hv2 hL
        have hO := own_zero w2 w2.heap.size (Nat.le_refl _)
        have hk0 : Kept w2 (w2.alloc (.cells #[] 3)) := (Kept.refl w2).alloc _
        clear hyes hv1
        go_wp2_with (first | (at_builtin; refine wpList_append_own _ rfl _ _ 25 rfl w2.heap.size 3 i0 (.int .i64 0) 1 8 Try.underlying25 hi hz0 hz1 hz2 rfl (by decide) _ _ _ rfl hO ⟨lb, 0, none⟩ (n - 1) (n - 1) (ints (fun i => ((lexV D (n - 1) k i : Nat) : Int)) (n - 1)) rfl (by simp [ints]) ?c1 ?c2 ?c3 ?c4 ?c5 ?_))
        case c1 => exact fun j u h => by obtain ⟨h1, rfl⟩ := ints_get h; rw [add_at, Nat.zero_add]; exact hk0.cellSome (hR2.cell h1)
        case c2 => intro u hu; simp [ints] at hu; obtain ⟨i, _, rfl⟩ := hu; rfl
        case c3 => unfold maxLen; omega
        case c4 => omega
        case c5 => simp
        intro v' w3 hO3 hgr3 _
        have hk3 : Kept w2 w3 := hk0.step (grew_X hgr3 hO) (fun i hi => hi)
        have hO4 : w3.ownsRow w2.heap.size 3 1 v' (n - 1) (ints (fun i => ((lexV D (n - 1) k i : Nat) : Int)) (n - 1)) := by simpa using hO3
        obtain ⟨b, cap, rfl, hbb, hbl⟩ := hO4.form (by omega)
        have hV3 := own_kept hv2 hk3
        have hR3 := hk3.row hR2
        have hs3 : w.heap.size + 2 ≤ w3.heap.size := by have := Kept.size hk3; omega
        clear hO3 hgr3 hO hk0
        go_wp2_with (first | (at_builtin; refine wpList_append_own _ rfl _ _ 63 rfl w.heap.size 25 i1 (.slice none 0 0) 1 24 Try.underlying63 hii hy0 hy1 hy2 rfl (by decide) _ _ _ rfl (hV3.alloc _) ⟨w3.heap.size, 0, none⟩ 1 1 [.slice (some ⟨b, 0, none⟩) (n - 1 : Nat) cap] rfl rfl ?d1 ?d2 ?d3 ?d4 ?d5 ?_))
        case d1 => exact cell_one_new w3 (.slice (some ⟨b, 0, none⟩) (n - 1 : Nat) cap) 25
        case d2 => simp [Value.oneCell']
        case d3 => unfold maxLen; omega
        case d4 => omega
        case d5 => simp; omega
        intro ov5 W5 hO7 hgr7 _
        have hV4 : (w3.alloc (.cells #[.slice (some ⟨b, 0, none⟩) (n - 1 : Nat) cap] 25)).ownsRow w.heap.size 25 1 u5 q vs := hV3.alloc _
        have hX7 := grew_X hgr7 hV4
        have hK5 : Kept w W5 := ((hK2.trans hk3).alloc _).step hX7 (fun i hi => hi)
        have hR5 := row_grow ((Kept.refl _).alloc (.cells #[.slice (some ⟨b, 0, none⟩) (n - 1 : Nat) cap] 25) |>.row hR3) hV4 (by decide) hgr7
        have hs5 : w.heap.size + 2 ≤ W5.heap.size := by have := KeptX.size hX7; simp at this; omega
        have hT5 : TabL W5 w.heap.size (w.heap.size + 2) ov5 (recL J D (n - 1) (k + 1)) (n - 1) := by
          rw [HYES.out, ← HRL.out]
          refine TabL.grow HV1.out (by rw [← HQ.out]; exact hV4) (fun i x hx => ?_) (own_base (hO4.alloc _) hs2) (by rw [← HQ.out]; exact hO7) hgr7
          obtain ⟨u, h4, h5⟩ := hv3 i x hx
          exact ⟨u, h4, own_kept h5 (hk3.alloc _)⟩
        clear hO7 hgr7 hV4 hV3 hX7 hR3 hs3 hK2 hR2 hs2 hv2 hv3 hk3 hO4
        go_wp2_with fail
      all_goals
        have hw2 : IntKind.i64.wrap ((n : Int) - 2) = (n : Int) - 2 := IntWalk.i64_in _ (by omega)
        go_wp2_with fail
        go_loopg [9] n (fun q s9 wi => ∃ (j : Nat) (z : Int), j ≤ n - 1 ∧ q = j + 1 ∧ Hid (z = (j : Int) - 1) ∧ s9 = .int .i64 z ∧ Hid (∀ t, j ≤ t → t < n - 1 → lexV D (n - 1) k t + 1 = degT D t) ∧ Kept w wi ∧ wi.rowIs lb 3 (n - 1) (fun t => .int .i64 ((if t < j then lexV D (n - 1) k t else 0 : Nat) : Int)) ∧ TabL wi w.heap.size (w.heap.size + 2) ov5 (recL J D (n - 1) (k + 1)) (n - 1) ∧ w.heap.size + 2 ≤ wi.heap.size)
        case atStart => exact ⟨n - 1, (n : Int) - 2, by omega, by omega, Lib.hid (by omega), rfl, Lib.hid (fun t h1 h2 => by omega), hK5, hR5.congr (fun t ht => by rw [if_pos ht]), hT5, hs5⟩
        case round =>
          obtain ⟨j, z, hj, rfl, hz, rfl, hH, hKi, hRi, hTi, hsi⟩ := hrel
          clear hK5 hR5 hT5 hs5 hw2
          by_cases hz0 : 0 ≤ z
          · obtain ⟨i, rfl⟩ : ∃ i : Nat, z = (i : Int) := ⟨z.toNat, by omega⟩
            obtain rfl : j = i + 1 := by have := hz.out; omega
            clear hz
            have t1 := hRi.cell (i := i) (by omega)
            simp only [show i < i + 1 by omega, if_true] at t1
            have t2 := hRi.frozen i
            have hE2 := hE.kept hKi
            obtain ⟨dv, HDV⟩ : ∃ dv, Hid (dv = deg A B m ((i : Int) + 1)) := ⟨_, rfl⟩
            have hdd : degT D i = dv := by rw [HDV.out, HDD.out]; rfl
            have hdv20 : dv ≤ 20 := by rw [← hdd]; exact ok.D20 _ (by omega)
            have hxlt := lexV_lt (k := k) HDEG.out (show i < n - 1 by omega)
            rw [hdd] at hxlt
            have HDD2 := Lib.hid hdd
            obtain ⟨xi, HXI⟩ : ∃ xi, Hid (xi = lexV D (n - 1) k i) := ⟨_, rfl⟩
            rw [← HXI.out] at t1 hxlt
            have s1 : IntKind.i64.wrap ((i : Int) + 1) = (i : Int) + 1 := IntWalk.i64_in _ (by omega)
            have s2 : IntKind.i64.wrap ((dv : Int) - 1) = (dv : Int) - 1 := IntWalk.i64_in _ (by omega)
            have s3 : (i : Int) < ((n - 1 : Nat) : Int) := by omega
            have g0 : decide ((0 : Int) ≤ (i : Int)) = true := decide_eq_true hz0
            by_cases he : xi + 1 = dv
            · have e1 : ((xi : Int) == (dv : Int) - 1) = true := by simp; omega
              have HE := Lib.hid he
              clear he hdd
              go_wp2_with fail
              go_quiet ((go_at_call 25; exact quietS (degree_w _ _ m A B _ dv HDV.out (hE2.dN _) (by omega))))
              go_wp2_with fail
              have hKn : Kept w ((wr.drewN nq).setCell ⟨lb, i, none⟩ (.int .i64 0)) := (hKi.drewN _).setCell (p := ⟨lb, i, none⟩) hlb2 _
              have hRn : ((wr.drewN nq).setCell ⟨lb, i, none⟩ (.int .i64 0)).rowIs lb 3 (n - 1) (fun t => .int .i64 ((if t < i then lexV D (n - 1) k t else 0 : Nat) : Int)) := ((Kept.row ((Kept.refl wr).drewN nq) hRi).set i (.int .i64 0)).congr (fun t _ => by
                by_cases e : t = i
                · subst e; simp
                · by_cases e2 : t < i
                  · rw [if_neg e, if_pos e2, if_pos (show t < i + 1 by omega)]
                  · rw [if_neg e, if_neg e2, if_neg (show ¬ t < i + 1 by omega)])
              have hTn := hTi.store3 ((KeptX.refl (fun t => t = lb) wr).drewN nq |>.setIn i (.int .i64 0)) hlb1 hRi
              have hsn : w.heap.size + 2 ≤ ((wr.drewN nq).setCell ⟨lb, i, none⟩ (.int .i64 0)).heap.size := by rw [nblk_setCell]; exact hsi
              clear t1 t2 hKi hRi hTi hE2
              go_roundg (i + 1)
              case measure => omega
              case rel => exact ⟨i, (i : Int) - 1, by omega, rfl, Lib.hid rfl, by go_num, Lib.hid (fun t h1 h2 => by
                by_cases e : t = i
                · subst e; rw [← HXI.out, HDD2.out]; exact HE.out
                · exact hH.out t (by omega) h2), hKn, hRn, hTn, hsn⟩
            · have e1 : ((xi : Int) == (dv : Int) - 1) = false := by simp; omega
              have HE := Lib.hid he
              have s4 : ¬ (i : Int) < 0 := by omega
              have s5 : IntKind.i64.wrap ((xi : Int) + 1) = (xi : Int) + 1 := IntWalk.i64_in _ (by omega)
              obtain ⟨hk1, hnx⟩ := lex_next HDEG.out (by rw [← HP.out]; exact hkP) (show i < n - 1 by omega) (fun t h1 h2 => hH.out t (by omega) h2) (by rw [← HXI.out, HDD2.out]; omega)
              rw [← HP.out] at hk1
              have HNX := Lib.hid hnx
              clear he hdd hnx
              go_wp2_with fail
              go_quiet ((go_at_call 25; exact quietS (degree_w _ _ m A B _ dv HDV.out (hE2.dN _) (by omega))))
              go_wp2_with fail
              have hKn : Kept w ((wr.drewN nq).setCell ⟨lb, i, none⟩ (.int .i64 ((xi : Int) + 1))) := (hKi.drewN _).setCell (p := ⟨lb, i, none⟩) hlb2 _
              have hRn : ((wr.drewN nq).setCell ⟨lb, i, none⟩ (.int .i64 ((xi : Int) + 1))).rowIs lb 3 (n - 1) (fun t => .int .i64 ((lexV D (n - 1) (k + 1) t : Nat) : Int)) := ((Kept.row ((Kept.refl wr).drewN nq) hRi).set i (.int .i64 ((xi : Int) + 1))).congr (fun t ht => by
                rw [HNX.out t ht, ← HXI.out]
                by_cases e : t = i
                · subst e; simp
                · by_cases e2 : i < t
                  · rw [if_neg e, if_pos e2, if_neg (show ¬ t < i + 1 by omega)]
                  · rw [if_neg e, if_neg e2, if_pos (show t < i + 1 by omega), if_neg e])
              have hTn := hTi.store3 ((KeptX.refl (fun t => t = lb) wr).drewN nq |>.setIn i (.int .i64 ((xi : Int) + 1))) hlb1 hRi
              have hsn : w.heap.size + 2 ≤ ((wr.drewN nq).setCell ⟨lb, i, none⟩ (.int .i64 ((xi : Int) + 1))).heap.size := by rw [nblk_setCell]; exact hsi
              clear t1 t2 hKi hRi hTi hE2
              go_roundg (P - (k + 1))
              case measure => omega
              case rel => exact ⟨k + 1, hk1, rfl, hKn, hRn, hTn, hsn⟩
          · obtain rfl : j = 0 := by have := hz.out; omega
            obtain rfl : z = -1 := by have := hz.out; omega
            have g0 : decide ((0 : Int) ≤ -1) = false := rfl
            have hk1 := lex_last (k := k) HDEG.out (by rw [← HP.out]; exact hkP) (fun t ht => hH.out t (by omega) ht)
            have HK1 := Lib.hid hk1
            clear hk1 hz0 hz
            go_wp2_with fail
            go_quiet (fail)
            go_wp2_with fail
            go_ret
            exact ⟨_, rfl, hKi.drewN _, by rw [← HDD.out, ← HJJ.out, ← HK1.out]; exact hTi.kept ((Kept.refl _).drewN _)⟩
end Go.Proofs.Ytlnpipkhofhlnaa
