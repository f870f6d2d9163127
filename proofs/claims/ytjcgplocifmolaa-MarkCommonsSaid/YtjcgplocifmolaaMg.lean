/-
  Package mark: better, common.
-/
import Derived.Test.YtjcgplocifmolaaMf
import Derived.Test.YtjcgplocifmolaaRg
import Derived.Lib.MinMaxS
namespace Go.Proofs.Ytjcgplocifmolaa
open Go.RowKit Go.Deep Go.Sort

theorem min_bs (x y : Wd) (h : x.length = y.length) : Lib.minS (bs x) (bs y) = bs (pick x y) := by
  have hx : (bs x).data.toList = x := rfl
  have hy : (bs y).data.toList = y := rfl
  unfold Lib.minS pick bt
  rw [hx, hy, decide_eq_false (by omega : ¬ x.length < y.length), decide_eq_true h.symm, Bool.false_or, Bool.true_and]
  rcases wd_cmp x y with h1 | h1 | h1
  · rw [if_pos (.inl h1), if_neg]
    intro e; exact wd_irrefl _ (wd_trans h1 (of_decide_eq_true e))
  · subst h1
    rw [if_pos (.inr rfl), if_neg]
    intro e; exact wd_irrefl _ (of_decide_eq_true e)
  · rw [if_neg, if_pos (decide_eq_true h1)]
    rintro (e | e)
    · exact wd_irrefl _ (wd_trans h1 e)
    · subst e; exact wd_irrefl _ h1
set_option maxRecDepth 100000 in
set_option maxHeartbeats 1000000 in
theorem better_any (w : World) (x y : Wd) : Calls Try.prog 75 #[.string (bs x), .string (bs y)] w fun e w' => e = .returned (.string (bs (pick x y))) ∧ w = w' := by
  obtain ⟨X, HX⟩ : ∃ X : ByteArray, Hid (X = bs x) := ⟨_, Lib.hid rfl⟩
  obtain ⟨Y, HY⟩ : ∃ X : ByteArray, Hid (X = bs y) := ⟨_, Lib.hid rfl⟩
  obtain ⟨Z, HZ⟩ : ∃ X : ByteArray, Hid (X = bs (pick x y)) := ⟨_, Lib.hid rfl⟩
  have hxs : X.size = x.length := by rw [HX.out]; rfl
  have hys : Y.size = y.length := by rw [HY.out]; rfl
  rw [← HX.out, ← HY.out, ← HZ.out]
  by_cases h1 : x.length = y.length
  · have e1 : ((X.size : Int) != (Y.size : Int)) = false := by rw [hxs, hys, h1]; simp
    have hmx : ∀ (w : World) (ts : Array TypeId) (t : TypeId), (Builtin.min_ ts t #[.string X, .string Y]).run Try.prog w = .ok (.string Z) w := fun w ts t => by
      rw [Lib.run_min_strs, HX.out, HY.out, min_bs x y h1, HZ.out]
    clear hxs hys h1
    go_enter Try.func75, Try.ntmps75
    go_wp2_with fail
    go_ret
    exact ⟨rfl, rfl⟩
  · have e1 : ((X.size : Int) != (Y.size : Int)) = true := by rw [hxs, hys]; simp; omega
    by_cases h2 : y.length < x.length
    · have hz : Z = X := by
        rw [HX.out, HZ.out]
        unfold pick bt
        rw [decide_eq_false (by omega : ¬ x.length < y.length), decide_eq_false (by omega : ¬ y.length = x.length)]; rfl
      have e2 : (X.size : Int) > (Y.size : Int) := by omega
      subst hz
      clear hxs hys h1 h2
      go_enter Try.func75, Try.ntmps75
      go_wp2_with fail
      go_ret
      exact ⟨rfl, rfl⟩
    · have hz : Z = Y := by
        rw [HY.out, HZ.out]
        unfold pick bt
        rw [decide_eq_true (by omega : x.length < y.length)]; rfl
      have e2 : ¬ (X.size : Int) > (Y.size : Int) := by omega
      subst hz
      clear hxs hys h1 h2
      go_enter Try.func75, Try.ntmps75
      go_wp2_with fail
      go_ret
      exact ⟨rfl, rfl⟩
/-- a table of words: rows of m + 1 strings, one after the other behind block H -/
structure TabAt (w : World) (H n m : Nat) (T : Nat → Nat → Wd) : Prop where
  outer : w.rowIs H 26 (n + 1) (fun i => .slice (some ⟨H + 1 + i, 0, none⟩) (m + 1) (m + 1))
  row : ∀ a, a ≤ n → w.rowIs (H + 1 + a) 9 (m + 1) (fun b => .string (bs (T a b)))
theorem TabAt.kept {w w' : World} {H n m : Nat} {T : Nat → Nat → Wd} (h : TabAt w H n m T) (k : Kept w w') : TabAt w' H n m T :=
  ⟨k.row h.outer, fun a ha => k.row (h.row a ha)⟩
theorem TabAt.congr {w : World} {H n m : Nat} {T U : Nat → Nat → Wd} (h : TabAt w H n m T) (e : ∀ a b, a ≤ n → b ≤ m → T a b = U a b) : TabAt w H n m U :=
  ⟨h.outer, fun a ha => (h.row a ha).congr fun b hb => by rw [e a b ha (by omega)]⟩
theorem TabAt.set {w : World} {H n m : Nat} {T : Nat → Nat → Wd} (h : TabAt w H n m T) {a c : Nat} (x : Wd) : TabAt (w.setCell ⟨H + 1 + a, c, none⟩ (.string (bs x))) H n m (fun a' b' => if a' = a ∧ b' = c then x else T a' b') := by
  have k : KeptX (fun k => k = H + 1 + a) w (w.setCell ⟨H + 1 + a, c, none⟩ (.string (bs x))) := (KeptX.refl _ w).setIn c _
  refine ⟨k.row h.outer (by omega), fun a' ha' => ?_⟩
  by_cases e : a' = a
  · subst e
    exact ((h.row a' ha').set c _).congr fun b hb => by
      by_cases e2 : b = c
      · subst e2; simp
      · simp [e2]
  · exact (k.row (h.row a' ha') (by omega)).congr fun b hb => by simp [e]
/-- what is known of common: all from (i, j) on -/
def tabC (s t : Wd) (i j a b : Nat) : Wd := if i < a ∨ (a = i ∧ j ≤ b) then com (s.drop a) (t.drop b) else []
theorem tabC_start (s t : Wd) (a b : Nat) : tabC s t s.length 0 a b = [] := by
  unfold tabC
  split
  · rw [List.drop_eq_nil_of_le (show s.length ≤ a by omega)]; rfl
  · rfl
theorem tabC_row (s t : Wd) (i a b : Nat) : tabC s t (i + 1) 0 a b = tabC s t i t.length a b := by
  unfold tabC
  by_cases h1 : i + 1 < a
  · rw [if_pos (.inl h1), if_pos (.inl (by omega))]
  · by_cases h2 : a = i + 1
    · rw [if_pos (.inr ⟨h2, by omega⟩), if_pos (.inl (by omega))]
    · rw [if_neg (by omega)]
      by_cases h3 : a = i ∧ t.length ≤ b
      · rw [if_pos (.inr h3), List.drop_eq_nil_of_le h3.2, com_nil]
      · rw [if_neg (by omega)]
theorem tabC_all (s t : Wd) (a b : Nat) : tabC s t 0 0 a b = com (s.drop a) (t.drop b) := by
  unfold tabC
  rw [if_pos (by omega)]
theorem com_step {s t : Wd} {i j : Nat} (hi : i < s.length) (hj : j < t.length) : com (s.drop i) (t.drop j) = if s[i] = t[j] then pick (pick (com (s.drop (i + 1)) (t.drop j)) (com (s.drop i) (t.drop (j + 1)))) (s[i] :: com (s.drop (i + 1)) (t.drop (j + 1))) else pick (com (s.drop (i + 1)) (t.drop j)) (com (s.drop i) (t.drop (j + 1))) := by
  rw [List.drop_eq_getElem_cons hi, List.drop_eq_getElem_cons hj, com_cons]
theorem tabC_step (s t : Wd) {i j : Nat} (a b : Nat) : tabC s t i j a b = if a = i ∧ b = j then com (s.drop i) (t.drop j) else tabC s t i (j + 1) a b := by
  unfold tabC
  by_cases h : a = i ∧ b = j
  · obtain ⟨rfl, rfl⟩ := h
    rw [if_pos (.inr ⟨rfl, Nat.le_refl _⟩), if_pos ⟨rfl, rfl⟩]
  · rw [if_neg h]
    by_cases h1 : i < a
    · rw [if_pos (.inl h1), if_pos (.inl h1)]
    · by_cases h2 : a = i ∧ j ≤ b
      · rw [if_pos (.inr h2), if_pos (.inr ⟨h2.1, by omega⟩)]
      · rw [if_neg (by omega), if_neg (by omega)]
theorem mkStrs (m : Int) (n : Nat) (h : m = n) (hn : n ≤ 1000000) (w : World) :
    (Instr.makeSlice 26 (.int .i64 m) (.int .i64 m)).run Try.prog w = .ok (.slice (some ⟨w.heap.size, 0, none⟩) n n) (w.alloc (.cells (madeCells #[.string ⟨#[]⟩] n) 9)) := by
  subst h
  exact run_make_row' (P := Try.prog) 26 9 (.string ⟨#[]⟩) 16 Try.underlying26 (by kernel_rfl) rfl .i64 .i64 n (by omega) (by omega) w
theorem mkRows (m : Int) (n : Nat) (h : m = n) (hn : n ≤ 1000000) (w : World) :
    (Instr.makeSlice 92 (.int .i64 m) (.int .i64 m)).run Try.prog w = .ok (.slice (some ⟨w.heap.size, 0, none⟩) n n) (w.alloc (.cells (madeCells #[.slice none 0 0] n) 26)) := by
  subst h
  exact run_make_row' (P := Try.prog) 92 26 (.slice none 0 0) 24 Try.underlying92 (by kernel_rfl) rfl .i64 .i64 n (by omega) (by omega) w
set_option maxRecDepth 100000 in
set_option maxHeartbeats 2000000 in
theorem common_any (w : World) (s t : Wd) (hs : s.length ≤ 1000) (ht : t.length ≤ 1000) :
    Calls Try.prog 49 #[.string (bs s), .string (bs t)] w fun e w' => e = .returned (.string (bs (com s t))) ∧ Kept w w' := by
  obtain ⟨n, HN⟩ : ∃ n, Hid (n = s.length) := ⟨_, rfl⟩
  obtain ⟨m, HM⟩ : ∃ n, Hid (n = t.length) := ⟨_, rfl⟩
  obtain ⟨X, HX⟩ : ∃ X : ByteArray, Hid (X = bs s) := ⟨_, Lib.hid rfl⟩
  obtain ⟨Y, HY⟩ : ∃ X : ByteArray, Hid (X = bs t) := ⟨_, Lib.hid rfl⟩
  have hxs : X.size = n := by rw [HX.out, HN.out]; rfl
  have hys : Y.size = m := by rw [HY.out, HM.out]; rfl
  rw [← HN.out] at hs
  rw [← HM.out] at ht
  rw [← HX.out, ← HY.out]
  have hmk1 := mkRows ((n : Int) + 1) (n + 1) (by omega) (by omega)
  have hmk2 := mkStrs ((m : Int) + 1) (m + 1) (by omega) (by omega)
  have hw1 : IntKind.i64.wrap ((n : Int) + 1) = (n : Int) + 1 := IntWalk.i64_in _ (by omega)
  have hw2 : IntKind.i64.wrap ((m : Int) + 1) = (m : Int) + 1 := IntWalk.i64_in _ (by omega)
  have hrow := World.rowIs_made w (.slice none 0 0) (n + 1) 26
  have hK0 : Kept w (w.alloc (.cells (madeCells #[.slice none 0 0] (n + 1)) 26)) := (Kept.refl w).alloc _
  have hz0 : (w.alloc (.cells (madeCells #[.slice none 0 0] (n + 1)) 26)).heap.size = w.heap.size + 1 := by simp
  go_enter Try.func49, Try.ntmps49
  go_wp2_with fail
  generalize w.alloc (.cells (madeCells #[.slice none 0 0] (n + 1)) 26) = W0 at *
  obtain ⟨H, HH⟩ : ∃ H, Hid (H = w.heap.size) := ⟨_, rfl⟩
  rw [← HH.out] at hrow hz0 ⊢
  have hrow2 := hrow.congr (g := fun j => if j < 0 then .slice (some ⟨H + 1 + j, 0, none⟩) (m + 1) (m + 1) else .slice none 0 0) (fun j _ => rfl)
  clear hrow hmk1
  go_loopg [15] (n + 1) (fun g s15 wr => ∃ i : Nat, i ≤ n + 1 ∧ g = n + 1 - i ∧ s15 = .int .i64 i ∧ Kept w wr ∧ wr.heap.size = H + 1 + i ∧ wr.rowIs H 26 (n + 1) (fun j => if j < i then .slice (some ⟨H + 1 + j, 0, none⟩) (m + 1) (m + 1) else .slice none 0 0) ∧ ∀ a, a < i → wr.rowIs (H + 1 + a) 9 (m + 1) (fun _ => .string ⟨#[]⟩))
  case atStart => exact ⟨0, Nat.zero_le _, rfl, rfl, hK0, by omega, hrow2, fun a ha => absurd ha (by omega)⟩
  case round =>
    obtain ⟨i, hi, rfl, rfl, hK, hz, hr, hR⟩ := hrel
    clear hK0 hrow2 hz0
    by_cases hlt : i < n + 1
    · have s2 : (i : Int) < (n : Int) + 1 := by omega
      have s3 : (0 : Int) ≤ (i : Int) := by omega
      have HR := Lib.hid hR
      have HZ := Lib.hid hz
      have hKb : Kept wr (wr.alloc (.cells (madeCells #[.string ⟨#[]⟩] (m + 1)) 9)) := (Kept.refl wr).alloc _
      have hnew := World.rowIs_made wr (.string ⟨#[]⟩) (m + 1) 9
      have hrb := hKb.row hr
      have hszb : (wr.alloc (.cells (madeCells #[.string ⟨#[]⟩] (m + 1)) 9)).heap.size = H + 1 + i + 1 := by rw [World.size_alloc, hz]
      rw [hz] at hnew
      have hc := hrb.cell hlt
      have hf := hrb.frozen i
      simp only [Nat.lt_irrefl, if_false] at hc
      have hhl : w.heap.size ≤ H := by rw [HH.out]; exact Nat.le_refl _
      clear hR hz hr
      go_wp2_with fail
      rw [HZ.out]
      generalize wr.alloc (.cells (madeCells #[.string ⟨#[]⟩] (m + 1)) 9) = Wb at *
      have hr3 : (Wb.setCell ⟨H, i, none⟩ (.slice (some ⟨H + 1 + i, 0, none⟩) (m + 1) (m + 1))).rowIs H 26 (n + 1) (fun j => if j < i + 1 then .slice (some ⟨H + 1 + j, 0, none⟩) (m + 1) (m + 1) else .slice none 0 0) :=
        (hrb.set i _).congr fun j _ => by
          by_cases e : j = i
          · subst e; simp
          · simp only [e, if_false]
            by_cases e2 : j < i
            · simp [e2, show j < i + 1 by omega]
            · simp [e2, show ¬ j < i + 1 by omega]
      have hK3 : KeptX (fun k => k = H) Wb (Wb.setCell ⟨H, i, none⟩ (.slice (some ⟨H + 1 + i, 0, none⟩) (m + 1) (m + 1))) := (KeptX.refl _ Wb).setIn i _
      have hK4 : Kept w (Wb.setCell ⟨H, i, none⟩ (.slice (some ⟨H + 1 + i, 0, none⟩) (m + 1) (m + 1))) := (hK.trans hKb).setCell (p := ⟨H, i, none⟩) hhl _
      have hz4 : (Wb.setCell ⟨H, i, none⟩ (.slice (some ⟨H + 1 + i, 0, none⟩) (m + 1) (m + 1))).heap.size = H + 1 + (i + 1) := by rw [nblk_setCell, hszb]; omega
      have hR4 : ∀ a, a < i + 1 → (Wb.setCell ⟨H, i, none⟩ (.slice (some ⟨H + 1 + i, 0, none⟩) (m + 1) (m + 1))).rowIs (H + 1 + a) 9 (m + 1) (fun _ => .string ⟨#[]⟩) := fun a ha => by
        by_cases e : a = i
        · subst e; exact hK3.row hnew (by omega)
        · exact hK3.row (hKb.row (HR.out a (by omega))) (by omega)
      go_wp2_with fail
      go_roundg (n + 1 - (i + 1))
      case measure => omega
      case rel => exact ⟨i + 1, by omega, rfl, by first | rfl | go_num, hK4, hz4, hr3, hR4⟩
    · obtain rfl : i = n + 1 := by omega
      have s2 : ¬ (((n + 1 : Nat) : Int) < (n : Int) + 1) := by omega
      have hT : TabAt wr H n m (tabC s t n 0) := by
        refine ⟨hr.congr fun j hj => by simp [hj], fun a ha => (hR a (by omega)).congr fun b hb => ?_⟩
        rw [HN.out, tabC_start s t a b]; rfl
      clear hr hR hz
      go_wp2_with fail
      go_loopg [7] (n + 1) (fun g s7 wr => ∃ i : Nat, i ≤ n ∧ g = i + 1 ∧ s7 = .int .i64 ((i : Int) - 1) ∧ Kept w wr ∧ TabAt wr H n m (tabC s t i 0))
      case atStart => exact ⟨n, Nat.le_refl _, rfl, rfl, hK, hT⟩
      case round =>
        clear hK hT
        obtain ⟨i, hi, rfl, rfl, hK, hT⟩ := hrel
        by_cases h0 : 0 < i
        · obtain ⟨a, rfl⟩ : ∃ a, i = a + 1 := ⟨i - 1, by omega⟩
          have ea : (((a + 1 : Nat) : Int) - 1) = (a : Int) := by omega
          rw [ea]
          have s2 : (a : Int) ≥ 0 := by omega
          have s3 : (0 : Int) ≤ (a : Int) := by omega
          have s4 : (a : Int) < (n : Int) + 1 := by omega
          have s5 : (a : Int) + 1 < (n : Int) + 1 := by omega
          have s6 : (0 : Int) ≤ (a : Int) + 1 := by omega
          have s7 : (a : Int) < (n : Int) := by omega
          have wa : IntKind.i64.wrap ((a : Int) + 1) = (a : Int) + 1 := IntWalk.i64_in _ (by omega)
          have ta : ((a : Int) + 1).toNat = a + 1 := by omega
          have hT2 : TabAt wr H n m (tabC s t a m) := hT.congr fun x y _ hy => by rw [HM.out]; exact tabC_row s t a x y
          clear hT ea
          go_wp2_with fail
          go_loopg [8] (m + 1) (fun g s8 wr => ∃ j : Nat, j ≤ m ∧ g = j + 1 ∧ s8 = .int .i64 ((j : Int) - 1) ∧ Kept w wr ∧ TabAt wr H n m (tabC s t a j))
          case atStart => exact ⟨m, Nat.le_refl _, rfl, rfl, hK, hT2⟩
          case round =>
            clear hK hT2
            obtain ⟨j, hj, rfl, rfl, hK, hT⟩ := hrel
            by_cases h1 : 0 < j
            · obtain ⟨c, rfl⟩ : ∃ c, j = c + 1 := ⟨j - 1, by omega⟩
              have ec : (((c + 1 : Nat) : Int) - 1) = (c : Int) := by omega
              rw [ec]
              clear ec
              have c2 : (c : Int) ≥ 0 := by omega
              have c3 : (0 : Int) ≤ (c : Int) := by omega
              have c4 : (c : Int) < (m : Int) + 1 := by omega
              have c5 : (c : Int) + 1 < (m : Int) + 1 := by omega
              have c6 : (0 : Int) ≤ (c : Int) + 1 := by omega
              have c7 : (c : Int) < (m : Int) := by omega
              have wc : IntKind.i64.wrap ((c : Int) + 1) = (c : Int) + 1 := IntWalk.i64_in _ (by omega)
              have tc : ((c : Int) + 1).toNat = c + 1 := by omega
              have han : a < s.length := by rw [← HN.out]; omega
              have hcm : c < t.length := by rw [← HM.out]; omega
              have hst := Lib.hid (com_step han hcm)
              have hP : tabC s t a (c + 1) (a + 1) c = com (s.drop (a + 1)) (t.drop c) := by unfold tabC; rw [if_pos (.inl (by omega))]
              have hQ : tabC s t a (c + 1) a (c + 1) = com (s.drop a) (t.drop (c + 1)) := by unfold tabC; rw [if_pos (.inr ⟨rfl, Nat.le_refl _⟩)]
              have hR : tabC s t a (c + 1) (a + 1) (c + 1) = com (s.drop (a + 1)) (t.drop (c + 1)) := by unfold tabC; rw [if_pos (.inl (by omega))]
              have r0 := hT.outer.cell (show a < n + 1 by omega)
              have r1 := hT.outer.cell (show a + 1 < n + 1 by omega)
              have p0 := (hT.row (a + 1) (by omega)).cell (show c < m + 1 by omega)
              have q0 := (hT.row a (by omega)).cell (show c + 1 < m + 1 by omega)
              have o0 := (hT.row a (by omega)).cell (show c < m + 1 by omega)
              have o1 := (hT.row a (by omega)).frozen c
              (try dsimp only at r0 r1 p0 q0 o0)
              rw [hP] at p0
              rw [hQ] at q0
              have BE1 := Lib.hid (fun W => better_any W (com (s.drop (a + 1)) (t.drop c)) (com (s.drop a) (t.drop (c + 1))))
              have HT := Lib.hid hT
              have HRR := Lib.hid hR
              have HKK := Lib.hid hK
              have hHle : w.heap.size ≤ H := by rw [HH.out]; exact Nat.le_refl _
              clear hP hQ hR hT hK
              obtain ⟨PQ, HPQ⟩ : ∃ x : Wd, Hid (x = pick (com (s.drop (a + 1)) (t.drop c)) (com (s.drop a) (t.drop (c + 1)))) := ⟨_, Lib.hid rfl⟩
              rw [← HPQ.out] at BE1 hst
              obtain ⟨P, HP⟩ : ∃ x : ByteArray, Hid (x = bs (com (s.drop (a + 1)) (t.drop c))) := ⟨_, Lib.hid rfl⟩
              obtain ⟨Q, HQ⟩ : ∃ x : ByteArray, Hid (x = bs (com (s.drop a) (t.drop (c + 1)))) := ⟨_, Lib.hid rfl⟩
              rw [← HP.out] at p0 BE1
              rw [← HQ.out] at q0 BE1
              obtain ⟨O, HO⟩ : ∃ x : ByteArray, Hid (x = bs (tabC s t a (c + 1) a c)) := ⟨_, Lib.hid rfl⟩
              rw [← HO.out] at o0
              obtain ⟨ZB, HZB⟩ : ∃ x : ByteArray, Hid (x = bs PQ) := ⟨_, Lib.hid rfl⟩
              rw [← HZB.out] at BE1
              go_wp2_with fail
              have HY0 : Hid (∀ W, Kept wr W → W.cell? ⟨H, a, none⟩ = some (.slice (some ⟨H + 1 + a, 0, none⟩) (m + 1) (m + 1)) ∧ W.cell? ⟨H, a + 1, none⟩ = some (.slice (some ⟨H + 1 + (a + 1), 0, none⟩) (m + 1) (m + 1)) ∧ W.cell? ⟨H + 1 + (a + 1), c, none⟩ = some (.string P) ∧ W.cell? ⟨H + 1 + a, c + 1, none⟩ = some (.string Q)) := fun W k => ⟨k.cellSome r0, k.cellSome r1, k.cellSome p0, k.cellSome q0⟩
              refine wp_region_last (S := (fun W => W.cell? ⟨H, a, none⟩ = some (.slice (some ⟨H + 1 + a, 0, none⟩) (m + 1) (m + 1)) ∧ W.cell? ⟨H, a + 1, none⟩ = some (.slice (some ⟨H + 1 + (a + 1), 0, none⟩) (m + 1) (m + 1)) ∧ W.cell? ⟨H + 1 + (a + 1), c, none⟩ = some (.string P) ∧ W.cell? ⟨H + 1 + a, c + 1, none⟩ = some (.string Q))) 23 (by kernel_rfl) ?_ (fun hHeld => ?_)
              · (try dsimp only)
                exact HY0.out _ (by repeat (first | assumption | exact Kept.refl _ | apply Kept.drew | apply Kept.drewN | apply Kept.alloc | refine Kept.trans ?_ (by assumption)))
              refine wpAnyM_take (i := 0) (oi := { dst := some 40, op := Go.Op.move (Go.Operand.tmp 5), type := 92, pos := "common.go:11", after := #[], guard := none }) (v := ?v1) [23] rfl (by kernel_rfl) (by kernel_rfl) (by kernel_rfl) (fun _ _ _ h => h) (by kernel_rfl) (Or.inl ⟨by rfl, ?hy1⟩) (by assumption) ?rs1
              case hy1 =>
                intro w hSw
                (try dsimp only at hSw)
                go_simp
                try with_reducible rfl
              (try simp only [Act.put, List.setIfInBounds_toArray, List.set_cons_zero, List.set_cons_succ])
              refine wpAnyM_take (i := 1) (oi := { dst := some 41, op := Go.Op.move (Go.Operand.tmp 7), type := 3, pos := "common.go:11", after := #[], guard := none }) (v := ?v2) [23] rfl (by kernel_rfl) (by kernel_rfl) (by kernel_rfl) (fun _ _ _ h => h) (by kernel_rfl) (Or.inl ⟨by rfl, ?hy2⟩) (by assumption) ?rs2
              case hy2 =>
                intro w hSw
                (try dsimp only at hSw)
                go_simp
                try with_reducible rfl
              (try simp only [Act.put, List.setIfInBounds_toArray, List.set_cons_zero, List.set_cons_succ])
              refine wpAnyM_take (i := 2) (oi := { dst := some 42, op := Go.Op.indexAddr 92 (Go.Operand.tmp 40) (Go.Operand.tmp 41), type := 0, pos := "common.go:11", after := #[{ on := 0, ground := Go.Ground.data }, { on := 1, ground := Go.Ground.data }], guard := none }) (v := ?v3) [23] rfl (by kernel_rfl) (by kernel_rfl) (by kernel_rfl) (fun _ _ _ h => h) (by kernel_rfl) (Or.inl ⟨by rfl, ?hy3⟩) (by assumption) ?rs3
              case hy3 =>
                intro w hSw
                (try dsimp only at hSw)
                go_simp
                try with_reducible rfl
              (try simp only [Act.put, List.setIfInBounds_toArray, List.set_cons_zero, List.set_cons_succ])
              refine wpAnyM_take (i := 3) (oi := { dst := some 43, op := Go.Op.load 26 (Go.Operand.tmp 42), type := 26, pos := "common.go:11", after := #[{ on := 2, ground := Go.Ground.data }], guard := none }) (v := ?v4) [23] rfl (by kernel_rfl) (by kernel_rfl) (by kernel_rfl) (fun _ _ _ h => h) (by kernel_rfl) (Or.inl ⟨by rfl, ?hy4⟩) (by assumption) ?rs4
              case hy4 =>
                intro w hSw
                (try dsimp only at hSw)
                go_simp
                try with_reducible rfl
              (try simp only [Act.put, List.setIfInBounds_toArray, List.set_cons_zero, List.set_cons_succ])
              refine wpAnyM_take (i := 4) (oi := { dst := some 44, op := Go.Op.move (Go.Operand.tmp 8), type := 3, pos := "common.go:11", after := #[], guard := none }) (v := ?v5) [23] rfl (by kernel_rfl) (by kernel_rfl) (by kernel_rfl) (fun _ _ _ h => h) (by kernel_rfl) (Or.inl ⟨by rfl, ?hy5⟩) (by assumption) ?rs5
              case hy5 =>
                intro w hSw
                (try dsimp only at hSw)
                go_simp
                try with_reducible rfl
              (try simp only [Act.put, List.setIfInBounds_toArray, List.set_cons_zero, List.set_cons_succ])
              refine wpAnyM_take (i := 5) (oi := { dst := some 45, op := Go.Op.move (Go.Operand.tmp 5), type := 92, pos := "common.go:11", after := #[], guard := none }) (v := ?v6) [23] rfl (by kernel_rfl) (by kernel_rfl) (by kernel_rfl) (fun _ _ _ h => h) (by kernel_rfl) (Or.inl ⟨by rfl, ?hy6⟩) (by assumption) ?rs6
              case hy6 =>
                intro w hSw
                (try dsimp only at hSw)
                go_simp
                try with_reducible rfl
              (try simp only [Act.put, List.setIfInBounds_toArray, List.set_cons_zero, List.set_cons_succ])
              refine wpAnyM_take (i := 6) (oi := { dst := some 46, op := Go.Op.move (Go.Operand.tmp 7), type := 3, pos := "common.go:11", after := #[], guard := none }) (v := ?v7) [23] rfl (by kernel_rfl) (by kernel_rfl) (by kernel_rfl) (fun _ _ _ h => h) (by kernel_rfl) (Or.inl ⟨by rfl, ?hy7⟩) (by assumption) ?rs7
              case hy7 =>
                intro w hSw
                (try dsimp only at hSw)
                go_simp
                try with_reducible rfl
              (try simp only [Act.put, List.setIfInBounds_toArray, List.set_cons_zero, List.set_cons_succ])
              refine wpAnyM_take (i := 7) (oi := { dst := some 47, op := Go.Op.binOp Go.BinOp.add 3 (Go.Operand.tmp 46) (Go.Operand.const (Go.Value.int Go.IntKind.i64 1)) 3, type := 3, pos := "common.go:11", after := #[{ on := 6, ground := Go.Ground.data }], guard := none }) (v := ?v8) [23] rfl (by kernel_rfl) (by kernel_rfl) (by kernel_rfl) (fun _ _ _ h => h) (by kernel_rfl) (Or.inl ⟨by rfl, ?hy8⟩) (by assumption) ?rs8
              case hy8 =>
                intro w hSw
                (try dsimp only at hSw)
                go_simp
                try with_reducible rfl
              (try simp only [Act.put, List.setIfInBounds_toArray, List.set_cons_zero, List.set_cons_succ])
              refine wpAnyM_take (i := 8) (oi := { dst := some 48, op := Go.Op.indexAddr 92 (Go.Operand.tmp 45) (Go.Operand.tmp 47), type := 0, pos := "common.go:11", after := #[{ on := 5, ground := Go.Ground.data }, { on := 7, ground := Go.Ground.data }], guard := none }) (v := ?v9) [23] rfl (by kernel_rfl) (by kernel_rfl) (by kernel_rfl) (fun _ _ _ h => h) (by kernel_rfl) (Or.inl ⟨by rfl, ?hy9⟩) (by assumption) ?rs9
              case hy9 =>
                intro w hSw
                (try dsimp only at hSw)
                go_simp
                try with_reducible rfl
              (try simp only [Act.put, List.setIfInBounds_toArray, List.set_cons_zero, List.set_cons_succ])
              refine wpAnyM_take (i := 9) (oi := { dst := some 49, op := Go.Op.load 26 (Go.Operand.tmp 48), type := 26, pos := "common.go:11", after := #[{ on := 8, ground := Go.Ground.data }], guard := none }) (v := ?v10) [23] rfl (by kernel_rfl) (by kernel_rfl) (by kernel_rfl) (fun _ _ _ h => h) (by kernel_rfl) (Or.inl ⟨by rfl, ?hy10⟩) (by assumption) ?rs10
              case hy10 =>
                intro w hSw
                (try dsimp only at hSw)
                go_simp
                try with_reducible rfl
              (try simp only [Act.put, List.setIfInBounds_toArray, List.set_cons_zero, List.set_cons_succ])
              refine wpAnyM_take (i := 10) (oi := { dst := some 50, op := Go.Op.move (Go.Operand.tmp 8), type := 3, pos := "common.go:11", after := #[], guard := none }) (v := ?v11) [23] rfl (by kernel_rfl) (by kernel_rfl) (by kernel_rfl) (fun _ _ _ h => h) (by kernel_rfl) (Or.inl ⟨by rfl, ?hy11⟩) (by assumption) ?rs11
              case hy11 =>
                intro w hSw
                (try dsimp only at hSw)
                go_simp
                try with_reducible rfl
              (try simp only [Act.put, List.setIfInBounds_toArray, List.set_cons_zero, List.set_cons_succ])
              refine wpAnyM_take (i := 11) (oi := { dst := some 51, op := Go.Op.indexAddr 26 (Go.Operand.tmp 49) (Go.Operand.tmp 50), type := 0, pos := "common.go:11", after := #[{ on := 9, ground := Go.Ground.data }, { on := 10, ground := Go.Ground.data }], guard := none }) (v := ?v12) [23] rfl (by kernel_rfl) (by kernel_rfl) (by kernel_rfl) (fun _ _ _ h => h) (by kernel_rfl) (Or.inl ⟨by rfl, ?hy12⟩) (by assumption) ?rs12
              case hy12 =>
                intro w hSw
                (try dsimp only at hSw)
                go_simp
                try with_reducible rfl
              (try simp only [Act.put, List.setIfInBounds_toArray, List.set_cons_zero, List.set_cons_succ])
              refine wpAnyM_take (i := 12) (oi := { dst := some 52, op := Go.Op.load 9 (Go.Operand.tmp 51), type := 9, pos := "common.go:11", after := #[{ on := 11, ground := Go.Ground.data }], guard := none }) (v := ?v13) [23] rfl (by kernel_rfl) (by kernel_rfl) (by kernel_rfl) (fun _ _ _ h => h) (by kernel_rfl) (Or.inl ⟨by rfl, ?hy13⟩) (by assumption) ?rs13
              case hy13 =>
                intro w hSw
                (try dsimp only at hSw)
                go_simp
                try with_reducible rfl
              (try simp only [Act.put, List.setIfInBounds_toArray, List.set_cons_zero, List.set_cons_succ])
              refine wpAnyM_take (i := 13) (oi := { dst := some 53, op := Go.Op.move (Go.Operand.tmp 5), type := 92, pos := "common.go:11", after := #[], guard := none }) (v := ?v14) [23] rfl (by kernel_rfl) (by kernel_rfl) (by kernel_rfl) (fun _ _ _ h => h) (by kernel_rfl) (Or.inl ⟨by rfl, ?hy14⟩) (by assumption) ?rs14
              case hy14 =>
                intro w hSw
                (try dsimp only at hSw)
                go_simp
                try with_reducible rfl
              (try simp only [Act.put, List.setIfInBounds_toArray, List.set_cons_zero, List.set_cons_succ])
              refine wpAnyM_take (i := 14) (oi := { dst := some 54, op := Go.Op.move (Go.Operand.tmp 7), type := 3, pos := "common.go:11", after := #[], guard := none }) (v := ?v15) [23] rfl (by kernel_rfl) (by kernel_rfl) (by kernel_rfl) (fun _ _ _ h => h) (by kernel_rfl) (Or.inl ⟨by rfl, ?hy15⟩) (by assumption) ?rs15
              case hy15 =>
                intro w hSw
                (try dsimp only at hSw)
                go_simp
                try with_reducible rfl
              (try simp only [Act.put, List.setIfInBounds_toArray, List.set_cons_zero, List.set_cons_succ])
              refine wpAnyM_take (i := 15) (oi := { dst := some 55, op := Go.Op.indexAddr 92 (Go.Operand.tmp 53) (Go.Operand.tmp 54), type := 0, pos := "common.go:11", after := #[{ on := 13, ground := Go.Ground.data }, { on := 14, ground := Go.Ground.data }], guard := none }) (v := ?v16) [23] rfl (by kernel_rfl) (by kernel_rfl) (by kernel_rfl) (fun _ _ _ h => h) (by kernel_rfl) (Or.inl ⟨by rfl, ?hy16⟩) (by assumption) ?rs16
              case hy16 =>
                intro w hSw
                (try dsimp only at hSw)
                go_simp
                try with_reducible rfl
              (try simp only [Act.put, List.setIfInBounds_toArray, List.set_cons_zero, List.set_cons_succ])
              refine wpAnyM_take (i := 16) (oi := { dst := some 56, op := Go.Op.load 26 (Go.Operand.tmp 55), type := 26, pos := "common.go:11", after := #[{ on := 15, ground := Go.Ground.data }], guard := none }) (v := ?v17) [23] rfl (by kernel_rfl) (by kernel_rfl) (by kernel_rfl) (fun _ _ _ h => h) (by kernel_rfl) (Or.inl ⟨by rfl, ?hy17⟩) (by assumption) ?rs17
              case hy17 =>
                intro w hSw
                (try dsimp only at hSw)
                go_simp
                try with_reducible rfl
              (try simp only [Act.put, List.setIfInBounds_toArray, List.set_cons_zero, List.set_cons_succ])
              refine wpAnyM_take (i := 17) (oi := { dst := some 57, op := Go.Op.move (Go.Operand.tmp 8), type := 3, pos := "common.go:11", after := #[], guard := none }) (v := ?v18) [23] rfl (by kernel_rfl) (by kernel_rfl) (by kernel_rfl) (fun _ _ _ h => h) (by kernel_rfl) (Or.inl ⟨by rfl, ?hy18⟩) (by assumption) ?rs18
              case hy18 =>
                intro w hSw
                (try dsimp only at hSw)
                go_simp
                try with_reducible rfl
              (try simp only [Act.put, List.setIfInBounds_toArray, List.set_cons_zero, List.set_cons_succ])
              refine wpAnyM_take (i := 18) (oi := { dst := some 58, op := Go.Op.binOp Go.BinOp.add 3 (Go.Operand.tmp 57) (Go.Operand.const (Go.Value.int Go.IntKind.i64 1)) 3, type := 3, pos := "common.go:11", after := #[{ on := 17, ground := Go.Ground.data }], guard := none }) (v := ?v19) [23] rfl (by kernel_rfl) (by kernel_rfl) (by kernel_rfl) (fun _ _ _ h => h) (by kernel_rfl) (Or.inl ⟨by rfl, ?hy19⟩) (by assumption) ?rs19
              case hy19 =>
                intro w hSw
                (try dsimp only at hSw)
                go_simp
                try with_reducible rfl
              (try simp only [Act.put, List.setIfInBounds_toArray, List.set_cons_zero, List.set_cons_succ])
              refine wpAnyM_take (i := 19) (oi := { dst := some 59, op := Go.Op.indexAddr 26 (Go.Operand.tmp 56) (Go.Operand.tmp 58), type := 0, pos := "common.go:11", after := #[{ on := 16, ground := Go.Ground.data }, { on := 18, ground := Go.Ground.data }], guard := none }) (v := ?v20) [23] rfl (by kernel_rfl) (by kernel_rfl) (by kernel_rfl) (fun _ _ _ h => h) (by kernel_rfl) (Or.inl ⟨by rfl, ?hy20⟩) (by assumption) ?rs20
              case hy20 =>
                intro w hSw
                (try dsimp only at hSw)
                go_simp
                try with_reducible rfl
              (try simp only [Act.put, List.setIfInBounds_toArray, List.set_cons_zero, List.set_cons_succ])
              refine wpAnyM_take (i := 20) (oi := { dst := some 60, op := Go.Op.load 9 (Go.Operand.tmp 59), type := 9, pos := "common.go:11", after := #[{ on := 19, ground := Go.Ground.data }], guard := none }) (v := ?v21) [23] rfl (by kernel_rfl) (by kernel_rfl) (by kernel_rfl) (fun _ _ _ h => h) (by kernel_rfl) (Or.inl ⟨by rfl, ?hy21⟩) (by assumption) ?rs21
              case hy21 =>
                intro w hSw
                (try dsimp only at hSw)
                go_simp
                try with_reducible rfl
              (try simp only [Act.put, List.setIfInBounds_toArray, List.set_cons_zero, List.set_cons_succ])
              refine wpAnyM_ready (rs := [21]) (by kernel_rfl) (by simp) ?_
              refine AllReadyM.cons (o := { dst := some 61, op := Go.Op.call { callee := Go.Callee.value (Go.Operand.func 75), args := #[Go.Operand.tmp 52, Go.Operand.tmp 60], argTypes := #[9, 9] }, type := 9, pos := "common.go:11", after := #[{ on := 12, ground := Go.Ground.data }, { on := 20, ground := Go.Ground.data }], guard := none }) rfl (fun K21 hK21 => ?_) AllReadyM.nil
              go_simp
              (go_at_call 75; refine (BE1.out _).mono ?_; rintro e u21 ⟨rfl, rfl⟩)
              (try go_wp2_with fail)
              refine hK21.out _ _ ?_ (fun hHeld => ?_)
              · (try dsimp only)
                exact HY0.out _ (by repeat (first | assumption | exact Kept.refl _ | apply Kept.drew | apply Kept.drewN | apply Kept.alloc | refine Kept.trans ?_ (by assumption)))
              (try simp only [Act.put, List.setIfInBounds_toArray, List.set_cons_zero, List.set_cons_succ])
              refine wpAnyM_take (i := 22) (oi := { dst := some 62, op := Go.Op.indexAddr 26 (Go.Operand.tmp 43) (Go.Operand.tmp 44), type := 0, pos := "common.go:11", after := #[{ on := 3, ground := Go.Ground.data }, { on := 4, ground := Go.Ground.data }, { on := 0, ground := Go.Ground.phase }, { on := 1, ground := Go.Ground.phase }, { on := 2, ground := Go.Ground.phase }, { on := 3, ground := Go.Ground.phase }, { on := 4, ground := Go.Ground.phase }, { on := 5, ground := Go.Ground.phase }, { on := 6, ground := Go.Ground.phase }, { on := 7, ground := Go.Ground.phase }, { on := 8, ground := Go.Ground.phase }, { on := 9, ground := Go.Ground.phase }, { on := 10, ground := Go.Ground.phase }, { on := 11, ground := Go.Ground.phase }, { on := 12, ground := Go.Ground.phase }, { on := 13, ground := Go.Ground.phase }, { on := 14, ground := Go.Ground.phase }, { on := 15, ground := Go.Ground.phase }, { on := 16, ground := Go.Ground.phase }, { on := 17, ground := Go.Ground.phase }, { on := 18, ground := Go.Ground.phase }, { on := 19, ground := Go.Ground.phase }, { on := 20, ground := Go.Ground.phase }, { on := 21, ground := Go.Ground.phase }], guard := none }) (v := ?v22) [23] rfl (by kernel_rfl) (by kernel_rfl) (by kernel_rfl) (fun _ _ _ h => h) (by kernel_rfl) (Or.inl ⟨by rfl, ?hy22⟩) (by assumption) ?rs22
              case hy22 =>
                intro w hSw
                (try dsimp only at hSw)
                go_simp
                try with_reducible rfl
              (try simp only [Act.put, List.setIfInBounds_toArray, List.set_cons_zero, List.set_cons_succ])
              refine wpAnyM_ready (rs := [23]) (by kernel_rfl) (by simp) ?_
              refine AllReadyM.atLast (o := { dst := none, op := Go.Op.store 9 (Go.Operand.tmp 62) (Go.Operand.tmp 61), type := 0, pos := "common.go:11", after := #[{ on := 22, ground := Go.Ground.data }, { on := 21, ground := Go.Ground.data }, { on := 21, ground := Go.Ground.chain }, { on := 0, ground := Go.Ground.phase }, { on := 1, ground := Go.Ground.phase }, { on := 2, ground := Go.Ground.phase }, { on := 3, ground := Go.Ground.phase }, { on := 4, ground := Go.Ground.phase }, { on := 5, ground := Go.Ground.phase }, { on := 6, ground := Go.Ground.phase }, { on := 7, ground := Go.Ground.phase }, { on := 8, ground := Go.Ground.phase }, { on := 9, ground := Go.Ground.phase }, { on := 10, ground := Go.Ground.phase }, { on := 11, ground := Go.Ground.phase }, { on := 12, ground := Go.Ground.phase }, { on := 13, ground := Go.Ground.phase }, { on := 14, ground := Go.Ground.phase }, { on := 15, ground := Go.Ground.phase }, { on := 16, ground := Go.Ground.phase }, { on := 17, ground := Go.Ground.phase }, { on := 18, ground := Go.Ground.phase }, { on := 19, ground := Go.Ground.phase }, { on := 20, ground := Go.Ground.phase }, { on := 21, ground := Go.Ground.phase }], guard := none }) rfl (fun K23 hK23 => ?_) AllReadyM.nil
              go_simp
              skip
              (try go_wp2_with fail)
              refine hK23.out _ _ ?_
              (try simp only [Act.put, List.setIfInBounds_toArray, List.set_cons_zero, List.set_cons_succ])
              refine wpAnyM_done (by kernel_rfl) ?_ _
              have hT1 : TabAt (wr.setCell ⟨H + 1 + a, c, none⟩ (.string ZB)).drew H n m (fun a' b' => if a' = a ∧ b' = c then PQ else tabC s t a (c + 1) a' b') := by
                rw [HZB.out]
                exact (HT.out.set PQ).kept ((Kept.refl _).drew)
              have hK1 : Kept w (wr.setCell ⟨H + 1 + a, c, none⟩ (.string ZB)).drew := (HKK.out.setCell (p := ⟨H + 1 + a, c, none⟩) (by show w.heap.size ≤ H + 1 + a; omega) _).drew
              clear r0 r1 p0 q0 o0 o1 hHeld HY0 BE1
              generalize (wr.setCell ⟨H + 1 + a, c, none⟩ (.string ZB)).drew = W1 at *
              have hatX := chr_at (s := X) (i := a) (by rw [hxs]; omega)
              have hatY := chr_at (s := Y) (i := c) (by rw [hys]; omega)
              have hcX : Hid (chr X a = (s[a].toNat : Int)) := by show _ = _; rw [HX.out]; exact chr_bs han
              have hcY : Hid (chr Y c = (t[c].toNat : Int)) := by show _ = _; rw [HY.out]; exact chr_bs hcm
              obtain ⟨cx, HCX⟩ : ∃ x, Hid (x = chr X a) := ⟨_, rfl⟩
              obtain ⟨cy, HCY⟩ : ∃ x, Hid (x = chr Y c) := ⟨_, rfl⟩
              rw [← HCX.out] at hatX hcX
              rw [← HCY.out] at hatY hcY
              by_cases heq : s[a] = t[c]
              · have e1 : (cx == cy) = true := by rw [hcX.out, hcY.out, heq]; simp
                have hst2 : Hid (com (s.drop a) (t.drop c) = pick PQ (s[a] :: com (s.drop (a + 1)) (t.drop (c + 1)))) := by show _ = _; rw [hst.out, if_pos heq]
                have hext : Hid (X.extract a (a + 1) = bs [s[a]]) := by
                  show _ = _
                  rw [HX.out, bs_extract, show a + 1 - a = 1 by omega, List.drop_eq_getElem_cons han]; rfl
                obtain ⟨RB, HRB⟩ : ∃ x : ByteArray, Hid (x = bs (com (s.drop (a + 1)) (t.drop (c + 1)))) := ⟨_, Lib.hid rfl⟩
                have hRs : RB.size ≤ 1000 := by
                  rw [HRB.out, bs_size]
                  have := (com_len (s.drop (a + 1)) (t.drop (c + 1))).1
                  rw [List.length_drop, ← HN.out] at this
                  omega
                have hXs1 : (X.extract a (a + 1)).size = 1 := by rw [hext.out]; rfl
                have BE2 := Lib.hid (fun W => better_any W PQ (s[a] :: com (s.drop (a + 1)) (t.drop (c + 1))))
                obtain ⟨Z2, HZ2⟩ : ∃ x : Wd, Hid (x = pick PQ (s[a] :: com (s.drop (a + 1)) (t.drop (c + 1)))) := ⟨_, Lib.hid rfl⟩
                obtain ⟨ZC, HZC⟩ : ∃ x : ByteArray, Hid (x = bs Z2) := ⟨_, Lib.hid rfl⟩
                have hJ : bs (s[a] :: com (s.drop (a + 1)) (t.drop (c + 1))) = X.extract a (a + 1) ++ RB := by rw [hext.out, HRB.out, bs_append]; rfl
                rw [← HZ2.out, ← HZC.out, ← HZB.out, hJ] at BE2
                clear hJ heq hcX hcY HCX HCY hst
                have r0 := hT1.outer.cell (show a < n + 1 by omega)
                have r1 := hT1.outer.cell (show a + 1 < n + 1 by omega)
                have q0 := (hT1.row (a + 1) (by omega)).cell (show c + 1 < m + 1 by omega)
                have z0 := (hT1.row a (by omega)).cell (show c < m + 1 by omega)
                have z1 := (hT1.row a (by omega)).frozen c
                (try dsimp only at r0 r1 q0 z0)
                rw [if_neg (by omega), HRR.out, ← HRB.out] at q0
                rw [if_pos ⟨rfl, rfl⟩, ← HZB.out] at z0
                have HT1 := Lib.hid hT1
                have HK1 := Lib.hid hK1
                clear hT1 hK1
                have HFIN : Hid (∀ W, Kept W1 W → Kept w (W.setCell ⟨H + 1 + a, c, none⟩ (.string ZC)) ∧ TabAt (W.setCell ⟨H + 1 + a, c, none⟩ (.string ZC)) H n m (tabC s t a c)) := fun W k => by
                  refine ⟨(HK1.out.trans k).setCell (p := ⟨H + 1 + a, c, none⟩) (by show w.heap.size ≤ H + 1 + a; omega) _, ?_⟩
                  rw [HZC.out]
                  refine ((HT1.out.kept k).set Z2).congr fun x y _ _ => ?_
                  rw [tabC_step s t (i := a) (j := c) x y, hst2.out, HZ2.out]
                  by_cases hxy : x = a ∧ y = c
                  · rw [if_pos hxy, if_pos hxy]
                  · rw [if_neg hxy, if_neg hxy, if_neg hxy]
                have HY1 : Hid (∀ W, Kept W1 W → W.cell? ⟨H, a, none⟩ = some (.slice (some ⟨H + 1 + a, 0, none⟩) (m + 1) (m + 1)) ∧ W.cell? ⟨H, a + 1, none⟩ = some (.slice (some ⟨H + 1 + (a + 1), 0, none⟩) (m + 1) (m + 1)) ∧ W.cell? ⟨H + 1 + a, c, none⟩ = some (.string ZB) ∧ W.cell? ⟨H + 1 + (a + 1), c + 1, none⟩ = some (.string RB)) := fun W k => ⟨k.cellSome r0, k.cellSome r1, k.cellSome z0, k.cellSome q0⟩
                obtain ⟨b0, b1⟩ := sbox2 W1 (.string (X.extract a (a + 1))) (.string RB) 9
                have KA : ∀ q, Kept W1 ((W1.drewN q).alloc (.cells #[.string (X.extract a (a + 1)), .string RB] 9)) := fun q => ((Kept.refl W1).drewN q).alloc _
                have z2 : ∀ q, ((W1.drewN q).alloc (.cells #[.string (X.extract a (a + 1)), .string RB] 9)).cell? ⟨H + 1 + a, c, none⟩ = some (.string ZB) := fun q => (KA q).cellSome z0
                have z3 : ∀ q, ((W1.drewN q).alloc (.cells #[.string (X.extract a (a + 1)), .string RB] 9)).frozen? ⟨H + 1 + a, c, none⟩ = false := fun q => ((KA q).row (HT1.out.row a (by omega))).frozen c
                clear KA
                have k1 : (a : Int) ≤ (a : Int) + 1 := by omega
                have k2 : (a : Int) + 1 ≤ (n : Int) := by omega
                go_wp2_with fail
                go_quiet (fail)
                go_wp2_with fail
                refine wp_region_last (S := (fun W => W.cell? ⟨H, a, none⟩ = some (.slice (some ⟨H + 1 + a, 0, none⟩) (m + 1) (m + 1)) ∧ W.cell? ⟨H, a + 1, none⟩ = some (.slice (some ⟨H + 1 + (a + 1), 0, none⟩) (m + 1) (m + 1)) ∧ W.cell? ⟨H + 1 + a, c, none⟩ = some (.string ZB) ∧ W.cell? ⟨H + 1 + (a + 1), c + 1, none⟩ = some (.string RB))) 30 (by kernel_rfl) ?_ (fun hHeld => ?_)
                · (try dsimp only)
                  exact HY1.out _ (by repeat (first | assumption | exact Kept.refl _ | apply Kept.drew | apply Kept.drewN | apply Kept.alloc | refine Kept.trans ?_ (by assumption)))
                refine wpAnyM_take (i := 0) (oi := { dst := some 70, op := Go.Op.move (Go.Operand.tmp 5), type := 92, pos := "common.go:13", after := #[], guard := none }) (v := ?v23) [30] rfl (by kernel_rfl) (by kernel_rfl) (by kernel_rfl) (fun _ _ _ h => h) (by kernel_rfl) (Or.inl ⟨by rfl, ?hy23⟩) (by assumption) ?rs23
                case hy23 =>
                  intro w hSw
                  (try dsimp only at hSw)
                  go_simp
                  try with_reducible rfl
                (try simp only [Act.put, List.setIfInBounds_toArray, List.set_cons_zero, List.set_cons_succ])
                refine wpAnyM_take (i := 1) (oi := { dst := some 71, op := Go.Op.move (Go.Operand.tmp 7), type := 3, pos := "common.go:13", after := #[], guard := none }) (v := ?v24) [30] rfl (by kernel_rfl) (by kernel_rfl) (by kernel_rfl) (fun _ _ _ h => h) (by kernel_rfl) (Or.inl ⟨by rfl, ?hy24⟩) (by assumption) ?rs24
                case hy24 =>
                  intro w hSw
                  (try dsimp only at hSw)
                  go_simp
                  try with_reducible rfl
                (try simp only [Act.put, List.setIfInBounds_toArray, List.set_cons_zero, List.set_cons_succ])
                refine wpAnyM_take (i := 2) (oi := { dst := some 72, op := Go.Op.indexAddr 92 (Go.Operand.tmp 70) (Go.Operand.tmp 71), type := 0, pos := "common.go:13", after := #[{ on := 0, ground := Go.Ground.data }, { on := 1, ground := Go.Ground.data }], guard := none }) (v := ?v25) [30] rfl (by kernel_rfl) (by kernel_rfl) (by kernel_rfl) (fun _ _ _ h => h) (by kernel_rfl) (Or.inl ⟨by rfl, ?hy25⟩) (by assumption) ?rs25
                case hy25 =>
                  intro w hSw
                  (try dsimp only at hSw)
                  go_simp
                  try with_reducible rfl
                (try simp only [Act.put, List.setIfInBounds_toArray, List.set_cons_zero, List.set_cons_succ])
                refine wpAnyM_take (i := 3) (oi := { dst := some 73, op := Go.Op.load 26 (Go.Operand.tmp 72), type := 26, pos := "common.go:13", after := #[{ on := 2, ground := Go.Ground.data }], guard := none }) (v := ?v26) [30] rfl (by kernel_rfl) (by kernel_rfl) (by kernel_rfl) (fun _ _ _ h => h) (by kernel_rfl) (Or.inl ⟨by rfl, ?hy26⟩) (by assumption) ?rs26
                case hy26 =>
                  intro w hSw
                  (try dsimp only at hSw)
                  go_simp
                  try with_reducible rfl
                (try simp only [Act.put, List.setIfInBounds_toArray, List.set_cons_zero, List.set_cons_succ])
                refine wpAnyM_take (i := 4) (oi := { dst := some 74, op := Go.Op.move (Go.Operand.tmp 8), type := 3, pos := "common.go:13", after := #[], guard := none }) (v := ?v27) [30] rfl (by kernel_rfl) (by kernel_rfl) (by kernel_rfl) (fun _ _ _ h => h) (by kernel_rfl) (Or.inl ⟨by rfl, ?hy27⟩) (by assumption) ?rs27
                case hy27 =>
                  intro w hSw
                  (try dsimp only at hSw)
                  go_simp
                  try with_reducible rfl
                (try simp only [Act.put, List.setIfInBounds_toArray, List.set_cons_zero, List.set_cons_succ])
                refine wpAnyM_take (i := 5) (oi := { dst := some 75, op := Go.Op.move (Go.Operand.tmp 5), type := 92, pos := "common.go:13", after := #[], guard := none }) (v := ?v28) [30] rfl (by kernel_rfl) (by kernel_rfl) (by kernel_rfl) (fun _ _ _ h => h) (by kernel_rfl) (Or.inl ⟨by rfl, ?hy28⟩) (by assumption) ?rs28
                case hy28 =>
                  intro w hSw
                  (try dsimp only at hSw)
                  go_simp
                  try with_reducible rfl
                (try simp only [Act.put, List.setIfInBounds_toArray, List.set_cons_zero, List.set_cons_succ])
                refine wpAnyM_take (i := 6) (oi := { dst := some 76, op := Go.Op.move (Go.Operand.tmp 7), type := 3, pos := "common.go:13", after := #[], guard := none }) (v := ?v29) [30] rfl (by kernel_rfl) (by kernel_rfl) (by kernel_rfl) (fun _ _ _ h => h) (by kernel_rfl) (Or.inl ⟨by rfl, ?hy29⟩) (by assumption) ?rs29
                case hy29 =>
                  intro w hSw
                  (try dsimp only at hSw)
                  go_simp
                  try with_reducible rfl
                (try simp only [Act.put, List.setIfInBounds_toArray, List.set_cons_zero, List.set_cons_succ])
                refine wpAnyM_take (i := 7) (oi := { dst := some 77, op := Go.Op.indexAddr 92 (Go.Operand.tmp 75) (Go.Operand.tmp 76), type := 0, pos := "common.go:13", after := #[{ on := 5, ground := Go.Ground.data }, { on := 6, ground := Go.Ground.data }], guard := none }) (v := ?v30) [30] rfl (by kernel_rfl) (by kernel_rfl) (by kernel_rfl) (fun _ _ _ h => h) (by kernel_rfl) (Or.inl ⟨by rfl, ?hy30⟩) (by assumption) ?rs30
                case hy30 =>
                  intro w hSw
                  (try dsimp only at hSw)
                  go_simp
                  try with_reducible rfl
                (try simp only [Act.put, List.setIfInBounds_toArray, List.set_cons_zero, List.set_cons_succ])
                refine wpAnyM_take (i := 8) (oi := { dst := some 78, op := Go.Op.load 26 (Go.Operand.tmp 77), type := 26, pos := "common.go:13", after := #[{ on := 7, ground := Go.Ground.data }], guard := none }) (v := ?v31) [30] rfl (by kernel_rfl) (by kernel_rfl) (by kernel_rfl) (fun _ _ _ h => h) (by kernel_rfl) (Or.inl ⟨by rfl, ?hy31⟩) (by assumption) ?rs31
                case hy31 =>
                  intro w hSw
                  (try dsimp only at hSw)
                  go_simp
                  try with_reducible rfl
                (try simp only [Act.put, List.setIfInBounds_toArray, List.set_cons_zero, List.set_cons_succ])
                refine wpAnyM_take (i := 9) (oi := { dst := some 79, op := Go.Op.move (Go.Operand.tmp 8), type := 3, pos := "common.go:13", after := #[], guard := none }) (v := ?v32) [30] rfl (by kernel_rfl) (by kernel_rfl) (by kernel_rfl) (fun _ _ _ h => h) (by kernel_rfl) (Or.inl ⟨by rfl, ?hy32⟩) (by assumption) ?rs32
                case hy32 =>
                  intro w hSw
                  (try dsimp only at hSw)
                  go_simp
                  try with_reducible rfl
                (try simp only [Act.put, List.setIfInBounds_toArray, List.set_cons_zero, List.set_cons_succ])
                refine wpAnyM_take (i := 10) (oi := { dst := some 80, op := Go.Op.indexAddr 26 (Go.Operand.tmp 78) (Go.Operand.tmp 79), type := 0, pos := "common.go:13", after := #[{ on := 8, ground := Go.Ground.data }, { on := 9, ground := Go.Ground.data }], guard := none }) (v := ?v33) [30] rfl (by kernel_rfl) (by kernel_rfl) (by kernel_rfl) (fun _ _ _ h => h) (by kernel_rfl) (Or.inl ⟨by rfl, ?hy33⟩) (by assumption) ?rs33
                case hy33 =>
                  intro w hSw
                  (try dsimp only at hSw)
                  go_simp
                  try with_reducible rfl
                (try simp only [Act.put, List.setIfInBounds_toArray, List.set_cons_zero, List.set_cons_succ])
                refine wpAnyM_take (i := 11) (oi := { dst := some 81, op := Go.Op.load 9 (Go.Operand.tmp 80), type := 9, pos := "common.go:13", after := #[{ on := 10, ground := Go.Ground.data }], guard := none }) (v := ?v34) [30] rfl (by kernel_rfl) (by kernel_rfl) (by kernel_rfl) (fun _ _ _ h => h) (by kernel_rfl) (Or.inl ⟨by rfl, ?hy34⟩) (by assumption) ?rs34
                case hy34 =>
                  intro w hSw
                  (try dsimp only at hSw)
                  go_simp
                  try with_reducible rfl
                (try simp only [Act.put, List.setIfInBounds_toArray, List.set_cons_zero, List.set_cons_succ])
                refine wpAnyM_take (i := 12) (oi := { dst := some 82, op := Go.Op.move (Go.Operand.tmp 0), type := 9, pos := "common.go:13", after := #[], guard := none }) (v := ?v35) [30] rfl (by kernel_rfl) (by kernel_rfl) (by kernel_rfl) (fun _ _ _ h => h) (by kernel_rfl) (Or.inl ⟨by rfl, ?hy35⟩) (by assumption) ?rs35
                case hy35 =>
                  intro w hSw
                  (try dsimp only at hSw)
                  go_simp
                  try with_reducible rfl
                (try simp only [Act.put, List.setIfInBounds_toArray, List.set_cons_zero, List.set_cons_succ])
                refine wpAnyM_take (i := 13) (oi := { dst := some 83, op := Go.Op.move (Go.Operand.tmp 7), type := 3, pos := "common.go:13", after := #[], guard := none }) (v := ?v36) [30] rfl (by kernel_rfl) (by kernel_rfl) (by kernel_rfl) (fun _ _ _ h => h) (by kernel_rfl) (Or.inl ⟨by rfl, ?hy36⟩) (by assumption) ?rs36
                case hy36 =>
                  intro w hSw
                  (try dsimp only at hSw)
                  go_simp
                  try with_reducible rfl
                (try simp only [Act.put, List.setIfInBounds_toArray, List.set_cons_zero, List.set_cons_succ])
                refine wpAnyM_take (i := 14) (oi := { dst := some 84, op := Go.Op.move (Go.Operand.tmp 7), type := 3, pos := "common.go:13", after := #[], guard := none }) (v := ?v37) [30] rfl (by kernel_rfl) (by kernel_rfl) (by kernel_rfl) (fun _ _ _ h => h) (by kernel_rfl) (Or.inl ⟨by rfl, ?hy37⟩) (by assumption) ?rs37
                case hy37 =>
                  intro w hSw
                  (try dsimp only at hSw)
                  go_simp
                  try with_reducible rfl
                (try simp only [Act.put, List.setIfInBounds_toArray, List.set_cons_zero, List.set_cons_succ])
                refine wpAnyM_take (i := 15) (oi := { dst := some 85, op := Go.Op.binOp Go.BinOp.add 3 (Go.Operand.tmp 84) (Go.Operand.const (Go.Value.int Go.IntKind.i64 1)) 3, type := 3, pos := "common.go:13", after := #[{ on := 14, ground := Go.Ground.data }], guard := none }) (v := ?v38) [30] rfl (by kernel_rfl) (by kernel_rfl) (by kernel_rfl) (fun _ _ _ h => h) (by kernel_rfl) (Or.inl ⟨by rfl, ?hy38⟩) (by assumption) ?rs38
                case hy38 =>
                  intro w hSw
                  (try dsimp only at hSw)
                  go_simp
                  try with_reducible rfl
                (try simp only [Act.put, List.setIfInBounds_toArray, List.set_cons_zero, List.set_cons_succ])
                refine wpAnyM_take (i := 16) (oi := { dst := some 86, op := Go.Op.slice 9 (Go.Operand.tmp 82) (some (Go.Operand.tmp 83)) (some (Go.Operand.tmp 85)) none, type := 9, pos := "common.go:13", after := #[{ on := 12, ground := Go.Ground.data }, { on := 13, ground := Go.Ground.data }, { on := 15, ground := Go.Ground.data }], guard := none }) (v := ?v39) [30] rfl (by kernel_rfl) (by kernel_rfl) (by kernel_rfl) (fun _ _ _ h => h) (by kernel_rfl) (Or.inl ⟨by rfl, ?hy39⟩) (by assumption) ?rs39
                case hy39 =>
                  intro w hSw
                  (try dsimp only at hSw)
                  go_simp
                  try with_reducible rfl
                (try simp only [Act.put, List.setIfInBounds_toArray, List.set_cons_zero, List.set_cons_succ])
                refine wpAnyM_take (i := 17) (oi := { dst := some 87, op := Go.Op.move (Go.Operand.tmp 5), type := 92, pos := "common.go:13", after := #[], guard := none }) (v := ?v40) [30] rfl (by kernel_rfl) (by kernel_rfl) (by kernel_rfl) (fun _ _ _ h => h) (by kernel_rfl) (Or.inl ⟨by rfl, ?hy40⟩) (by assumption) ?rs40
                case hy40 =>
                  intro w hSw
                  (try dsimp only at hSw)
                  go_simp
                  try with_reducible rfl
                (try simp only [Act.put, List.setIfInBounds_toArray, List.set_cons_zero, List.set_cons_succ])
                refine wpAnyM_take (i := 18) (oi := { dst := some 88, op := Go.Op.move (Go.Operand.tmp 7), type := 3, pos := "common.go:13", after := #[], guard := none }) (v := ?v41) [30] rfl (by kernel_rfl) (by kernel_rfl) (by kernel_rfl) (fun _ _ _ h => h) (by kernel_rfl) (Or.inl ⟨by rfl, ?hy41⟩) (by assumption) ?rs41
                case hy41 =>
                  intro w hSw
                  (try dsimp only at hSw)
                  go_simp
                  try with_reducible rfl
                (try simp only [Act.put, List.setIfInBounds_toArray, List.set_cons_zero, List.set_cons_succ])
                refine wpAnyM_take (i := 19) (oi := { dst := some 89, op := Go.Op.binOp Go.BinOp.add 3 (Go.Operand.tmp 88) (Go.Operand.const (Go.Value.int Go.IntKind.i64 1)) 3, type := 3, pos := "common.go:13", after := #[{ on := 18, ground := Go.Ground.data }], guard := none }) (v := ?v42) [30] rfl (by kernel_rfl) (by kernel_rfl) (by kernel_rfl) (fun _ _ _ h => h) (by kernel_rfl) (Or.inl ⟨by rfl, ?hy42⟩) (by assumption) ?rs42
                case hy42 =>
                  intro w hSw
                  (try dsimp only at hSw)
                  go_simp
                  try with_reducible rfl
                (try simp only [Act.put, List.setIfInBounds_toArray, List.set_cons_zero, List.set_cons_succ])
                refine wpAnyM_take (i := 20) (oi := { dst := some 90, op := Go.Op.indexAddr 92 (Go.Operand.tmp 87) (Go.Operand.tmp 89), type := 0, pos := "common.go:13", after := #[{ on := 17, ground := Go.Ground.data }, { on := 19, ground := Go.Ground.data }], guard := none }) (v := ?v43) [30] rfl (by kernel_rfl) (by kernel_rfl) (by kernel_rfl) (fun _ _ _ h => h) (by kernel_rfl) (Or.inl ⟨by rfl, ?hy43⟩) (by assumption) ?rs43
                case hy43 =>
                  intro w hSw
                  (try dsimp only at hSw)
                  go_simp
                  try with_reducible rfl
                (try simp only [Act.put, List.setIfInBounds_toArray, List.set_cons_zero, List.set_cons_succ])
                refine wpAnyM_take (i := 21) (oi := { dst := some 91, op := Go.Op.load 26 (Go.Operand.tmp 90), type := 26, pos := "common.go:13", after := #[{ on := 20, ground := Go.Ground.data }], guard := none }) (v := ?v44) [30] rfl (by kernel_rfl) (by kernel_rfl) (by kernel_rfl) (fun _ _ _ h => h) (by kernel_rfl) (Or.inl ⟨by rfl, ?hy44⟩) (by assumption) ?rs44
                case hy44 =>
                  intro w hSw
                  (try dsimp only at hSw)
                  go_simp
                  try with_reducible rfl
                (try simp only [Act.put, List.setIfInBounds_toArray, List.set_cons_zero, List.set_cons_succ])
                refine wpAnyM_take (i := 22) (oi := { dst := some 92, op := Go.Op.move (Go.Operand.tmp 8), type := 3, pos := "common.go:13", after := #[], guard := none }) (v := ?v45) [30] rfl (by kernel_rfl) (by kernel_rfl) (by kernel_rfl) (fun _ _ _ h => h) (by kernel_rfl) (Or.inl ⟨by rfl, ?hy45⟩) (by assumption) ?rs45
                case hy45 =>
                  intro w hSw
                  (try dsimp only at hSw)
                  go_simp
                  try with_reducible rfl
                (try simp only [Act.put, List.setIfInBounds_toArray, List.set_cons_zero, List.set_cons_succ])
                refine wpAnyM_take (i := 23) (oi := { dst := some 93, op := Go.Op.binOp Go.BinOp.add 3 (Go.Operand.tmp 92) (Go.Operand.const (Go.Value.int Go.IntKind.i64 1)) 3, type := 3, pos := "common.go:13", after := #[{ on := 22, ground := Go.Ground.data }], guard := none }) (v := ?v46) [30] rfl (by kernel_rfl) (by kernel_rfl) (by kernel_rfl) (fun _ _ _ h => h) (by kernel_rfl) (Or.inl ⟨by rfl, ?hy46⟩) (by assumption) ?rs46
                case hy46 =>
                  intro w hSw
                  (try dsimp only at hSw)
                  go_simp
                  try with_reducible rfl
                (try simp only [Act.put, List.setIfInBounds_toArray, List.set_cons_zero, List.set_cons_succ])
                refine wpAnyM_take (i := 24) (oi := { dst := some 94, op := Go.Op.indexAddr 26 (Go.Operand.tmp 91) (Go.Operand.tmp 93), type := 0, pos := "common.go:13", after := #[{ on := 21, ground := Go.Ground.data }, { on := 23, ground := Go.Ground.data }], guard := none }) (v := ?v47) [30] rfl (by kernel_rfl) (by kernel_rfl) (by kernel_rfl) (fun _ _ _ h => h) (by kernel_rfl) (Or.inl ⟨by rfl, ?hy47⟩) (by assumption) ?rs47
                case hy47 =>
                  intro w hSw
                  (try dsimp only at hSw)
                  go_simp
                  try with_reducible rfl
                (try simp only [Act.put, List.setIfInBounds_toArray, List.set_cons_zero, List.set_cons_succ])
                refine wpAnyM_take (i := 25) (oi := { dst := some 95, op := Go.Op.load 9 (Go.Operand.tmp 94), type := 9, pos := "common.go:13", after := #[{ on := 24, ground := Go.Ground.data }], guard := none }) (v := ?v48) [30] rfl (by kernel_rfl) (by kernel_rfl) (by kernel_rfl) (fun _ _ _ h => h) (by kernel_rfl) (Or.inl ⟨by rfl, ?hy48⟩) (by assumption) ?rs48
                case hy48 =>
                  intro w hSw
                  (try dsimp only at hSw)
                  go_simp
                  try with_reducible rfl
                (try simp only [Act.put, List.setIfInBounds_toArray, List.set_cons_zero, List.set_cons_succ])
                refine wpAnyM_ready (rs := [26]) (by kernel_rfl) (by simp) ?_
                refine AllReadyM.cons (o := { dst := some 96, op := Go.Op.buildSlice 26 2 #[(0, Go.Operand.tmp 86), (1, Go.Operand.tmp 95)], type := 26, pos := "common.go:13", after := #[{ on := 16, ground := Go.Ground.data }, { on := 25, ground := Go.Ground.data }], guard := none }) rfl (fun K26 hK26 => ?_) AllReadyM.nil
                go_simp
                skip
                (try go_wp2_with fail)
                refine hK26.out _ _ ?_ (fun hHeld => ?_)
                · (try dsimp only)
                  exact HY1.out _ (by repeat (first | assumption | exact Kept.refl _ | apply Kept.drew | apply Kept.drewN | apply Kept.alloc | refine Kept.trans ?_ (by assumption)))
                (try simp only [Act.put, List.setIfInBounds_toArray, List.set_cons_zero, List.set_cons_succ])
                refine wpAnyM_ready (rs := [27]) (by kernel_rfl) (by simp) ?_
                refine AllReadyM.cons (o := { dst := some 97, op := Go.Op.call { callee := Go.Callee.value (Go.Operand.func 65), args := #[Go.Operand.tmp 96], argTypes := #[26] }, type := 9, pos := "common.go:13", after := #[{ on := 26, ground := Go.Ground.data }], guard := none }) rfl (fun K27 hK27 => ?_) AllReadyM.nil
                go_simp
                (go_at_call 65; refine (joinB2 _ _ (X.extract a (a + 1)) RB (by (try simp only [World.cell?_drew, World.cell?_drewN]); exact b0) (by (try simp only [World.cell?_drew, World.cell?_drewN]); exact b1) (by omega)).mono ?_; rintro e u27 ⟨rfl, rfl⟩)
                (try go_wp2_with fail)
                refine hK27.out _ _ ?_ (fun hHeld => ?_)
                · (try dsimp only)
                  exact HY1.out _ (by repeat (first | assumption | exact Kept.refl _ | apply Kept.drew | apply Kept.drewN | apply Kept.alloc | refine Kept.trans ?_ (by assumption)))
                (try simp only [Act.put, List.setIfInBounds_toArray, List.set_cons_zero, List.set_cons_succ])
                refine wpAnyM_ready (rs := [28]) (by kernel_rfl) (by simp) ?_
                refine AllReadyM.cons (o := { dst := some 98, op := Go.Op.call { callee := Go.Callee.value (Go.Operand.func 75), args := #[Go.Operand.tmp 81, Go.Operand.tmp 97], argTypes := #[9, 9] }, type := 9, pos := "common.go:13", after := #[{ on := 11, ground := Go.Ground.data }, { on := 27, ground := Go.Ground.data }, { on := 27, ground := Go.Ground.chain }], guard := none }) rfl (fun K28 hK28 => ?_) AllReadyM.nil
                go_simp
                (go_at_call 75; refine (BE2.out _).mono ?_; rintro e u28 ⟨rfl, rfl⟩)
                (try go_wp2_with fail)
                refine hK28.out _ _ ?_ (fun hHeld => ?_)
                · (try dsimp only)
                  exact HY1.out _ (by repeat (first | assumption | exact Kept.refl _ | apply Kept.drew | apply Kept.drewN | apply Kept.alloc | refine Kept.trans ?_ (by assumption)))
                (try simp only [Act.put, List.setIfInBounds_toArray, List.set_cons_zero, List.set_cons_succ])
                refine wpAnyM_take (i := 29) (oi := { dst := some 99, op := Go.Op.indexAddr 26 (Go.Operand.tmp 73) (Go.Operand.tmp 74), type := 0, pos := "common.go:13", after := #[{ on := 3, ground := Go.Ground.data }, { on := 4, ground := Go.Ground.data }, { on := 0, ground := Go.Ground.phase }, { on := 1, ground := Go.Ground.phase }, { on := 2, ground := Go.Ground.phase }, { on := 3, ground := Go.Ground.phase }, { on := 4, ground := Go.Ground.phase }, { on := 5, ground := Go.Ground.phase }, { on := 6, ground := Go.Ground.phase }, { on := 7, ground := Go.Ground.phase }, { on := 8, ground := Go.Ground.phase }, { on := 9, ground := Go.Ground.phase }, { on := 10, ground := Go.Ground.phase }, { on := 11, ground := Go.Ground.phase }, { on := 12, ground := Go.Ground.phase }, { on := 13, ground := Go.Ground.phase }, { on := 14, ground := Go.Ground.phase }, { on := 15, ground := Go.Ground.phase }, { on := 16, ground := Go.Ground.phase }, { on := 17, ground := Go.Ground.phase }, { on := 18, ground := Go.Ground.phase }, { on := 19, ground := Go.Ground.phase }, { on := 20, ground := Go.Ground.phase }, { on := 21, ground := Go.Ground.phase }, { on := 22, ground := Go.Ground.phase }, { on := 23, ground := Go.Ground.phase }, { on := 24, ground := Go.Ground.phase }, { on := 25, ground := Go.Ground.phase }, { on := 26, ground := Go.Ground.phase }, { on := 27, ground := Go.Ground.phase }, { on := 28, ground := Go.Ground.phase }], guard := none }) (v := ?v49) [30] rfl (by kernel_rfl) (by kernel_rfl) (by kernel_rfl) (fun _ _ _ h => h) (by kernel_rfl) (Or.inl ⟨by rfl, ?hy49⟩) (by assumption) ?rs49
                case hy49 =>
                  intro w hSw
                  (try dsimp only at hSw)
                  go_simp
                  try with_reducible rfl
                (try simp only [Act.put, List.setIfInBounds_toArray, List.set_cons_zero, List.set_cons_succ])
                refine wpAnyM_ready (rs := [30]) (by kernel_rfl) (by simp) ?_
                refine AllReadyM.atLast (o := { dst := none, op := Go.Op.store 9 (Go.Operand.tmp 99) (Go.Operand.tmp 98), type := 0, pos := "common.go:13", after := #[{ on := 29, ground := Go.Ground.data }, { on := 28, ground := Go.Ground.data }, { on := 28, ground := Go.Ground.chain }, { on := 0, ground := Go.Ground.phase }, { on := 1, ground := Go.Ground.phase }, { on := 2, ground := Go.Ground.phase }, { on := 3, ground := Go.Ground.phase }, { on := 4, ground := Go.Ground.phase }, { on := 5, ground := Go.Ground.phase }, { on := 6, ground := Go.Ground.phase }, { on := 7, ground := Go.Ground.phase }, { on := 8, ground := Go.Ground.phase }, { on := 9, ground := Go.Ground.phase }, { on := 10, ground := Go.Ground.phase }, { on := 11, ground := Go.Ground.phase }, { on := 12, ground := Go.Ground.phase }, { on := 13, ground := Go.Ground.phase }, { on := 14, ground := Go.Ground.phase }, { on := 15, ground := Go.Ground.phase }, { on := 16, ground := Go.Ground.phase }, { on := 17, ground := Go.Ground.phase }, { on := 18, ground := Go.Ground.phase }, { on := 19, ground := Go.Ground.phase }, { on := 20, ground := Go.Ground.phase }, { on := 21, ground := Go.Ground.phase }, { on := 22, ground := Go.Ground.phase }, { on := 23, ground := Go.Ground.phase }, { on := 24, ground := Go.Ground.phase }, { on := 25, ground := Go.Ground.phase }, { on := 26, ground := Go.Ground.phase }, { on := 27, ground := Go.Ground.phase }, { on := 28, ground := Go.Ground.phase }], guard := none }) rfl (fun K30 hK30 => ?_) AllReadyM.nil
                go_simp
                skip
                (try go_wp2_with fail)
                refine hK30.out _ _ ?_
                (try simp only [Act.put, List.setIfInBounds_toArray, List.set_cons_zero, List.set_cons_succ])
                refine wpAnyM_done (by kernel_rfl) ?_ _
                go_wp2_with fail
                go_roundg (c + 1)
                case measure => omega
                case rel => exact ⟨c, by omega, rfl, rfl, (HFIN.out _ (by repeat (first | assumption | exact Kept.refl _ | apply Kept.drew | apply Kept.drewN | apply Kept.alloc | refine Kept.trans ?_ (by assumption)))).1, (HFIN.out _ (by repeat (first | assumption | exact Kept.refl _ | apply Kept.drew | apply Kept.drewN | apply Kept.alloc | refine Kept.trans ?_ (by assumption)))).2⟩
              · have e1 : (cx == cy) = false := by
                  rw [hcX.out, hcY.out]; simp only [beq_eq_false_iff_ne]; intro h; exact heq (UInt8.toNat_inj.1 (by omega))
                have hT2 : TabAt W1 H n m (tabC s t a c) := hT1.congr fun x y _ _ => by
                  rw [tabC_step s t (i := a) (j := c) x y, hst.out, if_neg heq]
                have HT2 := Lib.hid hT2
                have HK1 := Lib.hid hK1
                clear heq hcX hcY HCX HCY hT1 hT2 hK1 hst
                go_wp2_with fail
                go_quiet (fail)
                go_wp2_with fail
                go_roundg (c + 1)
                case measure => omega
                case rel => exact ⟨c, by omega, rfl, rfl, HK1.out.drewN _, HT2.out.kept ((Kept.refl _).drewN _)⟩
            · obtain rfl : j = 0 := by omega
              have c2 : ¬ ((0 : Nat) : Int) - 1 ≥ 0 := by omega
              go_wp2_with fail
              go_roundg (a + 1)
              case measure => omega
              case rel => exact ⟨a, by omega, rfl, rfl, hK, hT⟩
        · obtain rfl : i = 0 := by omega
          have c2 : ¬ ((0 : Nat) : Int) - 1 ≥ 0 := by omega
          have r0 := hT.outer.cell (show 0 < n + 1 by omega)
          have p0 := (hT.row 0 (by omega)).cell (show 0 < m + 1 by omega)
          (try dsimp only at r0 p0)
          rw [tabC_all, List.drop_zero, List.drop_zero] at p0
          obtain ⟨ZB, HZB⟩ : ∃ x : ByteArray, Hid (x = bs (com s t)) := ⟨_, Lib.hid rfl⟩
          rw [← HZB.out] at p0
          have hHK := Lib.hid hK
          clear hT hK
          go_wp2_with fail
          go_ret
          exact ⟨by rw [HZB.out]; rfl, hHK.out⟩
end Go.Proofs.Ytjcgplocifmolaa
