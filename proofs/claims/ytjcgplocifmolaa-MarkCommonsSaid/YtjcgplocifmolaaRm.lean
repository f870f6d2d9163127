/-
  The reference of mark: better, Common.
-/
import Derived.Test.YtjcgplocifmolaaRa
import Derived.Test.YtjcgplocifmolaaMg
import Derived.Test.YtjcgplocifmolaaYg
namespace Go.Proofs.Ytjcgplocifmolaa
open Go.RowKit Go.Deep Go.Sort

set_option maxRecDepth 100000 in
set_option maxHeartbeats 1000000 in
theorem rbetter_any (w : World) (y x : Wd) : Calls Try.prog 50 #[.string (bs y), .string (bs x)] w fun e w' => e = .returned (.bool (bt y x)) ∧ w = w' := by
  have hlt := bytes_lt y x
  obtain ⟨X, HX⟩ : ∃ X : ByteArray, Hid (X = bs x) := ⟨_, Lib.hid rfl⟩
  obtain ⟨Y, HY⟩ : ∃ X : ByteArray, Hid (X = bs y) := ⟨_, Lib.hid rfl⟩
  have hxs : X.size = x.length := by rw [HX.out]; rfl
  have hys : Y.size = y.length := by rw [HY.out]; rfl
  rw [← HX.out, ← HY.out] at hlt ⊢
  obtain ⟨z, HZ⟩ : ∃ z, Hid (z = bt y x) := ⟨_, rfl⟩
  obtain ⟨c, HC⟩ : ∃ z, Hid (z = decide (y < x)) := ⟨_, rfl⟩
  have hz : z = (decide (x.length < y.length) || (decide (y.length = x.length) && c)) := by rw [HZ.out, HC.out]; rfl
  rw [← HZ.out]
  rw [← HC.out] at hlt
  clear HX HY HZ HC
  obtain ⟨n, HN⟩ : ∃ n, Hid (n = x.length) := ⟨_, rfl⟩
  obtain ⟨m, HM⟩ : ∃ n, Hid (n = y.length) := ⟨_, rfl⟩
  rw [← HN.out] at hxs hz
  rw [← HM.out] at hys hz
  by_cases h1 : n < m
  · have e1 : (m : Int) > (n : Int) := by omega
    obtain rfl : z = true := by rw [hz, decide_eq_true h1]; rfl
    clear hz hlt
    go_enter Try.func50, Try.ntmps50
    go_wp2_with fail
    go_ret
    exact ⟨rfl, rfl⟩
  · have e1 : ¬ (m : Int) > (n : Int) := by omega
    by_cases h2 : m = n
    · have e2 : ((m : Int) == (n : Int)) = true := by rw [h2]; simp
      obtain rfl : z = c := by rw [hz, decide_eq_false h1, decide_eq_true h2]; simp
      clear hz h2
      go_enter Try.func50, Try.ntmps50
      go_wp2_with fail
      go_ret
      exact ⟨rfl, rfl⟩
    · have e2 : ((m : Int) == (n : Int)) = false := by simp only [beq_eq_false_iff_ne]; omega
      obtain rfl : z = false := by rw [hz, decide_eq_false h1, decide_eq_false h2]; rfl
      clear hz hlt
      go_enter Try.func50, Try.ntmps50
      go_wp2_with fail
      go_ret
      exact ⟨rfl, rfl⟩
theorem Try.infoRow9 : (Try.prog.info? 26).map (fun i => (i.zero, i.size, i.bytes)) = some (some (.slice none 0 0), 1, 24) := by kernel_rfl
/-- an append to a row of another type leaves a row as it is -/
theorem row_grow {w w' : World} {base T size b t n : Nat} {v : Value} {k : Nat} {xs : List Value} {f : Nat → Value} (h : w.rowIs b t n f) (ho : w.ownsRow base T size v k xs) (hT : T ≠ t) (hg : w.grownBy w' v.ownBlock) : w'.rowIs b t n f := by
  obtain ⟨c, hb, h1, h2⟩ := h
  refine ⟨c, ?_, h1, h2⟩
  rw [hg.block b (Array.getElem?_eq_some_iff.1 hb).1, hb]
  intro e
  rcases ho.2 with ⟨rfl, _⟩ | ⟨g, cap, cur, rfl, _, h3, _⟩
  · cases e
  · have e2 : b = g := by simpa [Value.ownBlock] using e
    subst e2
    rw [hb] at h3
    injection h3 with h3
    injection h3 with _ h3
    exact hT h3.symm
/-- a table of words: rows of m + 1 strings, made one by one -/
structure TabG (w : World) (O oo n m : Nat) (R : Nat → Nat) (T : Nat → Nat → Wd) : Prop where
  outer : ∀ i, i ≤ n → w.cell? ⟨O, oo + i, none⟩ = some (.slice (some ⟨R i, 0, none⟩) (m + 1) (m + 1))
  row : ∀ a, a ≤ n → w.rowIs (R a) 9 (m + 1) (fun b => .string (bs (T a b)))
  ne : ∀ a, a ≤ n → R a ≠ O
  inj : ∀ a b, a ≤ n → b ≤ n → R a = R b → a = b
theorem TabG.kept {w w' : World} {O oo n m : Nat} {R : Nat → Nat} {T : Nat → Nat → Wd} (h : TabG w O oo n m R T) (k : Kept w w') : TabG w' O oo n m R T :=
  ⟨fun i hi => k.cellSome (h.outer i hi), fun a ha => k.row (h.row a ha), h.ne, h.inj⟩
theorem TabG.congr {w : World} {O oo n m : Nat} {R : Nat → Nat} {T U : Nat → Nat → Wd} (h : TabG w O oo n m R T) (e : ∀ a b, a ≤ n → b ≤ m → T a b = U a b) : TabG w O oo n m R U :=
  ⟨h.outer, fun a ha => (h.row a ha).congr fun b hb => by rw [e a b ha (by omega)], h.ne, h.inj⟩
theorem TabG.set {w : World} {O oo n m : Nat} {R : Nat → Nat} {T : Nat → Nat → Wd} (h : TabG w O oo n m R T) {a c : Nat} (ha : a ≤ n) (x : Wd) : TabG (w.setCell ⟨R a, c, none⟩ (.string (bs x))) O oo n m R (fun a' b' => if a' = a ∧ b' = c then x else T a' b') := by
  have k : KeptX (fun k => k = R a) w (w.setCell ⟨R a, c, none⟩ (.string (bs x))) := (KeptX.refl _ w).setIn c _
  refine ⟨fun i hi => k.cellSome (h.outer i hi) (fun e => h.ne a ha e.symm), fun a' ha' => ?_, h.ne, h.inj⟩
  by_cases e : a' = a
  · subst e
    exact ((h.row a' ha').set c _).congr fun b hb => by
      by_cases e2 : b = c
      · subst e2; simp
      · simp [e2]
  · exact (k.row (h.row a' ha') (fun e2 => e (h.inj a' a ha' ha e2))).congr fun b hb => by simp [e]
/-- the rows' slices -/
def rwV (m : Nat) (R : Nat → Nat) (a : Nat) : Value := .slice (some ⟨R a, 0, none⟩) (m + 1) (m + 1)
def rwL (m : Nat) (R : Nat → Nat) (n : Nat) : List Value := (List.range n).map (rwV m R)
theorem rwL_succ (m : Nat) (R : Nat → Nat) (n z : Nat) : rwL m (fun a => if a = n then z else R a) (n + 1) = rwL m R n ++ [.slice (some ⟨z, 0, none⟩) (m + 1) (m + 1)] := by
  unfold rwL
  rw [List.range_succ, List.map_append]
  congr 1
  · apply List.map_congr_left
    intro a ha
    have := List.mem_range.1 ha
    unfold rwV
    dsimp only
    rw [if_neg (by omega)]
  · simp [rwV]
set_option maxRecDepth 100000 in
set_option maxHeartbeats 4000000 in
theorem rCommon_any (w : World) (s t : Wd) (hs : s.length ≤ 1000) (ht : t.length ≤ 1000) :
    Calls Try.prog 22 #[.string (bs s), .string (bs t)] w fun e w' => e = .returned (.string (bs (com s t))) ∧ Kept w w' := by
  obtain ⟨n, HN⟩ : ∃ n, Hid (n = s.length) := ⟨_, rfl⟩
  obtain ⟨m, HM⟩ : ∃ n, Hid (n = t.length) := ⟨_, rfl⟩
  obtain ⟨X, HX⟩ : ∃ X : ByteArray, Hid (X = bs s) := ⟨_, Lib.hid rfl⟩
  obtain ⟨Y, HY⟩ : ∃ X : ByteArray, Hid (X = bs t) := ⟨_, Lib.hid rfl⟩
  have hxs : X.size = n := by rw [HX.out, HN.out]; rfl
  have hys : Y.size = m := by rw [HY.out, HM.out]; rfl
  rw [← HN.out] at hs
  rw [← HM.out] at ht
  rw [← HX.out, ← HY.out]
  have hmk2 := mkStrs ((m : Int) + 1) (m + 1) (by omega) (by omega)
  have hw1 : IntKind.i64.wrap ((n : Int) + 1) = (n : Int) + 1 := IntWalk.i64_in _ (by omega)
  have hw2 : IntKind.i64.wrap ((m : Int) + 1) = (m : Int) + 1 := IntWalk.i64_in _ (by omega)
  obtain ⟨i1, hi1, hz0, hz1, hz2⟩ := info_parts Try.infoRow9
  have hO0 : (w.alloc (.cells #[] 26)).ownsRow w.heap.size 26 1 (.slice (some ⟨w.heap.size, 0, none⟩) 0 0) 0 (rwL m (fun _ => 0) 0) := own_zero w _ _ (Nat.le_refl _)
  have hK0 : Kept w (w.alloc (.cells #[] 26)) := (Kept.refl w).alloc _
  go_enter Try.func22, Try.ntmps22
  go_wp2_with fail
  generalize w.alloc (.cells #[] 26) = W0 at *
  go_loopg [5, 6] (n + 1) (fun g s5 s6 wr => ∃ (i : Nat) (R : Nat → Nat), i ≤ n + 1 ∧ g = n + 1 - i ∧ s6 = .int .i64 i ∧ Kept w wr ∧ wr.ownsRow w.heap.size 26 1 s5 i (rwL m R i) ∧ (∀ a, a < i → wr.rowIs (R a) 9 (m + 1) (fun _ => .string ⟨#[]⟩)) ∧ (∀ a, a < i → w.heap.size ≤ R a ∧ R a < wr.heap.size) ∧ (∀ a b, a < i → b < i → R a = R b → a = b))
  case atStart => exact ⟨0, fun _ => 0, Nat.zero_le _, rfl, rfl, hK0, hO0, fun a ha => absurd ha (by omega), fun a ha => absurd ha (by omega), fun a b ha => absurd ha (by omega)⟩
  case round =>
    obtain ⟨i, R, hi, rfl, rfl, hK, hO, hR, hB, hI⟩ := hrel
    clear hK0 hO0
    obtain ⟨vb, vbcap, rfl⟩ := own_shape hO
    have HR := Lib.hid hR
    have HB := Lib.hid hB
    have HI := Lib.hid hI
    clear hR hB hI
    by_cases hlt : i < n + 1
    · have s2 : (i : Int) ≤ (n : Int) := by omega
      have s3 : (0 : Int) ≤ (i : Int) := by omega
      have hKb : Kept wr (wr.alloc (.cells (madeCells #[.string ⟨#[]⟩] (m + 1)) 9)) := (Kept.refl wr).alloc _
      have hnew := World.rowIs_made wr (.string ⟨#[]⟩) (m + 1) 9
      have hOb := own_kept hO hKb
      have hsw := hK.size
      obtain ⟨Lv, HLv⟩ : ∃ Lv, Hid (Lv = rwL m R i) := ⟨_, rfl⟩
      rw [← HLv.out] at hOb
      clear hO
      go_wp2_with (first | (at_builtin; refine wpList_append_own _ rfl _ _ 92 rfl w.heap.size 26 i1 (.slice none 0 0) 1 24 Try.underlying92 hi1 hz0 hz1 hz2 rfl (by decide) _ _ _ rfl (hOb.alloc _) ⟨_, 0, none⟩ 1 1 [.slice (some ⟨wr.heap.size, 0, none⟩) (m + 1) (m + 1)] rfl rfl (World.news_of_block (cs := #[.slice (some ⟨wr.heap.size, 0, none⟩) (m + 1) (m + 1)]) (t := 26) (fr := (0, 0)) (heap_new2 wr _ _)) ?c2 ?c3 ?c4 ?c5 ?_))
      case c2 => simp [Value.oneCell']
      case c3 => unfold maxLen; omega
      case c4 => omega
      case c5 => (try simp); omega
      intro ov' w2 hO3 hgr _
      have hK2 : Kept w w2 := ((hK.trans hKb).alloc _).grew hgr (hOb.alloc _) (Nat.le_refl _)
      have hO4 : w2.ownsRow w.heap.size 26 1 ov' (i + 1) (rwL m (fun a => if a = i then wr.heap.size else R a) (i + 1)) := by rw [rwL_succ, ← HLv.out]; exact hO3
      have hsz2 : wr.heap.size < w2.heap.size := by have := hgr.size; rw [World.size_alloc, World.size_alloc] at this; omega
      have hrow2 : Hid (∀ a, a < i + 1 → w2.rowIs (if a = i then wr.heap.size else R a) 9 (m + 1) (fun _ => .string ⟨#[]⟩)) := Lib.hid (fun a ha => by
        by_cases e : a = i
        · rw [if_pos e]; exact row_grow (hnew.alloc _) (hOb.alloc _) (by decide) hgr
        · rw [if_neg e]; exact row_grow ((hKb.row (HR.out a (by omega))).alloc _) (hOb.alloc _) (by decide) hgr)
      have hB2 : Hid (∀ a, a < i + 1 → w.heap.size ≤ (if a = i then wr.heap.size else R a) ∧ (if a = i then wr.heap.size else R a) < w2.heap.size) := Lib.hid (fun a ha => by
        by_cases e : a = i
        · rw [if_pos e]; exact ⟨hsw, hsz2⟩
        · rw [if_neg e]; have := HB.out a (by omega); omega)
      have hI2 : Hid (∀ a b, a < i + 1 → b < i + 1 → (if a = i then wr.heap.size else R a) = (if b = i then wr.heap.size else R b) → a = b) := Lib.hid (fun a b ha hb => by
        by_cases e : a = i
        · by_cases e2 : b = i
          · intro _; rw [e, e2]
          · rw [if_pos e, if_neg e2]; intro h; have := HB.out b (by omega); omega
        · by_cases e2 : b = i
          · rw [if_neg e, if_pos e2]; intro h; have := HB.out a (by omega); omega
          · rw [if_neg e, if_neg e2]; exact HI.out a b (by omega) (by omega))
      clear hO3 hgr hOb hK hKb hnew
      go_wp2_with fail
      go_roundg (n + 1 - (i + 1))
      case measure => omega
      case rel => exact ⟨i + 1, fun a => if a = i then wr.heap.size else R a, by omega, rfl, by first | rfl | go_num, hK2, hO4, hrow2.out, hB2.out, hI2.out⟩
    · obtain rfl : i = n + 1 := by omega
      have s2 : ¬ (((n + 1 : Nat) : Int) ≤ (n : Int)) := by omega
      have hAT := CellsAt.of_own hO
      obtain ⟨ad, O, oo, cc, hsl, ha, hcT⟩ := hAT
      obtain ⟨rfl, rfl⟩ : vb = ad ∧ vbcap = cc := by simpa using hsl
      obtain rfl := ha (by omega)
      have hT : TabG wr O oo n m R (tabC s t n 0) := by
        refine ⟨fun j hj => ?_, fun a ha => (HR.out a (by omega)).congr fun b hb => ?_, fun a ha e => ?_, fun a b ha hb => HI.out a b (by omega) (by omega)⟩
        · have h := hcT j (by omega)
          have h2 : (rwL m R (n + 1)).getD j undef = rwV m R j := by
            unfold rwL
            have hj2 : j < n + 1 := by omega
            simp [List.getD_eq_getElem?_getD, hj2]
          dsimp only at h
          rw [h2] at h
          exact h
        · rw [HN.out, tabC_start s t a b]; rfl
        · obtain ⟨c, hb, _⟩ := HR.out a (by omega)
          rcases hO.2 with ⟨h1, _⟩ | ⟨g, cap, cur, h1, _, h3, _⟩
          · cases h1
          · have e2 : O = g := by injection h1 with h1; injection h1 with h1; injection h1
            rw [e, e2, h3] at hb
            injection hb with hb
            injection hb with _ hb
            exact absurd hb (by decide)
      have HRL : Hid (∀ a, a ≤ n → w.heap.size ≤ R a) := Lib.hid (fun a ha => (HB.out a (by omega)).1)
      clear hsl ha hcT hO HR HB HI
      go_wp2_with fail
      go_loopg [7] (n + 1) (fun g s7 wr => ∃ i : Nat, i ≤ n ∧ g = i + 1 ∧ s7 = .int .i64 ((i : Int) - 1) ∧ Kept w wr ∧ TabG wr O oo n m R (tabC s t i 0))
      case atStart => exact ⟨n, Nat.le_refl _, rfl, rfl, hK, hT⟩
      case round =>
        clear hK hT
        obtain ⟨i, hi, rfl, rfl, hK, hT⟩ := hrel
        by_cases h0 : 0 < i
        · obtain ⟨a, rfl⟩ : ∃ a, i = a + 1 := ⟨i - 1, by omega⟩
          have ea : (((a + 1 : Nat) : Int) - 1) = (a : Int) := by omega
          rw [ea]
          have s2 : (a : Int) ≥ 0 := by omega
          have s3 : (0 : Int) ≤ (a : Int) := by omega
          have s4 : (a : Int) < (n : Int) + 1 := by omega
          have s5 : (a : Int) + 1 < (n : Int) + 1 := by omega
          have s6 : (0 : Int) ≤ (a : Int) + 1 := by omega
          have s7 : (a : Int) < (n : Int) := by omega
          have wa : IntKind.i64.wrap ((a : Int) + 1) = (a : Int) + 1 := IntWalk.i64_in _ (by omega)
          have ta : ((a : Int) + 1).toNat = a + 1 := by omega
          have hT2 : TabG wr O oo n m R (tabC s t a m) := hT.congr fun x y _ hy => by rw [HM.out]; exact tabC_row s t a x y
          clear hT ea
          go_wp2_with fail
          go_loopg [8] (m + 1) (fun g s8 wr => ∃ j : Nat, j ≤ m ∧ g = j + 1 ∧ s8 = .int .i64 ((j : Int) - 1) ∧ Kept w wr ∧ TabG wr O oo n m R (tabC s t a j))
          case atStart => exact ⟨m, Nat.le_refl _, rfl, rfl, hK, hT2⟩
          case round =>
            clear hK hT2
            obtain ⟨j, hj, rfl, rfl, hK, hT⟩ := hrel
            by_cases h1 : 0 < j
            · obtain ⟨c, rfl⟩ : ∃ c, j = c + 1 := ⟨j - 1, by omega⟩
              have ec : (((c + 1 : Nat) : Int) - 1) = (c : Int) := by omega
              rw [ec]
              clear ec
              have c2 : (c : Int) ≥ 0 := by omega
              have c3 : (0 : Int) ≤ (c : Int) := by omega
              have c4 : (c : Int) < (m : Int) + 1 := by omega
              have c5 : (c : Int) + 1 < (m : Int) + 1 := by omega
              have c6 : (0 : Int) ≤ (c : Int) + 1 := by omega
              have c7 : (c : Int) < (m : Int) := by omega
              have k1 : (a : Int) ≤ (a : Int) + 1 := by omega
              have k2 : (a : Int) + 1 ≤ (n : Int) := by omega
              have wc : IntKind.i64.wrap ((c : Int) + 1) = (c : Int) + 1 := IntWalk.i64_in _ (by omega)
              have tc : ((c : Int) + 1).toNat = c + 1 := by omega
              have han : a < s.length := by rw [← HN.out]; omega
              have hcm : c < t.length := by rw [← HM.out]; omega
              have hst := com_step han hcm
              have hP : tabC s t a (c + 1) (a + 1) c = com (s.drop (a + 1)) (t.drop c) := by unfold tabC; rw [if_pos (.inl (by omega))]
              have hQ : tabC s t a (c + 1) a (c + 1) = com (s.drop a) (t.drop (c + 1)) := by unfold tabC; rw [if_pos (.inr ⟨rfl, Nat.le_refl _⟩)]
              have hR : tabC s t a (c + 1) (a + 1) (c + 1) = com (s.drop (a + 1)) (t.drop (c + 1)) := by unfold tabC; rw [if_pos (.inl (by omega))]
              have r0 := hT.outer a (by omega)
              have r1 := hT.outer (a + 1) (by omega)
              have p0 := (hT.row (a + 1) (by omega)).cell (show c < m + 1 by omega)
              have q0 := (hT.row a (by omega)).cell (show c + 1 < m + 1 by omega)
              have o0 := (hT.row (a + 1) (by omega)).cell (show c + 1 < m + 1 by omega)
              (try dsimp only at p0 q0 o0)
              rw [hP] at p0
              rw [hQ] at q0
              rw [hR] at o0
              have HTT := Lib.hid hT
              have HKK := Lib.hid hK
              clear hP hQ hR hT hK
              obtain ⟨PQ, HPQ⟩ : ∃ x : Wd, Hid (x = pick (com (s.drop (a + 1)) (t.drop c)) (com (s.drop a) (t.drop (c + 1)))) := ⟨_, Lib.hid rfl⟩
              rw [← HPQ.out] at hst
              obtain ⟨Z1, HZ1⟩ : ∃ x : ByteArray, Hid (x = bs PQ) := ⟨_, Lib.hid rfl⟩
              obtain ⟨PB, HPB⟩ : ∃ x : ByteArray, Hid (x = bs (com (s.drop (a + 1)) (t.drop c))) := ⟨_, Lib.hid rfl⟩
              obtain ⟨QB, HQB⟩ : ∃ x : ByteArray, Hid (x = bs (com (s.drop a) (t.drop (c + 1)))) := ⟨_, Lib.hid rfl⟩
              obtain ⟨RB, HRB⟩ : ∃ x : ByteArray, Hid (x = bs (com (s.drop (a + 1)) (t.drop (c + 1)))) := ⟨_, Lib.hid rfl⟩
              have BE1 := Lib.hid (fun W => rbetter_any W (com (s.drop a) (t.drop (c + 1))) (com (s.drop (a + 1)) (t.drop c)))
              rw [← HPB.out] at p0 BE1
              rw [← HQB.out] at q0 BE1
              rw [← HRB.out] at o0
              have hRs : RB.size ≤ 1000 := by
                rw [HRB.out, bs_size]
                have := (com_len (s.drop (a + 1)) (t.drop (c + 1))).1
                rw [List.length_drop, ← HN.out] at this
                omega
              have hext : Hid (X.extract a (a + 1) = bs [s[a]]) := by
                show _ = _
                rw [HX.out, bs_extract, show a + 1 - a = 1 by omega, List.drop_eq_getElem_cons han]; rfl
              have hXs1 : (X.extract a (a + 1)).size = 1 := by rw [hext.out]; rfl
              obtain ⟨Y2, HY2⟩ : ∃ x : ByteArray, Hid (x = bs (s[a] :: com (s.drop (a + 1)) (t.drop (c + 1)))) := ⟨_, Lib.hid rfl⟩
              have hJ : X.extract a (a + 1) ++ RB = Y2 := by rw [hext.out, HRB.out, HY2.out, bs_append]; rfl
              have hatX := chr_at (s := X) (i := a) (by rw [hxs]; omega)
              have hatY := chr_at (s := Y) (i := c) (by rw [hys]; omega)
              have hcX : Hid (chr X a = (s[a].toNat : Int)) := by show _ = _; rw [HX.out]; exact chr_bs han
              have hcY : Hid (chr Y c = (t[c].toNat : Int)) := by show _ = _; rw [HY.out]; exact chr_bs hcm
              obtain ⟨cx, HCX⟩ : ∃ x, Hid (x = chr X a) := ⟨_, rfl⟩
              obtain ⟨cy, HCY⟩ : ∃ x, Hid (x = chr Y c) := ⟨_, rfl⟩
              rw [← HCX.out] at hatX hcX
              rw [← HCY.out] at hatY hcY
              cases hb1 : bt (com (s.drop a) (t.drop (c + 1))) (com (s.drop (a + 1)) (t.drop c))
              · rw [hb1] at BE1
                obtain rfl : PB = Z1 := by rw [HZ1.out, HPB.out, HPQ.out]; unfold pick; rw [hb1]; rfl
                have BE2 := Lib.hid (fun W => rbetter_any W (s[a] :: com (s.drop (a + 1)) (t.drop (c + 1))) PQ)
                rw [← HY2.out, ← HZ1.out] at BE2
                by_cases heq : s[a] = t[c]
                · have e1 : (cx == cy) = true := by rw [hcX.out, hcY.out, heq]; simp
                  rw [if_pos heq] at hst
                  cases hb2 : bt (s[a] :: com (s.drop (a + 1)) (t.drop (c + 1))) PQ
                  · rw [hb2] at BE2
                    have hZZ : Hid (PB = bs (com (s.drop a) (t.drop c))) := by
                      show _ = _
                      rw [hst, HZ1.out]; unfold pick; rw [hb2]; rfl
                    have HFIN : Hid (∀ W, Kept wr W → Kept w (W.setCell ⟨R a, c, none⟩ (.string PB)) ∧ TabG (W.setCell ⟨R a, c, none⟩ (.string PB)) O oo n m R (tabC s t a c)) := Lib.hid (fun W k => by
                      refine ⟨(HKK.out.trans k).setCell (p := ⟨R a, c, none⟩) (HRL.out a (by omega)) _, ?_⟩
                      rw [hZZ.out]
                      refine ((HTT.out.kept k).set (by omega) _).congr fun x y _ _ => ?_
                      rw [tabC_step s t (i := a) (j := c) x y])
                    have z0 := (HTT.out.row a (by omega)).cell (show c < m + 1 by omega)
                    have z1 := (HTT.out.row a (by omega)).frozen c
                    (try dsimp only at z0)
                    generalize bs (tabC s t a (c + 1) a c) = old at z0
                    go_wp2_with (first | (go_at_call 50; refine (BE1.out _).mono ?_; rintro e w5 ⟨rfl, rfl⟩))
                    go_quiet (fail)
                    have hq5 : Quiet wr (wr.drewN nq) := ⟨_, rfl⟩
                    generalize wr.drewN nq = W5 at *
                    have z0 := hq5.kept.cellSome z0
                    have z1 := (hq5.kept.row (HTT.out.row a (by omega))).frozen c
                    have r0 := hq5.kept.cellSome r0
                    clear p0 q0 o0 r1
                    go_wp2_with fail
                    go_quiet ((go_at_call 50; exact quietS (BE2.out _)))
                    go_wp2_with fail
                    go_roundg (c + 1)
                    case measure => omega
                    case rel => exact ⟨c, by omega, rfl, by first | rfl | go_num, (HFIN.out _ (by first | exact Kept.refl _ | exact (Kept.refl _).drewN _ | exact ((Kept.refl _).drewN _).drewN _ | exact hq5.kept | exact hq5.kept.drewN _)).1, (HFIN.out _ (by first | exact Kept.refl _ | exact (Kept.refl _).drewN _ | exact ((Kept.refl _).drewN _).drewN _ | exact hq5.kept | exact hq5.kept.drewN _)).2⟩
                  · rw [hb2] at BE2
                    have hZZ : Hid (Y2 = bs (com (s.drop a) (t.drop c))) := by
                      show _ = _
                      rw [hst, HY2.out]; unfold pick; rw [hb2]; rfl
                    have HFIN : Hid (∀ W, Kept wr W → Kept w (W.setCell ⟨R a, c, none⟩ (.string Y2)) ∧ TabG (W.setCell ⟨R a, c, none⟩ (.string Y2)) O oo n m R (tabC s t a c)) := Lib.hid (fun W k => by
                      refine ⟨(HKK.out.trans k).setCell (p := ⟨R a, c, none⟩) (HRL.out a (by omega)) _, ?_⟩
                      rw [hZZ.out]
                      refine ((HTT.out.kept k).set (by omega) _).congr fun x y _ _ => ?_
                      rw [tabC_step s t (i := a) (j := c) x y])
                    have z0 := (HTT.out.row a (by omega)).cell (show c < m + 1 by omega)
                    have z1 := (HTT.out.row a (by omega)).frozen c
                    (try dsimp only at z0)
                    generalize bs (tabC s t a (c + 1) a c) = old at z0
                    go_wp2_with (first | (go_at_call 50; refine (BE1.out _).mono ?_; rintro e w5 ⟨rfl, rfl⟩))
                    go_quiet (fail)
                    have hq5 : Quiet wr (wr.drewN nq) := ⟨_, rfl⟩
                    generalize wr.drewN nq = W5 at *
                    have z0 := hq5.kept.cellSome z0
                    have z1 := (hq5.kept.row (HTT.out.row a (by omega))).frozen c
                    have r0 := hq5.kept.cellSome r0
                    clear p0 q0 o0 r1
                    go_wp2_with fail
                    go_quiet ((go_at_call 50; exact quietS (BE2.out _)))
                    go_wp2_with fail
                    go_roundg (c + 1)
                    case measure => omega
                    case rel => exact ⟨c, by omega, rfl, by first | rfl | go_num, (HFIN.out _ (by first | exact Kept.refl _ | exact (Kept.refl _).drewN _ | exact ((Kept.refl _).drewN _).drewN _ | exact hq5.kept | exact hq5.kept.drewN _)).1, (HFIN.out _ (by first | exact Kept.refl _ | exact (Kept.refl _).drewN _ | exact ((Kept.refl _).drewN _).drewN _ | exact hq5.kept | exact hq5.kept.drewN _)).2⟩
                · have e1 : (cx == cy) = false := by
                    rw [hcX.out, hcY.out]; simp only [beq_eq_false_iff_ne]; intro h; exact heq (UInt8.toNat_inj.1 (by omega))
                  rw [if_neg heq] at hst
                  have hZZ : Hid (PB = bs (com (s.drop a) (t.drop c))) := by
                    show _ = _
                    rw [hst, HZ1.out]
                  have HFIN : Hid (∀ W, Kept wr W → Kept w (W.setCell ⟨R a, c, none⟩ (.string PB)) ∧ TabG (W.setCell ⟨R a, c, none⟩ (.string PB)) O oo n m R (tabC s t a c)) := Lib.hid (fun W k => by
                    refine ⟨(HKK.out.trans k).setCell (p := ⟨R a, c, none⟩) (HRL.out a (by omega)) _, ?_⟩
                    rw [hZZ.out]
                    refine ((HTT.out.kept k).set (by omega) _).congr fun x y _ _ => ?_
                    rw [tabC_step s t (i := a) (j := c) x y])
                  have z0 := (HTT.out.row a (by omega)).cell (show c < m + 1 by omega)
                  have z1 := (HTT.out.row a (by omega)).frozen c
                  (try dsimp only at z0)
                  generalize bs (tabC s t a (c + 1) a c) = old at z0
                  go_wp2_with (first | (go_at_call 50; refine (BE1.out _).mono ?_; rintro e w5 ⟨rfl, rfl⟩))
                  go_quiet (fail)
                  have hq5 : Quiet wr (wr.drewN nq) := ⟨_, rfl⟩
                  generalize wr.drewN nq = W5 at *
                  have z0 := hq5.kept.cellSome z0
                  have z1 := (hq5.kept.row (HTT.out.row a (by omega))).frozen c
                  have r0 := hq5.kept.cellSome r0
                  clear p0 q0 o0 r1
                  go_wp2_with fail
                  go_quiet (fail)
                  go_wp2_with fail
                  go_roundg (c + 1)
                  case measure => omega
                  case rel => exact ⟨c, by omega, rfl, by first | rfl | go_num, (HFIN.out _ (by first | exact Kept.refl _ | exact (Kept.refl _).drewN _ | exact ((Kept.refl _).drewN _).drewN _ | exact hq5.kept | exact hq5.kept.drewN _)).1, (HFIN.out _ (by first | exact Kept.refl _ | exact (Kept.refl _).drewN _ | exact ((Kept.refl _).drewN _).drewN _ | exact hq5.kept | exact hq5.kept.drewN _)).2⟩
              · rw [hb1] at BE1
                obtain rfl : QB = Z1 := by rw [HZ1.out, HQB.out, HPQ.out]; unfold pick; rw [hb1]; rfl
                have BE2 := Lib.hid (fun W => rbetter_any W (s[a] :: com (s.drop (a + 1)) (t.drop (c + 1))) PQ)
                rw [← HY2.out, ← HZ1.out] at BE2
                by_cases heq : s[a] = t[c]
                · have e1 : (cx == cy) = true := by rw [hcX.out, hcY.out, heq]; simp
                  rw [if_pos heq] at hst
                  cases hb2 : bt (s[a] :: com (s.drop (a + 1)) (t.drop (c + 1))) PQ
                  · rw [hb2] at BE2
                    have hZZ : Hid (QB = bs (com (s.drop a) (t.drop c))) := by
                      show _ = _
                      rw [hst, HZ1.out]; unfold pick; rw [hb2]; rfl
                    have HFIN : Hid (∀ W, Kept wr W → Kept w (W.setCell ⟨R a, c, none⟩ (.string QB)) ∧ TabG (W.setCell ⟨R a, c, none⟩ (.string QB)) O oo n m R (tabC s t a c)) := Lib.hid (fun W k => by
                      refine ⟨(HKK.out.trans k).setCell (p := ⟨R a, c, none⟩) (HRL.out a (by omega)) _, ?_⟩
                      rw [hZZ.out]
                      refine ((HTT.out.kept k).set (by omega) _).congr fun x y _ _ => ?_
                      rw [tabC_step s t (i := a) (j := c) x y])
                    have z0 := (HTT.out.row a (by omega)).cell (show c < m + 1 by omega)
                    have z1 := (HTT.out.row a (by omega)).frozen c
                    (try dsimp only at z0)
                    generalize bs (tabC s t a (c + 1) a c) = old at z0
                    go_wp2_with (first | (go_at_call 50; refine (BE1.out _).mono ?_; rintro e w5 ⟨rfl, rfl⟩))
                    go_quiet (fail)
                    have hq5 : Quiet wr (wr.drewN nq) := ⟨_, rfl⟩
                    generalize wr.drewN nq = W5 at *
                    have z0 := hq5.kept.cellSome z0
                    have z1 := (hq5.kept.row (HTT.out.row a (by omega))).frozen c
                    have r0 := hq5.kept.cellSome r0
                    clear p0 q0 o0 r1
                    go_wp2_with fail
                    go_quiet ((go_at_call 50; exact quietS (BE2.out _)))
                    go_wp2_with fail
                    go_roundg (c + 1)
                    case measure => omega
                    case rel => exact ⟨c, by omega, rfl, by first | rfl | go_num, (HFIN.out _ (by first | exact Kept.refl _ | exact (Kept.refl _).drewN _ | exact ((Kept.refl _).drewN _).drewN _ | exact hq5.kept | exact hq5.kept.drewN _)).1, (HFIN.out _ (by first | exact Kept.refl _ | exact (Kept.refl _).drewN _ | exact ((Kept.refl _).drewN _).drewN _ | exact hq5.kept | exact hq5.kept.drewN _)).2⟩
                  · rw [hb2] at BE2
                    have hZZ : Hid (Y2 = bs (com (s.drop a) (t.drop c))) := by
                      show _ = _
                      rw [hst, HY2.out]; unfold pick; rw [hb2]; rfl
                    have HFIN : Hid (∀ W, Kept wr W → Kept w (W.setCell ⟨R a, c, none⟩ (.string Y2)) ∧ TabG (W.setCell ⟨R a, c, none⟩ (.string Y2)) O oo n m R (tabC s t a c)) := Lib.hid (fun W k => by
                      refine ⟨(HKK.out.trans k).setCell (p := ⟨R a, c, none⟩) (HRL.out a (by omega)) _, ?_⟩
                      rw [hZZ.out]
                      refine ((HTT.out.kept k).set (by omega) _).congr fun x y _ _ => ?_
                      rw [tabC_step s t (i := a) (j := c) x y])
                    have z0 := (HTT.out.row a (by omega)).cell (show c < m + 1 by omega)
                    have z1 := (HTT.out.row a (by omega)).frozen c
                    (try dsimp only at z0)
                    generalize bs (tabC s t a (c + 1) a c) = old at z0
                    go_wp2_with (first | (go_at_call 50; refine (BE1.out _).mono ?_; rintro e w5 ⟨rfl, rfl⟩))
                    go_quiet (fail)
                    have hq5 : Quiet wr (wr.drewN nq) := ⟨_, rfl⟩
                    generalize wr.drewN nq = W5 at *
                    have z0 := hq5.kept.cellSome z0
                    have z1 := (hq5.kept.row (HTT.out.row a (by omega))).frozen c
                    have r0 := hq5.kept.cellSome r0
                    clear p0 q0 o0 r1
                    go_wp2_with fail
                    go_quiet ((go_at_call 50; exact quietS (BE2.out _)))
                    go_wp2_with fail
                    go_roundg (c + 1)
                    case measure => omega
                    case rel => exact ⟨c, by omega, rfl, by first | rfl | go_num, (HFIN.out _ (by first | exact Kept.refl _ | exact (Kept.refl _).drewN _ | exact ((Kept.refl _).drewN _).drewN _ | exact hq5.kept | exact hq5.kept.drewN _)).1, (HFIN.out _ (by first | exact Kept.refl _ | exact (Kept.refl _).drewN _ | exact ((Kept.refl _).drewN _).drewN _ | exact hq5.kept | exact hq5.kept.drewN _)).2⟩
                · have e1 : (cx == cy) = false := by
                    rw [hcX.out, hcY.out]; simp only [beq_eq_false_iff_ne]; intro h; exact heq (UInt8.toNat_inj.1 (by omega))
                  rw [if_neg heq] at hst
                  have hZZ : Hid (QB = bs (com (s.drop a) (t.drop c))) := by
                    show _ = _
                    rw [hst, HZ1.out]
                  have HFIN : Hid (∀ W, Kept wr W → Kept w (W.setCell ⟨R a, c, none⟩ (.string QB)) ∧ TabG (W.setCell ⟨R a, c, none⟩ (.string QB)) O oo n m R (tabC s t a c)) := Lib.hid (fun W k => by
                    refine ⟨(HKK.out.trans k).setCell (p := ⟨R a, c, none⟩) (HRL.out a (by omega)) _, ?_⟩
                    rw [hZZ.out]
                    refine ((HTT.out.kept k).set (by omega) _).congr fun x y _ _ => ?_
                    rw [tabC_step s t (i := a) (j := c) x y])
                  have z0 := (HTT.out.row a (by omega)).cell (show c < m + 1 by omega)
                  have z1 := (HTT.out.row a (by omega)).frozen c
                  (try dsimp only at z0)
                  generalize bs (tabC s t a (c + 1) a c) = old at z0
                  go_wp2_with (first | (go_at_call 50; refine (BE1.out _).mono ?_; rintro e w5 ⟨rfl, rfl⟩))
                  go_quiet (fail)
                  have hq5 : Quiet wr (wr.drewN nq) := ⟨_, rfl⟩
                  generalize wr.drewN nq = W5 at *
                  have z0 := hq5.kept.cellSome z0
                  have z1 := (hq5.kept.row (HTT.out.row a (by omega))).frozen c
                  have r0 := hq5.kept.cellSome r0
                  clear p0 q0 o0 r1
                  go_wp2_with fail
                  go_quiet (fail)
                  go_wp2_with fail
                  go_roundg (c + 1)
                  case measure => omega
                  case rel => exact ⟨c, by omega, rfl, by first | rfl | go_num, (HFIN.out _ (by first | exact Kept.refl _ | exact (Kept.refl _).drewN _ | exact ((Kept.refl _).drewN _).drewN _ | exact hq5.kept | exact hq5.kept.drewN _)).1, (HFIN.out _ (by first | exact Kept.refl _ | exact (Kept.refl _).drewN _ | exact ((Kept.refl _).drewN _).drewN _ | exact hq5.kept | exact hq5.kept.drewN _)).2⟩
            · obtain rfl : j = 0 := by omega
              have c2 : ¬ ((((0 : Nat) : Int) - 1) ≥ 0) := by omega
              go_wp2_with fail
              go_roundg (a + 1)
              case measure => omega
              case rel => exact ⟨a, by omega, rfl, rfl, hK, hT⟩
        · obtain rfl : i = 0 := by omega
          have s2 : ¬ ((((0 : Nat) : Int) - 1) ≥ 0) := by omega
          have r0 := hT.outer 0 (by omega)
          have q0 := (hT.row 0 (by omega)).cell (show 0 < m + 1 by omega)
          (try dsimp only at q0)
          rw [tabC_all] at q0
          rw [Nat.add_zero] at r0
          have hd : com (s.drop 0) (t.drop 0) = com s t := rfl
          rw [hd] at q0
          have s3 : (0 : Int) < (n : Int) + 1 := by omega
          have s4 : (0 : Int) < (m : Int) + 1 := by omega
          clear hT hd
          go_wp2_with fail
          go_ret
          exact ⟨rfl, hK⟩
end Go.Proofs.Ytjcgplocifmolaa
