/-
  Herd's laws: made.
  The reference's Along.
  The herds that the laws derive are herds; degree.
-/
import Derived.Test.YtlnlddnjalfamaaGreatDoorHm
import Derived.BigRegion
import Derived.BigQuiet
namespace Go.Proofs.YtlnlddnjalfamaaGreatDoor
open Go.RowKit Go.Deep

theorem of64 (a : Nat) (h : a < 18446744073709551616) : (BitVec.ofInt 64 (a : Int)).toNat = a := by
  rw [BitVec.toNat_ofInt]
  omega
theorem and1_64 (s : Nat) (hs : s < 18446744073709551616) : bits .and .u64 (s : Int) 1 = ((s % 2 : Nat) : Int) := by
  show IntKind.u64.wrap ((BitVec.ofInt 64 (s : Int) &&& BitVec.ofInt 64 1).toNat : Int) = _
  rw [BitVec.toNat_and, of64 s hs, show (BitVec.ofInt 64 1).toNat = 1 from rfl, Nat.and_one_is_mod]
  exact IntWalk.u64_in _ (by omega)
theorem own_zeroP (W : World) (base : Nat) (t : TypeId) (s : Nat) (hb : base ≤ W.heap.size) : (W.alloc (.cells #[] t)).ownsRow base t s (.slice (some ⟨W.heap.size, 0, none⟩) 0 0) 0 [] := by
  refine ⟨by simp, .inr ⟨W.heap.size, 0, #[], rfl, hb, ?_, Nat.le_refl _, Nat.zero_le _, by simp, by simp⟩⟩
  rw [blk_alloc_new]
/-- how many pairs i things have -/
def triM : Nat → Nat
  | 0 => 0
  | k + 1 => triM k + k
theorem triM_le {k : Nat} (h : k ≤ 9) : triM k ≤ 36 := by
  have h2 : (List.range 10).all (fun k => decide (triM k ≤ 36)) = true := by decide +kernel
  rw [List.all_eq_true] at h2
  simpa using h2 k (by simp; omega)
/-- the pairs of horse i with those below m -/
def madR (s i m : Nat) : List (Nat × Nat) := ((List.range m).filter fun j => s.testBit (triM i + j)).map fun j => (i, j)
theorem madR_succ (s i m : Nat) : madR s i (m + 1) = madR s i m ++ (if s.testBit (triM i + m) then [(i, m)] else []) := by
  unfold madR
  rw [List.range_succ, List.filter_append, List.map_append]
  congr 1
  by_cases h : s.testBit (triM i + m) <;> simp [h]
theorem madR_len (s i m : Nat) : (madR s i m).length ≤ m := by
  unfold madR
  rw [List.length_map]
  exact Nat.le_trans (List.length_filter_le _ _) (by simp)
/-- the pairs of the herd that is derived from s: those of the first k horses -/
def madL (s k : Nat) : List (Nat × Nat) := (List.range k).flatMap fun i => madR s i i
theorem madL_succ (s k : Nat) : madL s (k + 1) = madL s k ++ madR s k k := by
  unfold madL
  rw [List.range_succ, List.flatMap_append]
  simp
theorem madL_len (s k : Nat) : (madL s k).length ≤ triM k := by
  induction k with
  | zero => exact Nat.le_refl _
  | succ k ih =>
    rw [madL_succ, List.length_append]
    have := madR_len s k k
    simp only [triM]
    omega
def MadePost (w : World) (n s : Nat) (e : Ending) (w' : World) : Prop := ∃ v, e = .returned (.tuple #[.int .i64 ((n % 9 + 1 : Nat) : Int), v]) ∧ PrsAt w' v (madL s (n % 9 + 1)) ∧ Kept w w'
set_option maxRecDepth 100000 in
set_option maxHeartbeats 4000000 in
theorem made_any (w : World) (n s : Nat) (hn : n < 256) (hs : s < 18446744073709551616) :
    Calls Tryz.prog 34 #[.int .u8 n, .int .u64 s] w (MadePost w n s) := by
  obtain ⟨ip, gi, gz0, gz1, gz2⟩ := info_parts Tryz.infoPair
  obtain ⟨x, HX⟩ : ∃ x : Nat, Hid (x = n % 9) := ⟨_, rfl⟩
  have hx : x < 9 := by rw [HX.out]; exact Nat.mod_lt _ (by omega)
  have ex : Int.tmod (n : Int) 9 = (x : Int) := by rw [HX.out]; exact (Int.ofNat_tmod n 9).symm
  have ex2 : (n : Int) % 9 = (x : Int) := by rw [HX.out]; exact (Int.natCast_emod n 9).symm
  obtain ⟨k, HK⟩ : ∃ k : Nat, Hid (k = n % 9 + 1) := ⟨_, rfl⟩
  have hk1 : k = x + 1 := by rw [HK.out, HX.out]
  have ek : (x : Int) + 1 = (k : Int) := by omega
  have hk9 : k ≤ 9 := by omega
  unfold MadePost
  rw [← HK.out]
  clear HK HX hk1
  go_enter Tryz.func34, Tryz.ntmps34
  go_wp2_with fail
  go_loopg [7, 8, 9] k (fun g s7 s8 s9 wr => ∃ i : Nat, i ≤ k ∧ g = k - i ∧ s9 = .int .i64 i ∧ s8 = .int .i64 (triM i) ∧ Kept w wr ∧ wr.ownsRow w.heap.size 94 2 s7 (madL s i).length (prs (madL s i)))
  case atStart => exact ⟨0, Nat.zero_le _, rfl, by first | rfl | go_num, by first | rfl | go_num, (Kept.refl w).alloc _, own_zeroP w w.heap.size 94 2 (Nat.le_refl _)⟩
  case round =>
    obtain ⟨i, hi, rfl, rfl, rfl, hK, hO⟩ := hrel
    by_cases hik : i < k
    · have s1 : (i : Int) < (k : Int) := by omega
      have hnext := Lib.hid (madL_succ s i)
      have hlen := madL_len s i
      have ht := triM_le (k := i) (by omega)
      have ht2 : Hid (triM (i + 1) = triM i + i) := rfl
      obtain ⟨T, HT⟩ : ∃ t, Hid (t = triM i) := ⟨_, rfl⟩
      have hms := Lib.hid (madR_succ s i)
      have hml := Lib.hid (madR_len s i)
      rw [← HT.out] at hms ht ht2 hlen
      obtain ⟨l, HL⟩ : ∃ l, Hid (l = madL s i) := ⟨_, rfl⟩
      rw [← HL.out] at hO hnext hlen
      obtain ⟨va, vcap, rfl⟩ := own_shape hO
      have hO0 : wr.ownsRow w.heap.size 94 2 (.slice va l.length vcap) (l ++ madR s i 0).length (prs (l ++ madR s i 0)) := by rw [show madR s i 0 = [] from rfl, List.append_nil]; exact hO
      rw [← HT.out]
      clear hO HL
      go_wp2_with fail
      go_loopg [7, 8, 10] i (fun g s7 s8 s10 wi => ∃ j : Nat, j ≤ i ∧ g = i - j ∧ s10 = .int .i64 j ∧ s8 = .int .i64 ((T + j : Nat) : Int) ∧ Kept w wi ∧ wi.ownsRow w.heap.size 94 2 s7 (l ++ madR s i j).length (prs (l ++ madR s i j)))
      case atStart => exact ⟨0, Nat.zero_le _, rfl, by first | rfl | go_num, by first | rfl | go_num, hK, hO0⟩
      case round =>
        clear hK hO0
        obtain ⟨j, hj, rfl, rfl, rfl, hK, hO⟩ := hrel
        have hsz := hK.size
        by_cases hji : j < i
        · have s2 : (j : Int) < (i : Int) := by omega
          have hml2 := hml.out j
          have hll : (l ++ madR s i j).length ≤ 50 := by rw [List.length_append]; omega
          have hstep := Lib.hid (hms.out j)
          have hb := bit_div s (T + j)
          have hq : s / 2 ^ (T + j) < 18446744073709551616 := Nat.lt_of_le_of_lt (Nat.div_le_self _ _) hs
          have e1 := and1_64 (s / 2 ^ (T + j)) hq
          obtain ⟨P, HP⟩ : ∃ p, Hid (p = T + j) := ⟨_, rfl⟩
          have hP : P ≤ 45 := by rw [HP.out]; omega
          have hP2 : (P : Int) + 1 = ((T + (j + 1) : Nat) : Int) := by rw [HP.out]; omega
          rw [← HP.out] at hb hq e1 hstep ⊢
          have e0 : ((s : Int) / 2 ^ P) = ((s / 2 ^ P : Nat) : Int) := by simp
          rw [← e0] at e1
          obtain ⟨tb, HTB⟩ : ∃ tb, Hid (tb = s.testBit P) := ⟨_, rfl⟩
          rw [← HTB.out] at hb hstep
          obtain ⟨Q, HQ⟩ : ∃ q, Hid (q = s / 2 ^ P % 2) := ⟨_, rfl⟩
          rw [← HQ.out] at hb e1
          have e2 : ((Q : Int) == 1) = tb := by rw [hb]; exact nat_beq Q 1
          clear HQ hb HTB HP e0 hq
          obtain ⟨pl, HPL⟩ : ∃ pl, Hid (pl = l ++ madR s i j) := ⟨_, rfl⟩
          rw [← HPL.out] at hO hll
          obtain ⟨vb, vcap2, rfl⟩ := own_shape hO
          cases tb with
          | false =>
            have hN : Hid (l ++ madR s i (j + 1) = pl) := by show _ = _; rw [hstep.out, HPL.out]; simp
            go_wp2_with fail
            go_roundg (i - (j + 1))
            case measure => omega
            case rel => exact ⟨j + 1, by omega, rfl, by first | rfl | go_num, by first | rfl | go_num | (rw [hP2]), hK, by rw [hN.out]; exact hO⟩
          | true =>
            have hN : Hid (l ++ madR s i (j + 1) = pl ++ [(i, j)]) := by show _ = _; rw [hstep.out, HPL.out]; simp
            go_wp2_with (first | (at_builtin; refine wpList_append_own _ rfl _ _ 22 rfl w.heap.size 94 ip (.agg #[.int .i64 0, .int .i64 0]) 2 16 Tryz.underlying22 gi gz0 gz1 gz2 rfl (by decide) _ _ _ rfl (hO.alloc _) ⟨_, 0, none⟩ 1 1 [.int .i64 (i : Int), .int .i64 (j : Int)] rfl rfl ?c1 ?c2 ?c3 ?c4 ?c5 ?_))
            case c2 => simp [Value.oneCell']
            case c3 => unfold maxLen; omega
            case c4 => omega
            case c5 => first | omega | (simp; omega)
            intro v' w2 hO3 hgr _
            have hX2 := grew_X hgr (hO.alloc (.cells #[.int .i64 (i : Int), .int .i64 (j : Int)] 94))
            have hK2 : Kept w w2 := (hK.alloc _).step hX2 (fun i hi => hi)
            have hO5 : w2.ownsRow w.heap.size 94 2 v' (l ++ madR s i (j + 1)).length (prs (l ++ madR s i (j + 1))) := by
              rw [hN.out, prs_snoc]
              simpa using hO3
            clear hO3 hX2 hgr hK hO
            go_wp2_with fail
            go_roundg (i - (j + 1))
            case measure => omega
            case rel => exact ⟨j + 1, by omega, rfl, by first | rfl | go_num, by first | rfl | go_num | (rw [hP2]), hK2, hO5⟩
        · obtain rfl : j = i := by omega
          rw [← hnext.out] at hO
          rw [← ht2.out]
          go_wp2_with fail
          go_roundg (k - (j + 1))
          case measure => omega
          case rel => exact ⟨j + 1, by omega, rfl, by first | rfl | go_num, rfl, hK, hO⟩
    · obtain rfl : i = k := by omega
      go_wp2_with fail
      go_ret2
      exact ⟨_, rfl, PrsAt.of_own hO, hK⟩
end Go.Proofs.YtlnlddnjalfamaaGreatDoor
namespace Go.Proofs.YtlnlddnjalfamaaGreatDoor
open Go.RowKit Go.Deep

theorem Tryz.infoBools : (Tryz.prog.info? 96).map (fun i => (i.zero, i.size, i.bytes)) = some (some (.slice none 0 0), 1, 24) := by kernel_rfl
theorem Tryz.infoBool : (Tryz.prog.info? 4).map (fun i => (i.zero, i.size, i.bytes)) = some (some (.bool false), 1, 1) := by kernel_rfl
theorem mkBools (n : Nat) (hn : n ≤ 1000000) (w : World) :
    (Instr.makeSlice 96 (.int .i64 n) (.int .i64 n)).run Tryz.prog w = .ok (.slice (some ⟨w.heap.size, 0, none⟩) n n) (w.alloc (.cells (madeCells #[.bool false] n) 4)) :=
  run_make_row' (P := Tryz.prog) 96 4 (.bool false) 1 (by kernel_rfl) Tryz.infoBool rfl .i64 .i64 n (by omega) (by omega) w
theorem one_new (W : World) (h : Nat) (hh : W.heap.size = h) (a : Value) (t : TypeId) : ∀ (j : Nat) (u : Value), [a][j]? = some u → (W.alloc (.cells #[a] t)).cell? ((⟨h, 0, none⟩ : Addr).add j) = some u := by
  subst hh
  intro j u h
  rw [add_at, Nat.zero_add]
  unfold World.cell?
  dsimp only
  rw [blk_alloc_new]
  obtain rfl : j = 0 := by
    have := (List.getElem?_eq_some_iff.1 h).1
    simp at this
    omega
  exact h
/-- a row of another type than the one that is appended to -/
theorem row_grow {w w' : World} {base T e size : Nat} {v : Value} {n k g : Nat} {f : Nat → Value} {xs : List Value} (h : w.rowIs g e n f) (ho : w.ownsRow base T size v k xs) (hT : T ≠ e) (hg : w.grownBy w' v.ownBlock) : w'.rowIs g e n f := by
  refine ((KeptX.refl (fun b => v.ownBlock = some b) w).grown hg (fun b hb => Or.inl hb)).row h (fun hS => ?_)
  rcases ho.2 with ⟨h1, _⟩ | ⟨g', cap', cur', h1, _, h3, _⟩
  · subst h1; cases hS
  · subst h1
    have e1 : g' = g := by simpa [Value.ownBlock] using hS
    subst e1
    obtain ⟨c, hb, _⟩ := h
    rw [hb] at h3
    injection h3 with h3
    injection h3 with _ h3
    exact hT h3.symm
abbrev slV (r n : Nat) : Value := .slice (some ⟨r, 0, none⟩) n n
def slL (R : Nat → Nat) (n k : Nat) : List Value := (List.range k).map fun i => slV (R i) n
theorem slL_succ (R : Nat → Nat) (n k : Nat) : slL R n (k + 1) = slL R n k ++ [slV (R k) n] := by simp [slL, List.range_succ]
theorem slL_len (R : Nat → Nat) (n k : Nat) : (slL R n k).length = k := by simp [slL]
theorem slL_get {R : Nat → Nat} {n k i : Nat} (h : i < k) : (slL R n k)[i]? = some (slV (R i) n) := by simp [slL, h]
theorem slL_congr {R S : Nat → Nat} {n k : Nat} (h : ∀ i, i < k → R i = S i) : slL R n k = slL S n k := by
  unfold slL
  apply List.map_congr_left
  intro i hi
  rw [h i (by simpa using hi)]
/-- rows that are made, k of them so far -/
def Rows1 (w : World) (base n k : Nat) (R : Nat → Nat) (v : Value) : Prop := w.ownsRow base 96 1 v k (slL R n k) ∧ (∀ i, i < k → base ≤ R i ∧ w.rowIs (R i) 4 n (fun _ => .bool false)) ∧ ∀ i j, i < k → j < k → R i = R j → i = j
/-- the rows that a table has, none of them shared -/
structure GridIn (w : World) (base g n : Nat) (R : Nat → Nat) (F : Nat → Nat → Bool) : Prop where
  hg : base ≤ g
  sl : ∀ i, i < n → w.cell? ⟨g, i, none⟩ = some (slV (R i) n)
  rb : ∀ i, i < n → base ≤ R i
  rw : ∀ i, i < n → w.rowIs (R i) 4 n (fun j => .bool (F i j))
  ne : ∀ i, i < n → R i ≠ g
  inj : ∀ i j, i < n → j < n → R i = R j → i = j
theorem GridIn.kept {w w' : World} {base g n : Nat} {R : Nat → Nat} {F : Nat → Nat → Bool} (h : GridIn w base g n R F) (k : Kept w w') : GridIn w' base g n R F :=
  ⟨h.hg, fun i hi => k.cellSome (h.sl i hi), h.rb, fun i hi => k.row (h.rw i hi), h.ne, h.inj⟩
/-- v is this table -/
def GridAt (w : World) (v : Value) (n : Nat) (F : Nat → Nat → Bool) : Prop := ∃ g cap R, v = .slice (some ⟨g, 0, none⟩) n cap ∧ GridIn w 0 g n R F
theorem GridAt.kept {w w' : World} {v : Value} {n : Nat} {F : Nat → Nat → Bool} (h : GridAt w v n F) (k : Kept w w') : GridAt w' v n F := by
  obtain ⟨g, cap, R, e, h⟩ := h
  exact ⟨g, cap, R, e, h.kept k⟩
theorem GridIn.base {w : World} {base g n : Nat} {R : Nat → Nat} {F : Nat → Nat → Bool} (h : GridIn w base g n R F) : GridIn w 0 g n R F := ⟨Nat.zero_le _, h.sl, fun _ _ => Nat.zero_le _, h.rw, h.ne, h.inj⟩
theorem Rows1.grid {w : World} {base n k : Nat} {R : Nat → Nat} {v : Value} (h : Rows1 w base n k R v) (hk : 1 ≤ k) (e : k = n) : ∃ g cap, v = .slice (some ⟨g, 0, none⟩) n cap ∧ GridIn w base g n R (fun _ _ => false) := by
  subst e
  obtain ⟨hO, h2, h3⟩ := h
  rcases hO.2 with ⟨_, e⟩ | ⟨g, cap, cur, rfl, _, hblk, _⟩
  · omega
  · refine ⟨g, cap, rfl, by assumption, fun i hi => ?_, fun i hi => (h2 i hi).1, fun i hi => (h2 i hi).2, fun i hi e => ?_, h3⟩
    · rw [hO.cellAt i (by omega), slL_get hi]
    · obtain ⟨c, hc, _⟩ := (h2 i hi).2
      rw [e, hblk] at hc
      injection hc with hc
      injection hc with _ hc
      exact absurd hc (by decide)
/-- two cells are true now -/
def setF (F : Nat → Nat → Bool) (a b : Nat) : Nat → Nat → Bool := fun i j => F i j || (decide (i = a) && decide (j = b)) || (decide (i = b) && decide (j = a))
theorem GridIn.put {w : World} {base g n : Nat} {R : Nat → Nat} {F : Nat → Nat → Bool} (h : GridIn w base g n R F) {a b : Nat} (ha : a < n) (_ : b < n) : GridIn (w.setCell ⟨R a, b, none⟩ (.bool true)) base g n R (fun i j => F i j || (decide (i = a) && decide (j = b))) := by
  have hX : KeptX (fun k => k = R a) w (w.setCell ⟨R a, b, none⟩ (.bool true)) := (KeptX.refl (fun k => k = R a) w).setIn b _
  refine ⟨h.hg, fun i hi => hX.cellSome (h.sl i hi) (fun e => h.ne a ha e.symm), h.rb, fun i hi => ?_, h.ne, h.inj⟩
  by_cases e : i = a
  · subst e
    exact ((h.rw i hi).set b (.bool true)).congr (fun j _ => by
      by_cases e2 : j = b
      · simp [e2]
      · simp [e2])
  · exact (hX.row (h.rw i hi) (fun e2 => e (h.inj i a hi ha e2))).congr (fun j _ => by simp [e])
/-- who gets along with whom, by the first pairs -/
def adjP (A B : Nat → Int) : Nat → Nat → Nat → Bool
  | 0 => fun _ _ => false
  | k + 1 => setF (adjP A B k) (A k).toNat (B k).toNat
def AlongPost (w : World) (n : Nat) (F : Nat → Nat → Bool) (e : Ending) (w' : World) : Prop := ∃ v, e = .returned v ∧ GridAt w' v n F ∧ Kept w w'
set_option maxRecDepth 100000 in
set_option maxHeartbeats 8000000 in
theorem Along_any (w : World) (n : Nat) (v : Value) (m : Nat) (A B : Nat → Int) (hn : 1 ≤ n) (hn9 : n ≤ 1000) (hP : PairsAt w v m A B) (hm : m ≤ 1000000) (hok : allN (pairB n A B) m = true) :
    Calls Tryz.prog 15 #[.int .i64 n, v] w (AlongPost w n (adjP A B m)) := by
  obtain ⟨i0, hi, hz0, hz1, hz2⟩ := info_parts Tryz.infoBools
  have hmk := fun W => mkBools n (by omega) W
  go_enter Tryz.func15, Tryz.ntmps15
  go_wp2_with fail
  go_loopg [5, 6] n (fun g s5 s6 wr => ∃ (k : Nat) (R : Nat → Nat), k ≤ n ∧ g = n - k ∧ s6 = .int .i64 k ∧ Kept w wr ∧ Rows1 wr w.heap.size n k R s5)
  case atStart => exact ⟨0, fun _ => 0, Nat.zero_le _, rfl, by first | rfl | go_num, (Kept.refl w).alloc _, own_zeroP w w.heap.size 96 1 (Nat.le_refl _), fun i h => absurd h (by omega), fun i j h => absurd h (by omega)⟩
  case round =>
    obtain ⟨k, R, hk, rfl, rfl, hK, hR⟩ := hrel
    by_cases hlt : k < n
    · have s1 : (k : Int) < (n : Int) := by omega
      have hsz := hK.size
      obtain ⟨hO, h2, h3⟩ := hR
      have hrow := World.rowIs_made wr (.bool false) n 4
      have hO1 := hO.alloc (.cells (madeCells #[.bool false] n) 4)
      have h2' : ∀ i, i < k → (wr.alloc (.cells (madeCells #[.bool false] n) 4)).rowIs (R i) 4 n (fun _ => .bool false) := fun i hi => ((Kept.refl wr).alloc _).row (h2 i hi).2
      have hlt2 : ∀ i, i < k → R i < wr.heap.size := fun i hi => (h2 i hi).2.lt
      have hK1 : Kept w (wr.alloc (.cells (madeCells #[.bool false] n) 4)) := hK.alloc _
      obtain ⟨r, HR⟩ : ∃ r, Hid (r = wr.heap.size) := ⟨_, rfl⟩
      obtain ⟨va, vcap, rfl⟩ := own_shape hO
      go_wp2_with (first | (at_builtin; refine wpList_append_own _ rfl _ _ 35 rfl w.heap.size 96 i0 (.slice none 0 0) 1 24 Tryz.underlying35 hi hz0 hz1 hz2 rfl (by decide) _ _ _ rfl (hO1.alloc _) ⟨_, 0, none⟩ 1 1 [slV wr.heap.size n] rfl rfl ?c1 ?c2 ?c3 ?c4 ?c5 ?_))
      case c1 => exact one_new _ _ (by simp) _ _
      case c2 => simp [Value.oneCell']
      case c3 => unfold maxLen; omega
      case c4 => omega
      case c5 => first | omega | (simp; omega)
      intro ov' w2 hO3 hgr _
      have hK2 : Kept w w2 := (hK1.alloc _).grew hgr (hO1.alloc _) (Nat.le_refl _)
      have hS : slL (fun i => if i = k then wr.heap.size else R i) n (k + 1) = slL R n k ++ [slV wr.heap.size n] := by
        rw [slL_succ, slL_congr (S := R) (fun i hi => if_neg (by omega)), if_pos rfl]
      have hNR : Rows1 w2 w.heap.size n (k + 1) (fun i => if i = k then wr.heap.size else R i) ov' := by
        refine ⟨by rw [hS]; exact hO3, fun i hi => ?_, fun i j hi hj e => ?_⟩
        · by_cases e : i = k
          · simp only [e, if_true]
            exact ⟨hsz, row_grow (((Kept.refl _).alloc _).row hrow) (hO1.alloc _) (by decide) hgr⟩
          · simp only [e, if_false]
            exact ⟨(h2 i (by omega)).1, row_grow (((Kept.refl _).alloc _).row (h2' i (by omega))) (hO1.alloc _) (by decide) hgr⟩
        · by_cases e1 : i = k
          · by_cases e2 : j = k
            · omega
            · simp only [e1, e2, if_true, if_false] at e
              have := hlt2 j (by omega)
              omega
          · by_cases e2 : j = k
            · simp only [e1, e2, if_true, if_false] at e
              have := hlt2 i (by omega)
              omega
            · simp only [e1, e2, if_false] at e
              exact h3 i j (by omega) (by omega) e
      clear hO3 hgr hO1 hO hrow h2' h2 h3 hlt2 hK1 hK hS
      go_wp2_with fail
      go_roundg (n - (k + 1))
      case measure => omega
      case rel => exact ⟨k + 1, _, by omega, rfl, by first | rfl | go_num, hK2, hNR⟩
    · obtain rfl : k = n := by omega
      obtain ⟨g, cap, rfl, hG⟩ := hR.grid hn rfl
      obtain ⟨a, b, o, pcap, rfl, ha, hc⟩ := hP
      have HC := Lib.hid hc
      have HOK := Lib.hid hok
      clear hc hok hmk hR
      go_wp2_with fail
      go_loopg [7] m (fun q s7 wr => ∃ j : Nat, j ≤ m ∧ q = m - j ∧ s7 = .int .i64 j ∧ Kept w wr ∧ GridIn wr w.heap.size g k R (adjP A B j))
      case atStart => exact ⟨0, Nat.zero_le _, rfl, by first | rfl | go_num, hK, hG⟩
      case round =>
        clear hK hG
        obtain ⟨j, hj, rfl, rfl, hK, hG⟩ := hrel
        by_cases hlt2 : j < m
        · obtain rfl := ha (by omega)
          obtain ⟨c0, c1⟩ := HC.out j hlt2
          have t0 := hK.cellSome c0
          have t1 := hK.cellSome c1
          obtain ⟨a0, b0, a1, b1, _⟩ := pairB_true (allN_true.1 HOK.out j hlt2)
          have hadj : Hid (adjP A B (j + 1) = setF (adjP A B j) (A j).toNat (B j).toNat) := rfl
          obtain ⟨p, hp⟩ : ∃ p : Nat, A j = p := ⟨(A j).toNat, by omega⟩
          obtain ⟨q, hq⟩ : ∃ q : Nat, B j = q := ⟨(B j).toNat, by omega⟩
          rw [hp] at t0 a0 a1 hadj
          rw [hq] at t1 b0 b1 hadj
          rw [Int.toNat_natCast, Int.toNat_natCast] at hadj
          have u0 := hG.sl p (by omega)
          have u1 := hG.sl q (by omega)
          have z0 := (hG.rw p (by omega)).frozen q
          have z1 := (hG.rw q (by omega)).frozen p
          have y0 := (hG.rw p (by omega)).cell (i := q) (by omega)
          have y1 := (hG.rw q (by omega)).cell (i := p) (by omega)
          have s1 : (j : Int) < (m : Int) := by omega
          have s2 : (0 : Int) ≤ (j : Int) := by omega
          have hGa := hG.put (a := p) (b := q) (by omega) (by omega)
          have y2 := (hGa.rw q (by omega)).cell (i := p) (by omega)
          have z2 := (hGa.rw q (by omega)).frozen p
          have hG1 := hGa.put (a := q) (b := p) (by omega) (by omega)
          have hG2 := (show GridIn ((wr.setCell ⟨R p, q, none⟩ (.bool true)).setCell ⟨R q, p, none⟩ (.bool true)) w.heap.size g k R (adjP A B (j + 1)) by rw [hadj.out]; exact hG1)
          clear hGa hG1
          have hB1 := hG.rb p (by omega)
          have hB2 := hG.rb q (by omega)
          clear c0 c1 hp hq
          generalize R p = rp at *
          generalize R q = rq at *
          generalize hx0 : adjP A B j p q = x0 at y0
          generalize hx1 : adjP A B j q p = x1 at y1
          generalize (adjP A B j q p || decide (q = p) && decide (p = q)) = x2 at y2
          have hK2 := (hK.setCell (p := ⟨rp, q, none⟩) (by show w.heap.size ≤ rp; omega) (.bool true)).setCell (p := ⟨rq, p, none⟩) (by show w.heap.size ≤ rq; omega) (.bool true)
          clear hx0 hx1 hG
          simp only [slV] at u0 u1
          go_wp2_with fail
          go_region
          all_goals
            have hK3 := hK2.drew
            have hG3 := hG2.kept ((Kept.refl _).drew)
            clear hK2 hG2 y0 y1 y2 z0 z1 z2 u0 u1
            go_wp2_with fail
            go_roundg (m - (j + 1))
            case measure => omega
            case rel => exact ⟨j + 1, by omega, rfl, by first | rfl | go_num, hK3, hG3⟩
        · obtain rfl : j = m := by omega
          go_wp2_with fail
          go_ret
          exact ⟨_, rfl, ⟨g, cap, R, rfl, hG.base⟩, hK⟩
end Go.Proofs.YtlnlddnjalfamaaGreatDoor
namespace Go.Proofs.YtlnlddnjalfamaaGreatDoor
open Go.RowKit Go.Deep

abbrev prA (l : List (Nat × Nat)) : Nat → Int := fun i => (((l.getD i (0, 0)).1 : Nat) : Int)
abbrev prB (l : List (Nat × Nat)) : Nat → Int := fun i => (((l.getD i (0, 0)).2 : Nat) : Int)
theorem madL_mem {s k : Nat} {p : Nat × Nat} (h : p ∈ madL s k) : p.2 < p.1 ∧ p.1 < k := by
  unfold madL madR at h
  rw [List.mem_flatMap] at h
  obtain ⟨i, hi, h⟩ := h
  rw [List.mem_map] at h
  obtain ⟨j, hj, rfl⟩ := h
  rw [List.mem_filter] at hj
  simp at hi hj
  exact ⟨hj.1, hi⟩
theorem mad_pairs (s k : Nat) : allN (pairB (k : Int) (prA (madL s k)) (prB (madL s k))) (madL s k).length = true := allN_true.2 fun i hi => by
  have h := madL_mem (s := s) (k := k) (p := (madL s k).getD i (0, 0)) (by
    rw [List.getD_eq_getElem?_getD, List.getElem?_eq_getElem hi]
    exact List.getElem_mem hi)
  unfold pairB prA prB
  simp only [Bool.and_eq_true, decide_eq_true_eq, bne_iff_ne, ne_eq]
  omega
theorem mad_len {s k : Nat} (hk : k ≤ 9) : (madL s k).length ≤ 36 := Nat.le_trans (madL_len s k) (triM_le hk)
theorem mad_good {s k : Nat} (h1 : 1 ≤ k) (hk : k ≤ 9) : goodH (k : Int) (prA (madL s k)) (prB (madL s k)) (madL s k).length = true := by
  have h := mad_len (s := s) hk
  unfold goodH
  rw [mad_pairs]
  simp
  omega
end Go.Proofs.YtlnlddnjalfamaaGreatDoor
