/-
  The program's yards, more: stable, all, greatest, burn, connected.
-/
import Derived.Test.YtlnpipkhofhlnaaB
namespace Go.Proofs.Ytlnpipkhofhlnaa
open Go.RowKit Go.Deep

theorem Try.info3 : (Try.prog.info? 3).map (fun i => (i.zero, i.size, i.bytes)) = some (some (.int .i64 0), 1, 8) := by kernel_rfl
theorem Try.info4 : (Try.prog.info? 4).map (fun i => (i.zero, i.size, i.bytes)) = some (some (.bool false), 1, 1) := by kernel_rfl
/-- make([]int, n), n being given as m -/
theorem mkInts (m : Int) (n : Nat) (h : m = n) (hn : n ≤ 1000000) (w : World) :
    (Instr.makeSlice 25 (.int .i64 m) (.int .i64 m)).run Try.prog w = .ok (.slice (some ⟨w.heap.size, 0, none⟩) n n) (w.alloc (.cells (madeCells #[.int .i64 0] n) 3)) := by
  subst h
  exact run_make_row' (P := Try.prog) 25 3 (.int .i64 0) 8 Try.underlying25 Try.info3 rfl .i64 .i64 n (by omega) (by omega) w
theorem mkBools (m : Int) (n : Nat) (h : m = n) (hn : n ≤ 1000000) (w : World) :
    (Instr.makeSlice 76 (.int .i64 m) (.int .i64 m)).run Try.prog w = .ok (.slice (some ⟨w.heap.size, 0, none⟩) n n) (w.alloc (.cells (madeCells #[.bool false] n) 4)) := by
  subst h
  exact run_make_row' (P := Try.prog) 76 4 (.bool false) 1 Try.underlying76 Try.info4 rfl .i64 .i64 n (by omega) (by omega) w

def stableB (D : Nat → Nat) (f : Nat → Int) (n : Nat) : Bool := allN (fun i => decide (f i < D (i + 1))) (n - 1)

set_option maxHeartbeats 1000000 in
theorem stable_any (w : World) (n m bd bj : Nat) (br D : Nat → Nat) (J : Nat → Nat → Nat) (lv : Value) (f : Nat → Int) (hY : YardAt w n bd bj br D J) (hn : n ≤ 8) (hn1 : 1 ≤ n) (hL : IntsAt w lv (n - 1) f) :
    Calls Try.prog 56 #[YardV n m bd bj, lv] w fun e w' => e = .returned (.bool (stableB D f n)) ∧ Kept w w' := by
  obtain ⟨a, b, o, cap, rfl, ha, hc⟩ := hL
  obtain ⟨N, rfl⟩ : ∃ N, n = N + 1 := ⟨n - 1, by omega⟩
  simp only [Nat.add_sub_cancel] at ha hc ⊢
  unfold YardV
  have hbx := YBox.new w (N + 1) m bd bj 78
  go_enter Try.func56, Try.ntmps56
  go_wp2
  go_loopg [9] N (fun g i wr => ∃ k : Nat, k ≤ N ∧ g = N - k ∧ i = .int .i64 k ∧ Hid (allN (fun i => decide (f i < D (i + 1))) k = true) ∧ Kept w wr ∧ YBox wr w.heap.size (N + 1) m bd bj)
  case atStart => exact ⟨0, Nat.zero_le _, rfl, rfl, rfl, (Kept.refl _).alloc _, hbx⟩
  case round =>
    obtain ⟨k, hk, rfl, rfl, hH, hK, hB⟩ := hrel
    by_cases hlt : k < N
    · obtain rfl := ha (by omega)
      have h1 := hK.cellSome (hc k hlt)
      have h2 := (hK.row hY.deg).cell (i := k + 1) (by omega)
      have h4 := hB.c2
      have hs : ((k : Int) + 1).toNat = k + 1 := by omega
      clear hc hbx
      by_cases e1 : f k < D (k + 1)
      · go_wp2
        go_roundg (N - (k+1))
        case measure => omega
        case rel => exact ⟨k + 1, by omega, rfl, by go_num, allN_step hH.out (by simpa using e1), hK, hB⟩
      · have e2 : (D (k + 1) : Int) ≤ f k := by omega
        go_wp2
        go_ret
        exact ⟨ret_bool (allN_false hlt (by simpa using e1)).symm, hK⟩
    · go_wp2
      go_ret
      exact ⟨ret_bool (by unfold stableB; rw [show N + 1 - 1 = k by omega]; exact hH.out.symm), hK⟩

theorem all_any (w : World) (n m bd bj : Nat) (a : Option Addr) (l cap : Nat) (hn : n ≤ 8) (hn1 : 1 ≤ n) :
    Calls Try.prog 54 #[YardV n m bd bj, .slice a l cap] w fun e w' => e = .returned (.bool (decide (l = n - 1))) ∧ Kept w w' := by
  unfold YardV
  have e1 : ((l : Int) == (n : Int) - 1) = decide (l = n - 1) := by rw [Bool.eq_iff_iff]; simp; omega
  go_enter Try.func54, Try.ntmps54
  go_wp2
  go_ret
  exact ⟨rfl, (Kept.refl _).alloc _⟩

set_option maxHeartbeats 1000000 in
theorem greatest_any (w : World) (n m bd bj : Nat) (br D : Nat → Nat) (J : Nat → Nat → Nat) (hY : YardAt w n bd bj br D J) (hn : n ≤ 8) (hn1 : 1 ≤ n) (hD : ∀ i, i < n → D i ≤ 40) :
    Calls Try.prog 52 #[YardV n m bd bj] w fun e w' => e = .returned (.slice (some ⟨w.heap.size + 1, 0, none⟩) (n - 1) (n - 1)) ∧ Kept w w' ∧ w'.rowIs (w.heap.size + 1) 3 (n - 1) (fun i => .int .i64 ((D (i + 1) : Int) - 1)) := by
  obtain ⟨N, rfl⟩ : ∃ N, n = N + 1 := ⟨n - 1, by omega⟩
  simp only [Nat.add_sub_cancel]
  unfold YardV
  have hbx := YBox.new w (N + 1) m bd bj 78
  have hmk := fun w => mkInts (N : Int) N rfl (by omega) w
  go_enter Try.func52, Try.ntmps52
  go_wp2
  go_loopg [11] N (fun g i wr => ∃ k : Nat, k ≤ N ∧ g = N - k ∧ i = .int .i64 k ∧ Kept w wr ∧ YBox wr w.heap.size (N + 1) m bd bj ∧ wr.rowIs (w.heap.size + 1) 3 N (fun i => .int .i64 (if i < k then ((D (i + 1) : Int) - 1) else 0)))
  case atStart => exact ⟨0, Nat.zero_le _, rfl, rfl, ((Kept.refl _).alloc _).alloc _, hbx.kept ((Kept.refl _).alloc _), by have := World.rowIs_made (w.alloc (.cells #[.int .i64 (N + 1 : Nat), .int .i64 m, .slice (some ⟨bd, 0, none⟩) (N + 1) (N + 1), .slice (some ⟨bj, 0, none⟩) (N + 1) (N + 1)] 78)) (.int .i64 0) N 3; rw [nblk_alloc] at this; exact this.congr (fun i _ => by simp)⟩
  case round =>
    obtain ⟨k, hk, rfl, rfl, hK, hB, hR⟩ := hrel
    by_cases hlt : k < N
    · have h2 := (hK.row hY.deg).cell (i := k + 1) (by omega)
      have h4 := hB.c2
      have h5 := hR.cell hlt
      have h6 := hR.frozen k
      have hs : ((k : Int) + 1).toNat = k + 1 := by omega
      have hd := hD (k + 1) (by omega)
      have hne : w.heap.size ≠ w.heap.size + 1 := by omega
      clear hbx hmk hD
      go_wp2
      go_roundg (N - (k+1))
      case measure => omega
      case rel =>
        refine ⟨k + 1, by omega, rfl, by go_num, hK.setCell (by simp) _, ?_, (hR.set k _).congr (fun j hj => ?_)⟩
        · exact ⟨by rw [World.cell?_setCell_other _ _ _ _ (by simp)]; exact hB.c0, by rw [World.cell?_setCell_other _ _ _ _ (by simp)]; exact hB.c1, by rw [World.cell?_setCell_other _ _ _ _ (by simp)]; exact hB.c2, by rw [World.cell?_setCell_other _ _ _ _ (by simp)]; exact hB.c3⟩
        · by_cases e : j = k
          · subst e; simp
          · rw [if_neg e]
            by_cases h : j < k
            · rw [if_pos h, if_pos (by omega)]
            · rw [if_neg h, if_neg (by omega)]
    · go_wp2
      go_ret
      exact ⟨rfl, hK, hR.congr (fun j hj => by rw [if_pos (by omega)])⟩

def upd (b : Nat → Bool) (v : Nat) : Nat → Bool := fun i => if i = v then true else b i
/-- the vertices that burn, in order: g is the number of rounds at most to come -/
def burnL (n : Nat) (J : Nat → Nat → Nat) (h : Nat → Int) : Nat → (Nat → Bool) → List Nat → List Nat
  | 0, _, l => l
  | g + 1, b, l => if catchV n J h b = 0 then l else burnL n J h g (upd b (catchV n J h b)) (l ++ [catchV n J h b])
def burnAll (n : Nat) (J : Nat → Nat → Nat) (h : Nat → Int) : List Nat := burnL n J h n (fun i => decide (i = 0)) []
def cold (b : Nat → Bool) (n : Nat) : Nat := cnt (fun i => !b i) n
theorem cnt_congr {p q : Nat → Bool} {n : Nat} (h : ∀ i, i < n → p i = q i) : cnt p n = cnt q n := by
  induction n with
  | zero => rfl
  | succ n ih => simp only [cnt]; rw [ih (fun i hi => h i (by omega)), h n (by omega)]
theorem cold_upd {b : Nat → Bool} {n v : Nat} (hv : v < n) (hb : b v = false) : cold (upd b v) n + 1 = cold b n := by
  unfold cold
  induction n with
  | zero => omega
  | succ n ih =>
    simp only [cnt]
    by_cases e : v = n
    · subst e
      rw [cnt_congr (p := fun i => !upd b v i) (q := fun i => !b i) (n := v) (fun i hi => by simp only [upd]; rw [if_neg (by omega)])]
      simp [upd, hb]
    · have := ih (by omega)
      have e2 : upd b v n = b n := by simp only [upd]; rw [if_neg (by omega)]
      simp only [e2]; omega
theorem catch_hot {n : Nat} {J : Nat → Nat → Nat} {h : Nat → Int} {b : Nat → Bool} (hc : catchV n J h b ≠ 0) : catchV n J h b < n ∧ hot n J h b (catchV n J h b) = true := by
  unfold catchV at hc ⊢
  by_cases e : least (hot n J h b) n < n
  · rw [if_pos e] at hc ⊢; exact ⟨e, (least_some e).1⟩
  · rw [if_neg e] at hc; exact absurd rfl hc
theorem catch_cold {n : Nat} {J : Nat → Nat → Nat} {h : Nat → Int} {b : Nat → Bool} (hc : catchV n J h b ≠ 0) : b (catchV n J h b) = false := by
  have := (catch_hot hc).2
  simp only [hot, Bool.and_eq_true, Bool.not_eq_true'] at this
  exact this.1
theorem catch_le (n : Nat) (J : Nat → Nat → Nat) (h : Nat → Int) (b : Nat → Bool) : catchV n J h b ≤ n := by
  unfold catchV; split <;> omega
theorem burnL_len (n : Nat) (J : Nat → Nat → Nat) (h : Nat → Int) (g : Nat) : ∀ b l, (burnL n J h g b l).length ≤ l.length + g := by
  induction g with
  | zero => intro b l; simp [burnL]
  | succ g ih =>
    intro b l
    simp only [burnL]
    split
    · omega
    · have := ih (upd b (catchV n J h b)) (l ++ [catchV n J h b])
      simp only [List.length_append, List.length_singleton] at this; omega

def nats (l : List Nat) : List Value := l.map fun (v : Nat) => Value.int .i64 (v : Int)
/-- what is returned is a new slice of these numbers -/
def OwnPost (w : World) (l : List Nat) (e : Ending) (w' : World) : Prop := ∃ ov, e = .returned ov ∧ Kept w w' ∧ w'.ownsRow w.heap.size 3 1 ov l.length (nats l)
set_option maxRecDepth 100000 in
set_option maxHeartbeats 4000000 in
theorem burn_any (w : World) (n m bd bj : Nat) (br D : Nat → Nat) (J : Nat → Nat → Nat) (hv : Value) (hp : Nat → Int) (hY : YardAt w n bd bj br D J) (hn : n ≤ 8) (hn1 : 1 ≤ n) (hJ : ∀ i j, i < n → j < n → J i j ≤ 40)
    (hh : IntsAt w hv (n - 1) hp) :
    Calls Try.prog 55 #[YardV n m bd bj, hv] w (OwnPost w (burnAll n J hp)) := by
  unfold YardV
  have hbx := YBox.new w n m bd bj 78
  have hmk := fun w => mkBools (n : Int) n rfl (by omega) w
  obtain ⟨i0, hi, hz0, hz1, hz2⟩ := info_parts Try.info3
  go_enter Try.func55, Try.ntmps55
  have hn0 : (0 : Int) < n := by omega
  have hm0 := made_get (.bool false) n 0 (by omega)
  have hrow := row_made_set (w.alloc (.cells #[.int .i64 n, .int .i64 m, .slice (some ⟨bd, 0, none⟩) n n, .slice (some ⟨bj, 0, none⟩) n n] 78)) (.bool false) (.bool true) n 0 4
  rw [nblk_alloc] at hrow
  have hrow' := hrow.congr (g := fun i => .bool (decide (i = 0))) (fun i _ => by by_cases e : i = 0 <;> simp [e])
  have HR := Lib.hid hrow'
  clear hrow hrow'
  go_wp2_with fail
  have hk0 : Kept w ((w.alloc (.cells #[.int .i64 n, .int .i64 m, .slice (some ⟨bd, 0, none⟩) n n, .slice (some ⟨bj, 0, none⟩) n n] 78)).alloc (.cells ((madeCells #[.bool false] n).setIfInBounds 0 (.bool true)) 4)) := ((Kept.refl w).alloc _).alloc _
  refine (catches_any _ n m bd bj br D J _ _ hp (fun i => decide (i = 0)) (hY.kept hk0) hn hJ rfl (hh.kept hk0) (CellsAt.of_row HR.out)).mono ?_
  rintro e w1 ⟨rfl, hk1⟩
  have hK1 : Kept w w1 := hk0.trans hk1
  have hR1 := hk1.row HR.out
  have hB1 : YBox w1 w.heap.size n m bd bj := (hbx.kept ((Kept.refl _).alloc _)).kept hk1
  have hs1 : w.heap.size + 2 ≤ w1.heap.size := by have := Kept.size hk1; simp at this; omega
  clear HR hk0 hk1 hmk hm0 hbx
  go_wp2_with fail
  go_loopg [6, 7] n (fun g ov vv wr => ∃ (b : Nat → Bool) (l : List Nat), cold b n ≤ g ∧ l.length + g = n ∧ b 0 = true ∧ Hid (burnL n J hp g b l = burnAll n J hp) ∧ vv = .int .i64 (catchV n J hp b : Nat) ∧ Kept w wr ∧ YBox wr w.heap.size n m bd bj ∧
    wr.rowIs (w.heap.size + 1) 4 n (fun i => .bool (b i)) ∧ wr.ownsRow (w.heap.size + 2) 3 1 ov l.length (nats l) ∧ w.heap.size + 2 ≤ wr.heap.size)
  case atStart => exact ⟨fun i => decide (i = 0), [], cnt_le _ _, by simp, rfl, rfl, rfl, hK1, hB1, hR1, World.ownsRow_nil _ _ _ _, hs1⟩
  case round =>
    obtain ⟨b, l, hcold, hlen, hb0, hH, rfl, hK, hB, hR, hO, hsz⟩ := hrel
    clear hK1 hR1 hB1 hs1
    obtain ⟨c, hc⟩ : ∃ c, c = catchV n J hp b := ⟨_, rfl⟩
    rw [← hc]
    by_cases hz : c = 0
    · have hz0 : burnL n J hp gk b l = l := by
        cases gk with
        | zero => rfl
        | succ g => simp only [burnL]; rw [if_pos (by omega)]
      have Z := Lib.hid hz0
      subst hz
      clear hz0 hc
      go_wp2_with fail
      go_ret
      exact ⟨_, rfl, hK, by rw [← hH.out, Z.out]; exact own_base hO (by omega)⟩
    · have hlt : c < n := by have := (catch_hot (h := hp) (b := b) (n := n) (J := J) (by omega)).1; omega
      have hcb : b c = false := by rw [hc]; exact catch_cold (by omega)
      have hg : 1 ≤ gk := by have := cold_upd hlt hcb; omega
      obtain ⟨g, rfl⟩ : ∃ g, gk = g + 1 := ⟨gk - 1, by omega⟩
      have hnext : burnL n J hp (g + 1) b l = burnL n J hp g (upd b c) (l ++ [c]) := by simp only [burnL]; rw [if_neg (by omega), ← hc]
      have HN : Hid (burnL n J hp g (upd b c) (l ++ [c]) = burnAll n J hp) := hnext.symm.trans hH.out
      have hcold' : cold (upd b c) n ≤ g := by have := cold_upd hlt hcb; omega
      have HC := Lib.hid hc
      have t1 := hR.cell hlt
      have t2 := hR.frozen c
      have hR2 := (hR.set c (.bool true)).congr (g := fun i => .bool (upd b c i)) (fun i _ => by simp only [upd]; by_cases e : i = c <;> simp [e])
      have hO2 := ownsRow_setCell_below hO (a := ⟨w.heap.size + 1, c, none⟩) (by show w.heap.size + 1 < w.heap.size + 2; omega) (.bool true)
      have hK2 : Kept w (wr.setCell ⟨w.heap.size + 1, c, none⟩ (.bool true)) := hK.setCell (by show w.heap.size ≤ w.heap.size + 1; omega) _
      have hB2 : YBox (wr.setCell ⟨w.heap.size + 1, c, none⟩ (.bool true)) w.heap.size n m bd bj := by
        refine ⟨?_, ?_, ?_, ?_⟩ <;> rw [World.cell?_setCell_other _ _ _ _ (by simp)]
        · exact hB.c0
        · exact hB.c1
        · exact hB.c2
        · exact hB.c3
      have hl8 : l.length + 1 ≤ 8 := by omega
      clear hc hcold hnext hH hcb
      go_wp2_with (first | (at_builtin; refine wpList_append_own _ rfl _ _ 25 rfl (w.heap.size + 2) 3 i0 (.int .i64 0) 1 8 Try.underlying25 hi hz0 hz1 hz2 rfl (by decide) _ _ _ rfl (hO2.alloc _) ⟨wr.heap.size, 0, none⟩ 1 1 [.int .i64 c] rfl rfl ?c1 ?c2 ?c3 ?c4 ?c5 ?_))
      case c1 =>
        have h := cell_one_new (wr.setCell ⟨w.heap.size + 1, c, none⟩ (.bool true)) (.int .i64 c) 3
        rw [nblk_setCell] at h
        exact h
      case c2 => simp [Value.oneCell']
      case c3 => unfold maxLen; omega
      case c4 => omega
      case c5 => simp; omega
      intro ov' w2 hO3 hgr _
      have hO3' : w2.ownsRow (w.heap.size + 2) 3 1 ov' (l ++ [c]).length (nats (l ++ [c])) := by
        rw [show nats (l ++ [c]) = nats l ++ [.int .i64 (c : Int)] by simp [nats], show (l ++ [c]).length = l.length + 1 by simp]; exact hO3
      have hX := grew_X hgr (hO2.alloc _)
      have hR3 := hX.row (hR2.alloc _) (by omega)
      have hK3 : Kept w w2 := (hK2.alloc _).step hX (fun i hi => by omega)
      have hB3 : YBox w2 w.heap.size n m bd bj := by
        have hB2' := hB2.kept ((Kept.refl _).alloc (.cells #[.int .i64 c] 3))
        exact ⟨hX.cellSome hB2'.c0 (by show ¬ w.heap.size + 2 ≤ w.heap.size; omega), hX.cellSome hB2'.c1 (by show ¬ w.heap.size + 2 ≤ w.heap.size; omega), hX.cellSome hB2'.c2 (by show ¬ w.heap.size + 2 ≤ w.heap.size; omega), hX.cellSome hB2'.c3 (by show ¬ w.heap.size + 2 ≤ w.heap.size; omega)⟩
      have hs3 : w.heap.size + 2 ≤ w2.heap.size := by have := KeptX.size hX; simp at this; omega
      clear hO3 hgr hX hR2 hO2 hK2 hB2 t1 t2 hR hO hB hK hsz
      obtain ⟨b0, b1, b2, b3⟩ := hB3
      go_wp2_with fail
      refine (catches_any _ n m bd bj br D J _ _ hp (upd b c) (hY.kept hK3) hn hJ (by simp [upd, hb0]) (hh.kept hK3) (CellsAt.of_row hR3)).mono ?_
      rintro e w4 ⟨rfl, hk4⟩
      go_wp2_with fail
      go_roundg g
      case measure => omega
      case rel => exact ⟨upd b c, l ++ [c], hcold', by simp; omega, by simp [upd, hb0], HN, rfl, hK3.trans hk4, YBox.kept ⟨b0, b1, b2, b3⟩ hk4, hk4.row hR3, own_kept hO3' hk4, Nat.le_trans hs3 (Kept.size hk4)⟩

/-- do all vertices burn, of the greatest stable heaps -/
def conB (n : Nat) (D : Nat → Nat) (J : Nat → Nat → Nat) : Bool := decide ((burnAll n J (fun i => (D (i + 1) : Int) - 1)).length = n - 1)

theorem own_shape {w : World} {base e size : Nat} {v : Value} {n : Nat} {xs : List Value} (h : w.ownsRow base e size v n xs) : ∃ a cap, v = .slice a n cap := by
  rcases h.2 with ⟨rfl, rfl⟩ | ⟨g, cap, cur, rfl, _⟩
  · exact ⟨none, 0, rfl⟩
  · exact ⟨_, cap, rfl⟩

set_option maxHeartbeats 1000000 in
theorem connected_any (w : World) (n m bd bj : Nat) (br D : Nat → Nat) (J : Nat → Nat → Nat) (hY : YardAt w n bd bj br D J) (hn : n ≤ 8) (hn1 : 1 ≤ n) (hD : ∀ i, i < n → D i ≤ 40) (hJ : ∀ i j, i < n → j < n → J i j ≤ 40) :
    Calls Try.prog 66 #[YardV n m bd bj] w fun e w' => e = .returned (.bool (conB n D J)) ∧ Kept w w' := by
  obtain ⟨b0, b1, b2, b3⟩ := YBox.new w n m bd bj 78
  have hK0 : Kept w (w.alloc (.cells #[.int .i64 n, .int .i64 m, .slice (some ⟨bd, 0, none⟩) n n, .slice (some ⟨bj, 0, none⟩) n n] 78)) := (Kept.refl w).alloc _
  unfold YardV
  go_enter Try.func66, Try.ntmps66
  go_wp2_with fail
  generalize w.alloc (.cells #[.int .i64 n, .int .i64 m, .slice (some ⟨bd, 0, none⟩) n n, .slice (some ⟨bj, 0, none⟩) n n] 78) = W at *
  have hYW := hY.kept hK0
  go_region_held3 (fun w' => w'.cell? ⟨w.heap.size, 0, none⟩ = some (.int .i64 n) ∧ w'.cell? ⟨w.heap.size, 1, none⟩ = some (.int .i64 m) ∧ w'.cell? ⟨w.heap.size, 2, none⟩ = some (.slice (some ⟨bd, 0, none⟩) n n) ∧ w'.cell? ⟨w.heap.size, 3, none⟩ = some (.slice (some ⟨bj, 0, none⟩) n n) ∧ Kept W w')
    (exact keep4 b0 b1 b2 b3 (by repeat (first | assumption | exact Kept.refl _ | apply Kept.drew | apply Kept.drewN | apply Kept.alloc | refine Kept.trans ?_ (by assumption))))
    (first | (go_at_call 52; refine (greatest_any _ n m bd bj br D J ?_ hn hn1 hD).mono ?_; (exact hYW.kept (by repeat (first | assumption | exact Kept.refl _ | apply Kept.drew | apply Kept.drewN | apply Kept.alloc | refine Kept.trans ?_ (by assumption)))); rintro e w' ⟨rfl, hk1, hr1⟩) | (go_at_call 55; refine (burn_any _ n m bd bj br D J _ (fun i => (D (i + 1) : Int) - 1) ?_ hn hn1 hJ ?_).mono ?_; (exact hYW.kept (by repeat (first | assumption | exact Kept.refl _ | apply Kept.drew | apply Kept.drewN | apply Kept.alloc | refine Kept.trans ?_ (by assumption)))); (exact CellsAt.of_row (by assumption)); rintro e w2 ⟨ov, rfl, hk2, ho⟩; (obtain ⟨a, cap, rfl⟩ := own_shape ho)) | (go_at_call 54; refine (all_any _ n m bd bj _ _ _ hn hn1).mono ?_; rintro e w3 ⟨rfl, hk3⟩))
  go_wp2
  go_ret
  exact ⟨rfl, (by repeat (first | assumption | exact Kept.refl _ | apply Kept.drew | apply Kept.drewN | apply Kept.alloc | refine Kept.trans ?_ (by assumption)))⟩
end Go.Proofs.Ytlnpipkhofhlnaa
