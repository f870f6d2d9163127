/-
  The program's yards are made: newYard, has, holds, join.
-/
import Derived.Test.YtlnpipkhofhlnaaC
import Derived.Deep.DeepCutAuto
import Derived.RegionTactic
import Derived.BigRegion
namespace Go.Proofs.Ytlnpipkhofhlnaa
open Go.RowKit Go.Deep

theorem has_any (w : World) (n m bd bj : Nat) (v : Int) (_hn : n ≤ 8) :
    Calls Try.prog 64 #[YardV n m bd bj, .int .i64 v] w fun e w' => e = .returned (.bool (decide (0 ≤ v) && decide (v < n))) ∧ Kept w w' := by
  unfold YardV
  cases e1 : decide (0 ≤ v) <;> cases e2 : decide (v < (n : Int))
  all_goals
    go_enter Try.func64, Try.ntmps64
    go_wp2
    go_ret
    exact ⟨rfl, (Kept.refl _).alloc _⟩

def holdsB (n : Nat) (least : Int) (l : Nat) (f : Nat → Int) : Bool := decide (l = n - 1) && allN (fun i => decide (least ≤ f i) && decide (f i ≤ 1000)) l

theorem holds_end {n l k : Nat} {least : Int} {f : Nat → Int} (h : l = n - 1) (e : l = k) (hk : allN (fun i => decide (least ≤ f i) && decide (f i ≤ 1000)) k = true) : true = holdsB n least l f := by
  subst e
  unfold holdsB
  rw [hk]; simp [h]
set_option maxHeartbeats 1000000 in
theorem holds_any (w : World) (n m bd bj : Nat) (lv : Value) (l : Nat) (f : Nat → Int) (least : Int) (hn : n ≤ 8) (hn1 : 1 ≤ n) (hL : IntsAt w lv l f) :
    Calls Try.prog 67 #[YardV n m bd bj, lv, .int .i64 least] w fun e w' => e = .returned (.bool (holdsB n least l f)) ∧ Kept w w' := by
  obtain ⟨a, b, o, cap, rfl, ha, hc⟩ := hL
  unfold YardV
  by_cases hl : l = n - 1
  · have h0 : ((l : Int) != (n : Int) - 1) = false := by simp; omega
    have hl8 : l ≤ 7 := by omega
    have HL := Lib.hid hl
    clear hl
    go_enter Try.func67, Try.ntmps67
    go_wp2
    go_loopg [17] l (fun g i wr => ∃ k : Nat, k ≤ l ∧ g = l - k ∧ i = .int .i64 k ∧ Hid (allN (fun i => decide (least ≤ f i) && decide (f i ≤ 1000)) k = true) ∧ Kept w wr)
    case atStart => exact ⟨0, Nat.zero_le _, rfl, rfl, rfl, (Kept.refl _).alloc _⟩
    case round =>
      obtain ⟨k, hk, rfl, rfl, hH, hK⟩ := hrel
      by_cases hlt : k < l
      · obtain rfl := ha (by omega)
        have h1 := hK.cellSome (hc k hlt)
        clear hc
        by_cases e1 : f k < least
        · go_wp2
          go_ret
          exact ⟨ret_bool (by unfold holdsB; rw [allN_false hlt (by simp; omega)]; simp), hK⟩
        · by_cases e2 : f k ≤ 1000
          · have e3 : ¬ 1000 < f k := by omega
            go_wp2
            go_roundg (l - (k+1))
            case measure => omega
            case rel => exact ⟨k + 1, by omega, rfl, by go_num, allN_step hH.out (by simp; omega), hK⟩
          · have e3 : 1000 < f k := by omega
            go_wp2
            go_ret
            exact ⟨ret_bool (by unfold holdsB; rw [allN_false hlt (by simp; omega)]; simp), hK⟩
      · go_wp2
        go_ret
        exact ⟨ret_bool (by exact (holds_end HL.out (show l = k by omega) hH.out)), hK⟩
  · have h0 : ((l : Int) != (n : Int) - 1) = true := by simp; omega
    go_enter Try.func67, Try.ntmps67
    go_wp2
    go_ret
    exact ⟨ret_bool (by unfold holdsB; simp [hl]), (Kept.refl _).alloc _⟩

/-- a yard whose blocks are all apart, from base on -/
structure YardOwn (base : Nat) (w : World) (n bd bj : Nat) (br : Nat → Nat) (D : Nat → Nat) (J : Nat → Nat → Nat) : Prop where
  yard : YardAt w n bd bj br D J
  bd0 : base ≤ bd
  bj0 : base ≤ bj
  br0 : ∀ i, i < n → base ≤ br i
  dj : bd ≠ bj
  dr : ∀ i, i < n → br i ≠ bd
  jr : ∀ i, i < n → br i ≠ bj
  rr : ∀ i j, i < n → j < n → i ≠ j → br i ≠ br j
theorem YardOwn.kept {base : Nat} {w w' : World} {n bd bj : Nat} {br D : Nat → Nat} {J : Nat → Nat → Nat} (h : YardOwn base w n bd bj br D J) (k : Kept w w') : YardOwn base w' n bd bj br D J :=
  ⟨h.yard.kept k, h.bd0, h.bj0, h.br0, h.dj, h.dr, h.jr, h.rr⟩

theorem mkTop (m : Int) (n : Nat) (h : m = n) (hn : n ≤ 1000000) (w : World) :
    (Instr.makeSlice 63 (.int .i64 m) (.int .i64 m)).run Try.prog w = .ok (.slice (some ⟨w.heap.size, 0, none⟩) n n) (w.alloc (.cells (madeCells #[.slice none 0 0] n) 25)) := by
  subst h
  exact run_make_row' (P := Try.prog) 63 25 (.slice none 0 0) 24 Try.underlying63 (by kernel_rfl) rfl .i64 .i64 n (by omega) (by omega) w

theorem row_at (W : World) (z : Value) (n : Nat) (t : TypeId) (b : Nat) (hb : b = W.heap.size) : (W.alloc (.cells (madeCells #[z] n) t)).rowIs b t n (fun _ => z) := by
  subst hb
  exact World.rowIs_made W z n t
theorem ybox_at (W : World) (n m bd bj : Nat) (t : TypeId) (b : Nat) (hb : b = W.heap.size) : YBox (W.alloc (.cells #[.int .i64 n, .int .i64 m, .slice (some ⟨bd, 0, none⟩) n n, .slice (some ⟨bj, 0, none⟩) n n] t)) b n m bd bj := by
  subst hb
  exact YBox.new W n m bd bj t
/-- a yard's box that holds nothing yet -/
def zero4 (i : Nat) : Value := if i < 2 then .int .i64 0 else .slice none 0 0
theorem zbox_at (W : World) (t : TypeId) (b : Nat) (hb : b = W.heap.size) : (W.alloc (.cells #[.int .i64 0, .int .i64 0, .slice none 0 0, .slice none 0 0] t)).rowIs b t 4 zero4 := by
  subst hb
  refine World.rowIs_alloc W _ t zero4 (fun i hi => ?_)
  have : i < 4 := hi
  match i, this with
  | 0, _ => rfl
  | 1, _ => rfl
  | 2, _ => rfl
  | 3, _ => rfl
def NewPost (w : World) (n : Nat) (e : Ending) (w' : World) : Prop := ∃ bd bj br, e = .returned (YardV n 0 bd bj) ∧ Kept w w' ∧ YardOwn w.heap.size w' n bd bj br (fun _ => 0) (fun _ _ => 0)

set_option maxRecDepth 100000 in
set_option maxHeartbeats 4000000 in
theorem newYard_any (w : World) (n : Nat) (hn : n ≤ 8) : Calls Try.prog 63 #[.int .i64 n] w (NewPost w n) := by
  have hmk := fun w => mkInts (n : Int) n rfl (by omega) w
  have hmt := fun w => mkTop (n : Int) n rfl (by omega) w
  go_enter Try.func63, Try.ntmps63
  go_upto_region 1 with fail
  go_outline
  go_cut [3] (fun v3 wx => ∃ bx bd bj, v3 = .pointer (some ⟨bx, 0, none⟩) ∧ Kept w wx ∧ YBox wx bx n 0 bd bj ∧ wx.rowIs bd 3 n (fun _ => .int .i64 0) ∧ wx.rowIs bj 25 n (fun _ => .slice none 0 0) ∧ w.heap.size < bx ∧ w.heap.size < bd ∧ w.heap.size < bj ∧ bd ≠ bj ∧ bd ≠ bx ∧ bj ≠ bx ∧ wx.rowIs w.heap.size 78 4 zero4)
  case first =>
    go_region
    all_goals
      go_wp2_with fail
      go_meet
      apply Exists.intro
      apply Exists.intro
      apply Exists.intro
      refine ⟨rfl, (by repeat (first | assumption | exact Kept.refl _ | apply Kept.drew | apply Kept.drewN | apply Kept.alloc | refine Kept.trans ?_ (by assumption))), ?_, ?_, ?_, ?_⟩
      · first | (refine YBox.kept (ybox_at _ _ _ _ _ _ _ ?_) (Kept.refl _).drew; simp; done) | (refine YBox.kept (ybox_at _ _ _ _ _ _ _ ?_) ((Kept.refl _).alloc _).drew; simp; done) | (refine YBox.kept (ybox_at _ _ _ _ _ _ _ ?_) (((Kept.refl _).alloc _).alloc _).drew; simp; done)
      · first | (refine World.rowIs.drew (row_at _ _ _ _ _ ?_); simp; done) | (refine World.rowIs.drew (World.rowIs.alloc (row_at _ _ _ _ _ ?_) _); simp; done) | (refine World.rowIs.drew (World.rowIs.alloc (World.rowIs.alloc (row_at _ _ _ _ _ ?_) _) _); simp; done)
      · first | (refine World.rowIs.drew (row_at _ _ _ _ _ ?_); simp; done) | (refine World.rowIs.drew (World.rowIs.alloc (row_at _ _ _ _ _ ?_) _); simp; done) | (refine World.rowIs.drew (World.rowIs.alloc (World.rowIs.alloc (row_at _ _ _ _ _ ?_) _) _); simp; done)
      · exact ⟨by omega, by omega, by omega, by omega, by omega, by omega, World.rowIs.drew ((((zbox_at w _ _ rfl).alloc _).alloc _).alloc _)⟩
  case rest =>
    clear hmt
    obtain ⟨bx, bd, bj, rfl, hK, hB, hd, ht, hx1, hd1, hj1, n1, n2, n3, hZ⟩ := hcut
    go_wp2_with fail
    go_loopg [12] n (fun g i wr => ∃ (k : Nat) (br : Nat → Nat), k ≤ n ∧ g = n - k ∧ i = .int .i64 k ∧ Kept w wr ∧ YBox wr bx n 0 bd bj ∧ wr.rowIs bd 3 n (fun _ => .int .i64 0) ∧ wr.rowIs bj 25 n (fun i => if i < k then .slice (some ⟨br i, 0, none⟩) n n else .slice none 0 0) ∧
      (∀ i, i < k → wr.rowIs (br i) 3 n (fun _ => .int .i64 0)) ∧ (∀ i, i < k → w.heap.size < br i ∧ br i ≠ bd ∧ br i ≠ bj ∧ br i ≠ bx) ∧ (∀ i j, i < k → j < k → i ≠ j → br i ≠ br j) ∧ wr.rowIs w.heap.size 78 4 zero4)
    case atStart => exact ⟨0, fun _ => 0, Nat.zero_le _, rfl, rfl, hK, hB, hd, ht.congr (fun i _ => by simp), fun i hi => absurd hi (by omega), fun i hi => absurd hi (by omega), fun i j hi => absurd hi (by omega), hZ⟩
    case round =>
      obtain ⟨k, br, hk, rfl, rfl, hK, hB, hd, ht, hr, hne, hrr, hZ⟩ := hrel
      by_cases hlt : k < n
      · have c3 := hB.c3
        have t1 := ht.cell hlt
        rw [if_neg (by omega)] at t1
        have t2 := ht.frozen k
        have c3a : ∀ o, (wr.alloc o).cell? ⟨bx, 3, none⟩ = some (.slice (some ⟨bj, 0, none⟩) n n) := fun o => ((Kept.refl wr).alloc o).cellSome c3
        have t1a : ∀ o, (wr.alloc o).cell? ⟨bj, k, none⟩ = some (.slice none 0 0) := fun o => ((Kept.refl wr).alloc o).cellSome t1
        have t2a : ∀ o, (wr.alloc o).frozen? ⟨bj, k, none⟩ = false := fun o => (ht.alloc o).frozen k
        have hk0 : (0 : Int) ≤ (k : Int) := by omega
        have hk1 : (k : Int) < (n : Int) := by omega
        go_wp2_with fail
        go_region
        all_goals
          go_wp2_with fail
          go_roundg (n - (k + 1))
          case measure => omega
          case rel =>
            have hlb := hB
            have hnew := row_at wr (.int .i64 0) n 3 wr.heap.size rfl
            have hs1 := hd.lt
            have hs2 := ht.lt
            have hbx : bx < wr.heap.size := World.block_lt_of_cell? _ _ c3
            refine ⟨k + 1, fun i => if i = k then wr.heap.size else br i, by omega, rfl, by go_num, ?_, ?_, ?_, ?_, ?_, ?_, ?_, ((hZ.alloc _).setOther (show w.heap.size ≠ bj by omega) _).drew⟩
            · exact ((hK.alloc _).setCell (by show w.heap.size ≤ bj; omega) _).drew
            · exact ((hB.kept ((Kept.refl _).alloc _)).set4 (fun e => n3 e.symm) _ _).kept (Kept.refl _).drew
            · exact (((hd.alloc _).setOther (show bd ≠ bj from n1) _)).drew
            · refine (((ht.alloc _).set k _).congr (fun i hi => ?_)).drew
              by_cases e : i = k
              · subst e; simp
              · simp only [if_neg e]
                by_cases h : i < k
                · rw [if_pos h, if_pos (by omega)]
                · rw [if_neg h, if_neg (by omega)]
            · intro i hi
              by_cases e : i = k
              · subst e; simp only [if_true]; exact (hnew.setOther (show wr.heap.size ≠ bj by omega) _).drew
              · simp only [if_neg e]; exact (((hr i (by omega)).alloc _).setOther (show br i ≠ bj from (hne i (by omega)).2.2.1) _).drew
            · intro i hi
              by_cases e : i = k
              · subst e; simp only [if_true]; have := Kept.size hK; exact ⟨by omega, by omega, by omega, by omega⟩
              · simp only [if_neg e]; exact hne i (by omega)
            · intro i j hi hj hij
              by_cases e : i = k
              · by_cases e2 : j = k
                · omega
                · simp only [if_pos e, if_neg e2]; have := (hr j (by omega)).lt; omega
              · by_cases e2 : j = k
                · simp only [if_neg e, if_pos e2]; have := (hr i (by omega)).lt; omega
                · simp only [if_neg e, if_neg e2]; exact hrr i j (by omega) (by omega) hij
      · obtain rfl : k = n := by omega
        obtain ⟨c0, c1, c2, c3⟩ := hB
        have hw := World.block_lt_of_cell? _ _ c0
        have hsz := Kept.size hK
        have z0 := hZ.cell (i := 0) (by omega)
        have z1 := hZ.cell (i := 1) (by omega)
        have z2 := hZ.cell (i := 2) (by omega)
        have z3 := hZ.cell (i := 3) (by omega)
        have y0 := hZ.frozen 0
        have y1 := hZ.frozen 1
        have y2 := hZ.frozen 2
        have y3 := hZ.frozen 3
        clear hmk
        go_wp2_with fail
        have hZ4 := (((hZ.set 0 (.int .i64 k)).set 1 (.int .i64 0)).set 2 (.slice (some ⟨bd, 0, none⟩) k k)).set 3 (.slice (some ⟨bj, 0, none⟩) k k)
        have hK4 : Kept w ((((wr.setCell ⟨w.heap.size, 0, none⟩ (.int .i64 k)).setCell ⟨w.heap.size, 1, none⟩ (.int .i64 0)).setCell ⟨w.heap.size, 2, none⟩ (.slice (some ⟨bd, 0, none⟩) k k)).setCell ⟨w.heap.size, 3, none⟩ (.slice (some ⟨bj, 0, none⟩) k k)) := (((hK.setCell (Nat.le_refl _) _).setCell (Nat.le_refl _) _).setCell (Nat.le_refl _) _).setCell (Nat.le_refl _) _
        have hX4 : KeptX (fun i => i = w.heap.size) wr ((((wr.setCell ⟨w.heap.size, 0, none⟩ (.int .i64 k)).setCell ⟨w.heap.size, 1, none⟩ (.int .i64 0)).setCell ⟨w.heap.size, 2, none⟩ (.slice (some ⟨bd, 0, none⟩) k k)).setCell ⟨w.heap.size, 3, none⟩ (.slice (some ⟨bj, 0, none⟩) k k)) := ((((KeptX.refl _ wr).setIn _ _).setIn _ _).setIn _ _).setIn _ _
        generalize (((wr.setCell ⟨w.heap.size, 0, none⟩ (.int .i64 k)).setCell ⟨w.heap.size, 1, none⟩ (.int .i64 0)).setCell ⟨w.heap.size, 2, none⟩ (.slice (some ⟨bd, 0, none⟩) k k)).setCell ⟨w.heap.size, 3, none⟩ (.slice (some ⟨bj, 0, none⟩) k k) = W4 at *
        have r0 : W4.cell? ⟨w.heap.size, 0, none⟩ = some (.int .i64 k) := hZ4.cell (i := 0) (by omega)
        have r1 : W4.cell? ⟨w.heap.size, 1, none⟩ = some (.int .i64 0) := hZ4.cell (i := 1) (by omega)
        have r2 : W4.cell? ⟨w.heap.size, 2, none⟩ = some (.slice (some ⟨bd, 0, none⟩) k k) := hZ4.cell (i := 2) (by omega)
        have r3 : W4.cell? ⟨w.heap.size, 3, none⟩ = some (.slice (some ⟨bj, 0, none⟩) k k) := hZ4.cell (i := 3) (by omega)
        refine bodyPost_ret (v := YardV k 0 bd bj) (by simp [results, Try.results63, go_sem, r0, r1, r2, r3, YardV]) rfl ?_
        exact ⟨bd, bj, br, rfl, hK4, ⟨hX4.row hd (by omega), (hX4.row ht (by omega)).congr (fun i hi => by rw [if_pos hi]), fun i hi => hX4.row (hr i hi) (by have := (hne i hi).1; omega)⟩, by omega, by omega, fun i hi => by have := (hne i hi).1; omega, n1, fun i hi => (hne i hi).2.1, fun i hi => (hne i hi).2.2.1, hrr⟩
end Go.Proofs.Ytlnpipkhofhlnaa
