/-
  The program's yards are made: yardOf.
-/
import Derived.Test.YtlnpipkhofhlnaaG
import Derived.Test.YtlnpipkhofhlnaaA
namespace Go.Proofs.Ytlnpipkhofhlnaa
open Go.RowKit Go.Deep

/-- a slice of slices of ints -/
def ListsAt (w : World) (v : Value) (q : Nat) (len : Nat → Nat) (f : Nat → Nat → Int) : Prop := ∃ vs : Nat → Value, CellsAt w v q vs ∧ ∀ i, i < q → IntsAt w (vs i) (len i) (f i)
theorem ListsAt.kept {w w' : World} {v : Value} {q : Nat} {len : Nat → Nat} {f : Nat → Nat → Int} (h : ListsAt w v q len f) (k : Kept w w') : ListsAt w' v q len f := by
  obtain ⟨vs, h1, h2⟩ := h
  exact ⟨vs, h1.kept k, fun i hi => (h2 i hi).kept k⟩
def hasB (n : Nat) (v : Int) : Bool := decide (0 ≤ v) && decide (v < n)
theorem has_at (w : World) (n m bd bj : Nat) (v : Int) (hn : n ≤ 8) (r : Bool) (hr : hasB n v = r) :
    Calls Try.prog 64 #[YardV n m bd bj, .int .i64 v] w fun e w' => e = .returned (.bool r) ∧ Kept w w' := by
  subst hr
  exact has_any w n m bd bj v hn
/-- may this edge be -/
def edgeB (n : Nat) (a b : Int) : Bool := hasB n a && hasB n b && !(a == b)
def degN (A B : Nat → Int) (m : Nat) (v : Nat) : Nat := deg A B m v
def btwN (A B : Nat → Int) (m : Nat) (i j : Nat) : Nat := btw A B m i j
def goodB (n : Int) (A B : Nat → Int) (m : Nat) : Bool := decide (2 ≤ n) && decide (n ≤ 8) && decide (m ≤ 20) && allN (fun i => edgeB n.toNat (A i) (B i)) m && conB n.toNat (degN A B m) (btwN A B m)
theorem edgeB_true {n : Nat} {a b : Int} (h : edgeB n a b = true) : ∃ x y : Nat, a = x ∧ b = y ∧ x < n ∧ y < n ∧ x ≠ y := by
  simp only [edgeB, hasB, Bool.and_eq_true, decide_eq_true_eq, Bool.not_eq_true', beq_eq_false_iff_ne] at h
  exact ⟨a.toNat, b.toNat, by omega, by omega, by omega, by omega, by omega⟩
theorem degN_succ {A B : Nat → Int} {k x y : Nat} (ha : A k = x) (hb : B k = y) (h : x ≠ y) (v : Nat) : degN A B (k + 1) v = joinD (degN A B k) x y v := by
  unfold degN deg joinD
  simp only [cnt, ha, hb]
  by_cases e1 : v = x
  · subst e1; simp [h]
  · by_cases e2 : v = y
    · subst e2; simp [e1]
    · have h1 : ((x : Int) == (v : Int)) = false := by simp; omega
      have h2 : ((y : Int) == (v : Int)) = false := by simp; omega
      simp [e1, e2, h1, h2]
theorem btwN_succ {A B : Nat → Int} {k x y : Nat} (ha : A k = x) (hb : B k = y) (i j : Nat) : btwN A B (k + 1) i j = joinJ (btwN A B k) x y i j := by
  unfold btwN btw joinJ
  simp only [cnt, ha, hb]
  congr 1
  have e : (((x : Int) == (i : Int) && (y : Int) == (j : Int)) || ((x : Int) == (j : Int) && (y : Int) == (i : Int))) = decide (i = x ∧ j = y ∨ i = y ∧ j = x) := by
    rw [Bool.eq_iff_iff]; simp; omega
  rw [e]; simp
theorem yard_congr {base : Nat} {w : World} {n bd bj : Nat} {br D D' : Nat → Nat} {J J' : Nat → Nat → Nat} (h : YardOwn base w n bd bj br D J) (h1 : ∀ v, D v = D' v) (h2 : ∀ i j, J i j = J' i j) : YardOwn base w n bd bj br D' J' := by
  obtain rfl : D = D' := funext h1
  obtain rfl : J = J' := funext (fun i => funext (h2 i))
  exact h
theorem YardOwn.base {b b' : Nat} {w : World} {n bd bj : Nat} {br D : Nat → Nat} {J : Nat → Nat → Nat} (h : YardOwn b w n bd bj br D J) (hb : b' ≤ b) : YardOwn b' w n bd bj br D J :=
  ⟨h.yard, Nat.le_trans hb h.bd0, Nat.le_trans hb h.bj0, fun i hi => Nat.le_trans hb (h.br0 i hi), h.dj, h.dr, h.jr, h.rr⟩
theorem YardOwn.keptB {S : Nat → Prop} {b : Nat} {w w' : World} {n bd bj : Nat} {br D : Nat → Nat} {J : Nat → Nat → Nat} (h : YardOwn b w n bd bj br D J) (k : KeptX S w w') (hS : ∀ i, S i → i < b) : YardOwn b w' n bd bj br D J :=
  ⟨h.yard.keptX k (fun e => by have := hS _ e; have := h.bd0; omega) (fun e => by have := hS _ e; have := h.bj0; omega) (fun i hi e => by have := hS _ e; have := h.br0 i hi; omega), h.bd0, h.bj0, h.br0, h.dj, h.dr, h.jr, h.rr⟩
theorem bad_edge {n : Nat} {A B : Nat → Int} {m k : Nat} (hk : k < m) (h : edgeB n (A k) (B k) = false) : goodB (n : Int) A B m = false := by
  unfold goodB
  rw [Int.toNat_natCast, allN_false (p := fun i => edgeB n (A i) (B i)) hk h]; simp
/-- what yardOf leaves -/
def zeroYard : Value := .agg #[.int .i64 0, .int .i64 0, .slice none 0 0, .slice none 0 0]
def YardOfPost (w : World) (n : Int) (A B : Nat → Int) (m : Nat) (least : Int) (q : Nat) (len : Nat → Nat) (f : Nat → Nat → Int) (e : Ending) (w' : World) : Prop :=
  Kept w w' ∧ (if goodB n A B m = true then
    (if allN (fun i => holdsB n.toNat least (len i) (f i)) q = true then ∃ bd bj br, e = .returned (.tuple #[YardV n.toNat m bd bj, .int .i64 0]) ∧ YardOwn w.heap.size w' n.toNat bd bj br (degN A B m) (btwN A B m)
      else e = .returned (.tuple #[zeroYard, .int .i64 2]))
    else e = .returned (.tuple #[zeroYard, .int .i64 1]))

set_option maxRecDepth 100000 in
set_option maxHeartbeats 8000000 in
theorem yardOf_any (w : World) (n : Int) (ev lv : Value) (A B : Nat → Int) (m : Nat) (least : Int) (q : Nat) (len : Nat → Nat) (f : Nat → Nat → Int) (hE : PairsAt w ev m A B) (hL : ListsAt w lv q len f) (hm : m ≤ 1000000) (hq : q ≤ 1000000) :
    Calls Try.prog 40 #[.int .i64 n, ev, .int .i64 least, lv] w (YardOfPost w n A B m least q len f) := by
  obtain ⟨ea, eb, eo, ecap, rfl, hea, hec⟩ := hE
  by_cases hr : 2 ≤ n ∧ n ≤ 8 ∧ m ≤ 20
  · obtain ⟨hn2, hn8, hm20⟩ := hr
    obtain ⟨n, rfl⟩ := Int.eq_ofNat_of_zero_le (show 0 ≤ n by omega)
    have hz := zbox_at w 78 w.heap.size rfl
    have hK0 : Kept w (w.alloc (.cells #[.int .i64 0, .int .i64 0, .slice none 0 0, .slice none 0 0] 78)) := (Kept.refl w).alloc _
    go_enter Try.func40, Try.ntmps40
    go_wp2_with fail
    refine (newYard_any _ n (by omega)).mono ?_
    rintro e w1 ⟨bd, bj, br, rfl, hk1, hO⟩
    rw [nblk_alloc] at hO
    have hK1 : Kept w w1 := hK0.trans hk1
    have hZ1 := hk1.row hz
    have hs1 : w.heap.size + 1 ≤ w1.heap.size := by have := Kept.size hk1; simp at this; omega
    clear hz hK0 hk1
    unfold YardV
    go_wp2_with fail
    have hb1 : (w1.alloc (.cells #[.int .i64 n, .int .i64 0, .slice (some ⟨bd, 0, none⟩) n n, .slice (some ⟨bj, 0, none⟩) n n] 78)).rowIs w1.heap.size 78 4 (ybox n 0 bd bj) := World.rowIs_alloc w1 _ _ _ (fun i hi => by
      have : i < 4 := hi
      match i, this with
      | 0, _ => rfl
      | 1, _ => rfl
      | 2, _ => rfl
      | 3, _ => rfl)
    have hO1 := hO.kept ((Kept.refl w1).alloc (.cells #[.int .i64 n, .int .i64 0, .slice (some ⟨bd, 0, none⟩) n n, .slice (some ⟨bj, 0, none⟩) n n] 78))
    have hZ2 := hZ1.alloc (.cells #[.int .i64 n, .int .i64 0, .slice (some ⟨bd, 0, none⟩) n n, .slice (some ⟨bj, 0, none⟩) n n] 78)
    have hK2 : Kept w (w1.alloc (.cells #[.int .i64 n, .int .i64 0, .slice (some ⟨bd, 0, none⟩) n n, .slice (some ⟨bj, 0, none⟩) n n] 78)) := hK1.alloc _
    have hbx1 := hO.yard.deg.lt
    have hbx2 := hO.yard.top.lt
    have hbx3 := fun i hi => (hO.yard.row i hi).lt
    generalize w1.alloc (.cells #[.int .i64 n, .int .i64 0, .slice (some ⟨bd, 0, none⟩) n n, .slice (some ⟨bj, 0, none⟩) n n] 78) = W2 at *
    obtain ⟨bx, HBX⟩ : ∃ bx, Hid (bx = w1.heap.size) := ⟨_, rfl⟩
    rw [← HBX.out] at hb1 hbx1 hbx2 hs1 ⊢
    have hbx3' : ∀ i, i < n → br i < bx := by rw [HBX.out]; exact hbx3
    clear hbx3 hZ1 hO hK1 HBX
    go_loopg [31] m (fun g i wr => ∃ k : Nat, k ≤ m ∧ g = m - k ∧ i = .int .i64 k ∧ Hid (allN (fun i => edgeB n (A i) (B i)) k = true) ∧ Kept w wr ∧ wr.rowIs bx 78 4 (ybox n k bd bj) ∧ YardOwn (w.heap.size + 1) wr n bd bj br (degN A B k) (btwN A B k) ∧ wr.rowIs w.heap.size 78 4 zero4)
    case atStart => exact ⟨0, Nat.zero_le _, rfl, rfl, rfl, hK2, hb1, yard_congr hO1 (fun _ => rfl) (fun _ _ => rfl), hZ2⟩
    case round =>
      obtain ⟨k, hk, rfl, rfl, hH, hK, hb, hO, hZ⟩ := hrel
      clear hK2 hb1 hO1 hZ2
      by_cases hlt : k < m
      · obtain rfl := hea (by omega)
        obtain ⟨x1, x2⟩ := hec k hlt
        have e1 := hK.cellSome x1
        have e2 := hK.cellSome x2
        go_upto_region 7 with fail
        have hKa := hK.alloc (.cells #[.int .i64 (A k), .int .i64 (B k)] 71)
        have hba := hb.alloc (.cells #[.int .i64 (A k), .int .i64 (B k)] 71)
        have hOa := hO.kept ((Kept.refl wr).alloc (.cells #[.int .i64 (A k), .int .i64 (B k)] 71))
        have hZa := hZ.alloc (.cells #[.int .i64 (A k), .int .i64 (B k)] 71)
        have hpa : (wr.alloc (.cells #[.int .i64 (A k), .int .i64 (B k)] 71)).rowIs wr.heap.size 71 2 (fun i => if i = 0 then .int .i64 (A k) else .int .i64 (B k)) := World.rowIs_alloc wr _ _ _ (fun i hi => by
          have : i < 2 := hi
          match i, this with
          | 0, _ => rfl
          | 1, _ => rfl)
        generalize wr.alloc (.cells #[.int .i64 (A k), .int .i64 (B k)] 71) = Wa at *
        clear hK hb hO hZ e1 e2 x1 x2
        have hn8' : n ≤ 8 := by omega
        obtain ⟨c0, c1, c2, c3⟩ := YBox.of_row hba
        have p0 : Wa.cell? ⟨wr.heap.size, 0, none⟩ = some (.int .i64 (A k)) := hpa.cell (i := 0) (by omega)
        have p1 : Wa.cell? ⟨wr.heap.size, 1, none⟩ = some (.int .i64 (B k)) := hpa.cell (i := 1) (by omega)
        cases h1 : hasB n (A k)
        · have HB : Hid (edgeB n (A k) (B k) = false) := by show _ = _; simp [edgeB, h1]
          go_wp2_with fail
          refine (has_at _ n k bd bj (A k) hn8' false h1).mono ?_
          rintro e wb ⟨rfl, hkb⟩
          have hZ := hkb.row hZa
          have hK := hKa.trans hkb
          have z0 : wb.cell? ⟨w.heap.size, 0, none⟩ = some (.int .i64 0) := hZ.cell (i := 0) (by omega)
          have z1 : wb.cell? ⟨w.heap.size, 1, none⟩ = some (.int .i64 0) := hZ.cell (i := 1) (by omega)
          have z2 : wb.cell? ⟨w.heap.size, 2, none⟩ = some (.slice none 0 0) := hZ.cell (i := 2) (by omega)
          have z3 : wb.cell? ⟨w.heap.size, 3, none⟩ = some (.slice none 0 0) := hZ.cell (i := 3) (by omega)
          have y0 := hZ.frozen 0
          have y1 := hZ.frozen 1
          have y2 := hZ.frozen 2
          have y3 := hZ.frozen 3
          go_wp2_with fail
          have hZ4 := (((hZ.set 0 (.int .i64 0)).set 1 (.int .i64 0)).set 2 (.slice none 0 0)).set 3 (.slice none 0 0)
          have hK4 := (((hK.setCell (p := ⟨w.heap.size, 0, none⟩) (Nat.le_refl _) (.int .i64 0)).setCell (p := ⟨w.heap.size, 1, none⟩) (Nat.le_refl _) (.int .i64 0)).setCell (p := ⟨w.heap.size, 2, none⟩) (Nat.le_refl _) (.slice none 0 0)).setCell (p := ⟨w.heap.size, 3, none⟩) (Nat.le_refl _) (.slice none 0 0)
          generalize (((wb.setCell ⟨w.heap.size, 0, none⟩ (.int .i64 0)).setCell ⟨w.heap.size, 1, none⟩ (.int .i64 0)).setCell ⟨w.heap.size, 2, none⟩ (.slice none 0 0)).setCell ⟨w.heap.size, 3, none⟩ (.slice none 0 0) = W4 at *
          have r0 : W4.cell? ⟨w.heap.size, 0, none⟩ = some (.int .i64 0) := hZ4.cell (i := 0) (by omega)
          have r1 : W4.cell? ⟨w.heap.size, 1, none⟩ = some (.int .i64 0) := hZ4.cell (i := 1) (by omega)
          have r2 : W4.cell? ⟨w.heap.size, 2, none⟩ = some (.slice none 0 0) := hZ4.cell (i := 2) (by omega)
          have r3 : W4.cell? ⟨w.heap.size, 3, none⟩ = some (.slice none 0 0) := hZ4.cell (i := 3) (by omega)
          exact bodyPost_ret (v := .tuple #[zeroYard, .int .i64 1]) (by simp [results, Try.results40, go_sem, r0, r1, r2, r3, zeroYard]) rfl ⟨hK4, by rw [bad_edge hlt HB.out, if_neg (by simp)]⟩
        · have H1 := Lib.hid h1
          go_wp2_with fail
          refine (has_at _ n k bd bj (A k) hn8' true h1).mono ?_
          rintro e wb ⟨rfl, hkb⟩
          obtain ⟨d0, d1, d2, d3⟩ := YBox.of_row (hkb.row hba)
          have q0 := hkb.cellSome p0
          have q1 := hkb.cellSome p1
          clear c0 c1 c2 c3 p0 p1 h1
          cases h2 : hasB n (B k)
          · have HB : Hid (edgeB n (A k) (B k) = false) := by show _ = _; simp [edgeB, h2]
            go_wp2_with fail
            refine (has_at _ n k bd bj (B k) hn8' false h2).mono ?_
            rintro e wc ⟨rfl, hkc⟩
            have hZ := hkc.row (hkb.row hZa)
            have hK := (hKa.trans hkb).trans hkc
            have z0 : wc.cell? ⟨w.heap.size, 0, none⟩ = some (.int .i64 0) := hZ.cell (i := 0) (by omega)
            have z1 : wc.cell? ⟨w.heap.size, 1, none⟩ = some (.int .i64 0) := hZ.cell (i := 1) (by omega)
            have z2 : wc.cell? ⟨w.heap.size, 2, none⟩ = some (.slice none 0 0) := hZ.cell (i := 2) (by omega)
            have z3 : wc.cell? ⟨w.heap.size, 3, none⟩ = some (.slice none 0 0) := hZ.cell (i := 3) (by omega)
            have y0 := hZ.frozen 0
            have y1 := hZ.frozen 1
            have y2 := hZ.frozen 2
            have y3 := hZ.frozen 3
            go_wp2_with fail
            have hZ4 := (((hZ.set 0 (.int .i64 0)).set 1 (.int .i64 0)).set 2 (.slice none 0 0)).set 3 (.slice none 0 0)
            have hK4 := (((hK.setCell (p := ⟨w.heap.size, 0, none⟩) (Nat.le_refl _) (.int .i64 0)).setCell (p := ⟨w.heap.size, 1, none⟩) (Nat.le_refl _) (.int .i64 0)).setCell (p := ⟨w.heap.size, 2, none⟩) (Nat.le_refl _) (.slice none 0 0)).setCell (p := ⟨w.heap.size, 3, none⟩) (Nat.le_refl _) (.slice none 0 0)
            generalize (((wc.setCell ⟨w.heap.size, 0, none⟩ (.int .i64 0)).setCell ⟨w.heap.size, 1, none⟩ (.int .i64 0)).setCell ⟨w.heap.size, 2, none⟩ (.slice none 0 0)).setCell ⟨w.heap.size, 3, none⟩ (.slice none 0 0) = W4 at *
            have r0 : W4.cell? ⟨w.heap.size, 0, none⟩ = some (.int .i64 0) := hZ4.cell (i := 0) (by omega)
            have r1 : W4.cell? ⟨w.heap.size, 1, none⟩ = some (.int .i64 0) := hZ4.cell (i := 1) (by omega)
            have r2 : W4.cell? ⟨w.heap.size, 2, none⟩ = some (.slice none 0 0) := hZ4.cell (i := 2) (by omega)
            have r3 : W4.cell? ⟨w.heap.size, 3, none⟩ = some (.slice none 0 0) := hZ4.cell (i := 3) (by omega)
            exact bodyPost_ret (v := .tuple #[zeroYard, .int .i64 1]) (by simp [results, Try.results40, go_sem, r0, r1, r2, r3, zeroYard]) rfl ⟨hK4, by rw [bad_edge hlt HB.out, if_neg (by simp)]⟩
          · have H2 := Lib.hid h2
            go_wp2_with fail
            refine (has_at _ n k bd bj (B k) hn8' true h2).mono ?_
            rintro e wc ⟨rfl, hkc⟩
            have u0 := hkc.cellSome q0
            have u1 := hkc.cellSome q1
            clear d0 d1 d2 d3 q0 q1 h2
            cases h3 : (A k == B k)
            · have hgood : edgeB n (A k) (B k) = true := by simp [edgeB, H1.out, H2.out, h3]
              obtain ⟨x, y, ha, hb, hx, hy, hxy⟩ := edgeB_true hgood
              have HA := Lib.hid ha
              have HBB := Lib.hid hb
              have HG := Lib.hid hgood
              clear ha hb hgood
              go_wp2_with fail
              have hKc := (hKa.trans hkb).trans hkc
              have hbc := hkc.row (hkb.row hba)
              have hOc := (hOa.kept hkb).kept hkc
              have hZc := hkc.row (hkb.row hZa)
              refine (join_any wc (w.heap.size + 1) bx n k bd bj br (degN A B k) (btwN A B k) x y _ _ HA.out HBB.out hx hy hxy hOc hbc (by omega) (by omega) (by omega) (by omega) (fun i hi => by have := hbx3' i hi; omega) (fun i _ => Nat.le_trans (cnt_le _ _) (by omega)) (fun i j _ _ => Nat.le_trans (cnt_le _ _) (by omega))).mono ?_
              rintro e wd ⟨rfl, hXd, hbd, hOd⟩
              go_wp2_with fail
              go_roundg (m - (k + 1))
              case measure => omega
              case rel => exact ⟨k + 1, by omega, rfl, by go_num, allN_step hH.out HG.out, Kept.step hKc hXd (fun i hi => by omega), hbd, yard_congr hOd (fun v => (degN_succ HA.out HBB.out hxy v).symm) (fun i j => (btwN_succ HA.out HBB.out i j).symm), hXd.row hZc (by omega)⟩
            · have HB : Hid (edgeB n (A k) (B k) = false) := by show _ = _; simp [edgeB, h3]
              have hZ := hkc.row (hkb.row hZa)
              have hK := (hKa.trans hkb).trans hkc
              have z0 : wc.cell? ⟨w.heap.size, 0, none⟩ = some (.int .i64 0) := hZ.cell (i := 0) (by omega)
              have z1 : wc.cell? ⟨w.heap.size, 1, none⟩ = some (.int .i64 0) := hZ.cell (i := 1) (by omega)
              have z2 : wc.cell? ⟨w.heap.size, 2, none⟩ = some (.slice none 0 0) := hZ.cell (i := 2) (by omega)
              have z3 : wc.cell? ⟨w.heap.size, 3, none⟩ = some (.slice none 0 0) := hZ.cell (i := 3) (by omega)
              have y0 := hZ.frozen 0
              have y1 := hZ.frozen 1
              have y2 := hZ.frozen 2
              have y3 := hZ.frozen 3
              go_wp2_with fail
              have hZ4 := (((hZ.set 0 (.int .i64 0)).set 1 (.int .i64 0)).set 2 (.slice none 0 0)).set 3 (.slice none 0 0)
              have hK4 := (((hK.setCell (p := ⟨w.heap.size, 0, none⟩) (Nat.le_refl _) (.int .i64 0)).setCell (p := ⟨w.heap.size, 1, none⟩) (Nat.le_refl _) (.int .i64 0)).setCell (p := ⟨w.heap.size, 2, none⟩) (Nat.le_refl _) (.slice none 0 0)).setCell (p := ⟨w.heap.size, 3, none⟩) (Nat.le_refl _) (.slice none 0 0)
              generalize (((wc.setCell ⟨w.heap.size, 0, none⟩ (.int .i64 0)).setCell ⟨w.heap.size, 1, none⟩ (.int .i64 0)).setCell ⟨w.heap.size, 2, none⟩ (.slice none 0 0)).setCell ⟨w.heap.size, 3, none⟩ (.slice none 0 0) = W4 at *
              have r0 : W4.cell? ⟨w.heap.size, 0, none⟩ = some (.int .i64 0) := hZ4.cell (i := 0) (by omega)
              have r1 : W4.cell? ⟨w.heap.size, 1, none⟩ = some (.int .i64 0) := hZ4.cell (i := 1) (by omega)
              have r2 : W4.cell? ⟨w.heap.size, 2, none⟩ = some (.slice none 0 0) := hZ4.cell (i := 2) (by omega)
              have r3 : W4.cell? ⟨w.heap.size, 3, none⟩ = some (.slice none 0 0) := hZ4.cell (i := 3) (by omega)
              exact bodyPost_ret (v := .tuple #[zeroYard, .int .i64 1]) (by simp [results, Try.results40, go_sem, r0, r1, r2, r3, zeroYard]) rfl ⟨hK4, by rw [bad_edge hlt HB.out, if_neg (by simp)]⟩
      · obtain rfl : k = m := by omega
        have hn8' : n ≤ 8 := by omega
        obtain ⟨c0, c1, c2, c3⟩ := YBox.of_row hb
        have hD40 : ∀ i, i < n → degN A B k i ≤ 40 := fun i _ => Nat.le_trans (cnt_le _ _) (by omega)
        have hJ40 : ∀ i j, i < n → j < n → btwN A B k i j ≤ 40 := fun i j _ _ => Nat.le_trans (cnt_le _ _) (by omega)
        obtain ⟨cb, HCB⟩ : ∃ cb, Hid (conB n (degN A B k) (btwN A B k) = cb) := ⟨_, rfl⟩
        have hcon := connected_any wr n k bd bj br (degN A B k) (btwN A B k) hO.yard hn8' (by omega) hD40 hJ40
        rw [HCB.out] at hcon
        have HCON := Lib.hid hcon
        clear hcon hD40 hJ40
        cases cb
        · go_wp2_with fail
          refine HCON.out.mono ?_
          rintro e wb ⟨rfl, hkb⟩
          clear HCON
          have hZ := hkb.row hZ
          have hK := hK.trans hkb
          have z0 : wb.cell? ⟨w.heap.size, 0, none⟩ = some (.int .i64 0) := hZ.cell (i := 0) (by omega)
          have z1 : wb.cell? ⟨w.heap.size, 1, none⟩ = some (.int .i64 0) := hZ.cell (i := 1) (by omega)
          have z2 : wb.cell? ⟨w.heap.size, 2, none⟩ = some (.slice none 0 0) := hZ.cell (i := 2) (by omega)
          have z3 : wb.cell? ⟨w.heap.size, 3, none⟩ = some (.slice none 0 0) := hZ.cell (i := 3) (by omega)
          have y0 := hZ.frozen 0
          have y1 := hZ.frozen 1
          have y2 := hZ.frozen 2
          have y3 := hZ.frozen 3
          go_wp2_with fail
          have hZ4 := (((hZ.set 0 (.int .i64 0)).set 1 (.int .i64 0)).set 2 (.slice none 0 0)).set 3 (.slice none 0 0)
          have hK4 := (((hK.setCell (p := ⟨w.heap.size, 0, none⟩) (Nat.le_refl _) (.int .i64 0)).setCell (p := ⟨w.heap.size, 1, none⟩) (Nat.le_refl _) (.int .i64 0)).setCell (p := ⟨w.heap.size, 2, none⟩) (Nat.le_refl _) (.slice none 0 0)).setCell (p := ⟨w.heap.size, 3, none⟩) (Nat.le_refl _) (.slice none 0 0)
          generalize (((wb.setCell ⟨w.heap.size, 0, none⟩ (.int .i64 0)).setCell ⟨w.heap.size, 1, none⟩ (.int .i64 0)).setCell ⟨w.heap.size, 2, none⟩ (.slice none 0 0)).setCell ⟨w.heap.size, 3, none⟩ (.slice none 0 0) = W4 at *
          have r0 : W4.cell? ⟨w.heap.size, 0, none⟩ = some (.int .i64 0) := hZ4.cell (i := 0) (by omega)
          have r1 : W4.cell? ⟨w.heap.size, 1, none⟩ = some (.int .i64 0) := hZ4.cell (i := 1) (by omega)
          have r2 : W4.cell? ⟨w.heap.size, 2, none⟩ = some (.slice none 0 0) := hZ4.cell (i := 2) (by omega)
          have r3 : W4.cell? ⟨w.heap.size, 3, none⟩ = some (.slice none 0 0) := hZ4.cell (i := 3) (by omega)
          exact bodyPost_ret (v := .tuple #[zeroYard, .int .i64 1]) (by simp [results, Try.results40, go_sem, r0, r1, r2, r3, zeroYard]) rfl ⟨hK4, by rw [show goodB (n : Int) A B k = false by unfold goodB; rw [Int.toNat_natCast, HCB.out]; simp, if_neg (by simp)]⟩
        · have hgd : goodB (n : Int) A B k = true := by unfold goodB; rw [Int.toNat_natCast, HCB.out, hH.out]; simp; omega
          have HGD := Lib.hid hgd
          clear hgd
          go_wp2_with fail
          refine HCON.out.mono ?_
          rintro e wb ⟨rfl, hkb⟩
          have hKb := hK.trans hkb
          have hbb := hkb.row hb
          have hOb := hO.kept hkb
          have hZb := hkb.row hZ
          clear c0 c1 c2 c3 hK hb hO hZ HCON
          obtain ⟨vs, ⟨la, lb, lo, lcap, rfl, hla, hlc⟩, hli⟩ := hL
          go_wp2_with fail
          go_loopg [14, 67] q (fun g s14 i wt => ∃ t : Nat, t ≤ q ∧ g = q - t ∧ i = .int .i64 t ∧ Hid (allN (fun i => holdsB n least (len i) (f i)) t = true) ∧ Kept w wt ∧ wt.rowIs bx 78 4 (ybox n k bd bj) ∧ YardOwn (w.heap.size + 1) wt n bd bj br (degN A B k) (btwN A B k) ∧ wt.rowIs w.heap.size 78 4 zero4)
          case atStart => exact ⟨0, Nat.zero_le _, rfl, rfl, rfl, hKb, hbb, hOb, hZb⟩
          case round =>
            obtain ⟨t, ht, rfl, rfl, hT, hKt, hbt, hOt, hZt⟩ := hrel
            clear hKb hbb hOb hZb hkb
            obtain ⟨c0, c1, c2, c3⟩ := YBox.of_row hbt
            by_cases hlt2 : t < q
            · obtain rfl := hla (by omega)
              have l1 := hKt.cellSome (hlc t hlt2)
              have hli' := (hli t hlt2).kept hKt
              obtain ⟨hb, HHB⟩ : ∃ hb, Hid (holdsB n least (len t) (f t) = hb) := ⟨_, rfl⟩
              have hcon := holds_any wr n k bd bj (vs t) (len t) (f t) least hn8' (by omega) hli'
              rw [HHB.out] at hcon
              have HCON := Lib.hid hcon
              clear hcon hli'
              cases hb
              · go_wp2_with fail
                refine HCON.out.mono ?_
                rintro e wc ⟨rfl, hkc⟩
                clear HCON
                have hZ := hkc.row hZt
                have hK := hKt.trans hkc
                have z0 : wc.cell? ⟨w.heap.size, 0, none⟩ = some (.int .i64 0) := hZ.cell (i := 0) (by omega)
                have z1 : wc.cell? ⟨w.heap.size, 1, none⟩ = some (.int .i64 0) := hZ.cell (i := 1) (by omega)
                have z2 : wc.cell? ⟨w.heap.size, 2, none⟩ = some (.slice none 0 0) := hZ.cell (i := 2) (by omega)
                have z3 : wc.cell? ⟨w.heap.size, 3, none⟩ = some (.slice none 0 0) := hZ.cell (i := 3) (by omega)
                have y0 := hZ.frozen 0
                have y1 := hZ.frozen 1
                have y2 := hZ.frozen 2
                have y3 := hZ.frozen 3
                go_wp2_with fail
                have hZ4 := (((hZ.set 0 (.int .i64 0)).set 1 (.int .i64 0)).set 2 (.slice none 0 0)).set 3 (.slice none 0 0)
                have hK4 := (((hK.setCell (p := ⟨w.heap.size, 0, none⟩) (Nat.le_refl _) (.int .i64 0)).setCell (p := ⟨w.heap.size, 1, none⟩) (Nat.le_refl _) (.int .i64 0)).setCell (p := ⟨w.heap.size, 2, none⟩) (Nat.le_refl _) (.slice none 0 0)).setCell (p := ⟨w.heap.size, 3, none⟩) (Nat.le_refl _) (.slice none 0 0)
                generalize (((wc.setCell ⟨w.heap.size, 0, none⟩ (.int .i64 0)).setCell ⟨w.heap.size, 1, none⟩ (.int .i64 0)).setCell ⟨w.heap.size, 2, none⟩ (.slice none 0 0)).setCell ⟨w.heap.size, 3, none⟩ (.slice none 0 0) = W4 at *
                have r0 : W4.cell? ⟨w.heap.size, 0, none⟩ = some (.int .i64 0) := hZ4.cell (i := 0) (by omega)
                have r1 : W4.cell? ⟨w.heap.size, 1, none⟩ = some (.int .i64 0) := hZ4.cell (i := 1) (by omega)
                have r2 : W4.cell? ⟨w.heap.size, 2, none⟩ = some (.slice none 0 0) := hZ4.cell (i := 2) (by omega)
                have r3 : W4.cell? ⟨w.heap.size, 3, none⟩ = some (.slice none 0 0) := hZ4.cell (i := 3) (by omega)
                exact bodyPost_ret (v := .tuple #[zeroYard, .int .i64 2]) (by simp [results, Try.results40, go_sem, r0, r1, r2, r3, zeroYard]) rfl ⟨hK4, by rw [if_pos HGD.out, if_neg (by rw [Int.toNat_natCast, allN_false (p := fun i => holdsB n least (len i) (f i)) hlt2 HHB.out]; simp)]⟩
              · go_wp2_with fail
                refine HCON.out.mono ?_
                rintro e wc ⟨rfl, hkc⟩
                go_wp2_with fail
                go_roundg (q - (t + 1))
                case measure => omega
                case rel => exact ⟨t + 1, by omega, rfl, by go_num, allN_step hT.out HHB.out, hKt.trans hkc, hkc.row hbt, hOt.kept hkc, hkc.row hZt⟩
            · obtain rfl : t = q := by omega
              have hZ := hZt
              have hK := hKt
              have z0 : wr.cell? ⟨w.heap.size, 0, none⟩ = some (.int .i64 0) := hZ.cell (i := 0) (by omega)
              have z1 : wr.cell? ⟨w.heap.size, 1, none⟩ = some (.int .i64 0) := hZ.cell (i := 1) (by omega)
              have z2 : wr.cell? ⟨w.heap.size, 2, none⟩ = some (.slice none 0 0) := hZ.cell (i := 2) (by omega)
              have z3 : wr.cell? ⟨w.heap.size, 3, none⟩ = some (.slice none 0 0) := hZ.cell (i := 3) (by omega)
              have y0 := hZ.frozen 0
              have y1 := hZ.frozen 1
              have y2 := hZ.frozen 2
              have y3 := hZ.frozen 3
              go_wp2_with fail
              have hZ4 := (((hZ.set 0 (.int .i64 n)).set 1 (.int .i64 k)).set 2 (.slice (some ⟨bd, 0, none⟩) n n)).set 3 (.slice (some ⟨bj, 0, none⟩) n n)
              have hK4 := (((hK.setCell (p := ⟨w.heap.size, 0, none⟩) (Nat.le_refl _) (.int .i64 n)).setCell (p := ⟨w.heap.size, 1, none⟩) (Nat.le_refl _) (.int .i64 k)).setCell (p := ⟨w.heap.size, 2, none⟩) (Nat.le_refl _) (.slice (some ⟨bd, 0, none⟩) n n)).setCell (p := ⟨w.heap.size, 3, none⟩) (Nat.le_refl _) (.slice (some ⟨bj, 0, none⟩) n n)
              have hX4 := ((((KeptX.refl (fun i => i = w.heap.size) wr).setIn 0 (.int .i64 n)).setIn 1 (.int .i64 k)).setIn 2 (.slice (some ⟨bd, 0, none⟩) n n)).setIn 3 (.slice (some ⟨bj, 0, none⟩) n n)
              generalize (((wr.setCell ⟨w.heap.size, 0, none⟩ (.int .i64 n)).setCell ⟨w.heap.size, 1, none⟩ (.int .i64 k)).setCell ⟨w.heap.size, 2, none⟩ (.slice (some ⟨bd, 0, none⟩) n n)).setCell ⟨w.heap.size, 3, none⟩ (.slice (some ⟨bj, 0, none⟩) n n) = W4 at *
              have r0 : W4.cell? ⟨w.heap.size, 0, none⟩ = some (.int .i64 n) := hZ4.cell (i := 0) (by omega)
              have r1 : W4.cell? ⟨w.heap.size, 1, none⟩ = some (.int .i64 k) := hZ4.cell (i := 1) (by omega)
              have r2 : W4.cell? ⟨w.heap.size, 2, none⟩ = some (.slice (some ⟨bd, 0, none⟩) n n) := hZ4.cell (i := 2) (by omega)
              have r3 : W4.cell? ⟨w.heap.size, 3, none⟩ = some (.slice (some ⟨bj, 0, none⟩) n n) := hZ4.cell (i := 3) (by omega)
              refine bodyPost_ret (v := .tuple #[YardV n k bd bj, .int .i64 0]) (by simp [results, Try.results40, go_sem, r0, r1, r2, r3, YardV]) rfl ⟨hK4, ?_⟩
              rw [if_pos HGD.out, if_pos (by rw [Int.toNat_natCast]; exact hT.out), Int.toNat_natCast]
              exact ⟨bd, bj, br, rfl, (hOt.keptB hX4 (fun i hi => by omega)).base (by omega)⟩
  · have hg : goodB n A B m = false := by
      unfold goodB
      have : (decide (2 ≤ n) && decide (n ≤ 8) && decide (m ≤ 20)) = false := by simp; omega
      rw [this]; simp
    go_enter Try.func40, Try.ntmps40
    go_wp2_with fail
    all_goals
      exact bodyPost_ret (v := .tuple #[zeroYard, .int .i64 1]) (by simp [results, Try.results40, go_sem, zeroYard]) rfl ⟨by repeat (first | exact Kept.refl _ | apply Kept.alloc | refine Kept.setCell ?_ (Nat.le_refl _) _), by rw [hg, if_neg (by simp)]⟩
end Go.Proofs.Ytlnpipkhofhlnaa
