/-
  The reference's Steps.
-/
import Derived.Test.YtomnjcjipdnnfaaOd
import Derived.Test.YtomnjcjipdnnfaaRt
import Derived.Deep.DeepCutAuto
namespace Go.Proofs.Ytomnjcjipdnnfaa
open Go.RowKit Go.Deep

theorem Try.infoZ : (Try.prog.info? 60).map (fun i => (i.zero, i.size, i.bytes)) = some (some (.agg #[.bool false, .slice none 0 0]), 2, 32) := by kernel_rfl
theorem Try.infoZs : (Try.prog.info? 105).map (fun i => (i.zero, i.size, i.bytes)) = some (some (.slice none 0 0), 1, 24) := by kernel_rfl
theorem keep7s {w w' W : World} {a1 a2 a3 a4 a5 a6 a7 : Addr} {v1 v2 v3 v4 v5 v6 v7 : Value} {b : Nat} {t : TypeId}
    (h : w.cell? a1 = some v1 ∧ w.cell? a2 = some v2 ∧ w.cell? a3 = some v3 ∧ w.cell? a4 = some v4 ∧ w.cell? a5 = some v5 ∧ w.cell? a6 = some v6 ∧ w.cell? a7 = some v7 ∧ Kept W w ∧ ∃ x y, w.rowIs b t 2 (bx x y)) (k : Kept w w') :
    w'.cell? a1 = some v1 ∧ w'.cell? a2 = some v2 ∧ w'.cell? a3 = some v3 ∧ w'.cell? a4 = some v4 ∧ w'.cell? a5 = some v5 ∧ w'.cell? a6 = some v6 ∧ w'.cell? a7 = some v7 ∧ Kept W w' ∧ ∃ x y, w'.rowIs b t 2 (bx x y) := by
  obtain ⟨h1, h2, h3, h4, h5, h6, h7, h8, x, y, h9⟩ := h
  exact ⟨k.cellSome h1, k.cellSome h2, k.cellSome h3, k.cellSome h4, k.cellSome h5, k.cellSome h6, k.cellSome h7, h8.trans k, x, y, k.row h9⟩
/-- a store into the box -/
theorem keep7b {w W : World} {a1 a2 a3 a4 a5 a6 a7 : Addr} {v1 v2 v3 v4 v5 v6 v7 : Value} {b : Nat} {t : TypeId} (p q : Value)
    (h : w.cell? a1 = some v1 ∧ w.cell? a2 = some v2 ∧ w.cell? a3 = some v3 ∧ w.cell? a4 = some v4 ∧ w.cell? a5 = some v5 ∧ w.cell? a6 = some v6 ∧ w.cell? a7 = some v7 ∧ Kept W w ∧ ∃ x y, w.rowIs b t 2 (bx x y)) (hb : W.heap.size ≤ b)
    (n1 : a1.block ≠ b) (n2 : a2.block ≠ b) (n3 : a3.block ≠ b) (n4 : a4.block ≠ b) (n5 : a5.block ≠ b) (n6 : a6.block ≠ b) (n7 : a7.block ≠ b) :
    let w' := (w.setCell ⟨b, 0, none⟩ p).setCell ⟨b, 1, none⟩ q
    w'.cell? a1 = some v1 ∧ w'.cell? a2 = some v2 ∧ w'.cell? a3 = some v3 ∧ w'.cell? a4 = some v4 ∧ w'.cell? a5 = some v5 ∧ w'.cell? a6 = some v6 ∧ w'.cell? a7 = some v7 ∧ Kept W w' ∧ ∃ x y, w'.rowIs b t 2 (bx x y) := by
  obtain ⟨h1, h2, h3, h4, h5, h6, h7, h8, x, y, h9⟩ := h
  have k : KeptX (fun k => k = b) w ((w.setCell ⟨b, 0, none⟩ p).setCell ⟨b, 1, none⟩ q) := ((KeptX.refl (fun k => k = b) w).setIn 0 p).setIn 1 q
  exact ⟨k.cellSome h1 n1, k.cellSome h2 n2, k.cellSome h3 n3, k.cellSome h4 n4, k.cellSome h5 n5, k.cellSome h6 n6, k.cellSome h7 n7, (h8.setCell hb _).setCell hb _, p, q, bx_set1 (bx_set0 h9 p) q⟩
def rowsV (R : Nat → Value) (k : Nat) : List Value := (List.range k).map R
theorem rowsV_snoc (R : Nat → Value) (k : Nat) (x : Value) : rowsV (fun t => if t = k then x else R t) (k + 1) = rowsV R k ++ [x] := by
  unfold rowsV
  rw [List.range_succ, List.map_append]
  congr 1
  · apply List.map_congr_left
    intro t ht
    have := List.mem_range.1 ht
    have hne : t ≠ k := by omega
    simp [hne]
  · simp
theorem rowsV_get {w : World} {base g cap k : Nat} {t : TypeId} {R : Nat → Value} (h : w.ownsRow base t 1 (.slice (some ⟨g, 0, none⟩) k cap) k (rowsV R k)) {i : Nat} (hi : i < k) : w.cell? ⟨g, i, none⟩ = some (R i) := by
  obtain ⟨a, b, o, c, e, h2, h3⟩ := CellsAt.of_own h
  injection e with e1 e2 e3
  have := h2 (by omega)
  rw [← e1] at this
  injection this with this
  injection this with t1 t2
  subst t1
  subst t2
  have := h3 i hi
  rw [Nat.zero_add] at this
  rw [this]
  simp [rowsV, hi]
theorem news_two (W : World) (x y : Value) (t : TypeId) : ∀ (k : Nat) (u : Value), [x, y][k]? = some u → (W.alloc (.cells #[x, y] t)).cell? ((⟨W.heap.size, 0, none⟩ : Addr).add k) = some u := fun k u h => by
  have : k = 0 ∨ k = 1 := by
    rcases Nat.lt_or_ge k 2 with e | e
    · omega
    · rw [List.getElem?_eq_none (by simp; omega)] at h; cases h
  rcases this with rfl | rfl <;> (cases h; rw [add_at]; unfold World.cell?; dsimp only; rw [blk_alloc_new]; rfl)
theorem entZ_val {w : World} {e : Value × Value} {z : Int} (h : EntZ w e z) : ∃ (m : Bool) (a : Option Addr) (l c : Nat), e.1 = .bool m ∧ e.2 = .slice a l c ∧ ZAt w (.agg #[.bool m, .slice a l c]) z := by
  obtain ⟨m, a, l, c, rfl, h, _⟩ := h
  exact ⟨m, a, l, c, rfl, rfl, h⟩
set_option maxRecDepth 100000 in
set_option maxHeartbeats 16000000 in
theorem rSteps_any (w : World) (m n : Nat) (hm : 1 ≤ m) (hn : 1 ≤ n) (hm2 : m ≤ 30) (hn2 : n ≤ 30) :
    Calls Try.prog 36 #[.int .i64 m, .int .i64 n] w (ZPost w (del (m - 1) (n - 1))) := by
  obtain ⟨i0, hi, hz0, hz1, hz2⟩ := info_parts Try.infoZ
  obtain ⟨i0s, his, hzs0, hzs1, hzs2⟩ := info_parts Try.infoZs
  have hA0 := box_row w (.bool false) (.slice none 0 0) 60 w.heap.size rfl
  have hk0 : Kept w (w.alloc (.cells #[.bool false, .slice none 0 0] 60)) := (Kept.refl w).alloc _
  have hw0 : (w.alloc (.cells #[.bool false, .slice none 0 0] 60)).heap.size = w.heap.size + 1 := by simp
  go_enter Try.func36, Try.ntmps36
  go_wp2_with fail
  obtain ⟨B0, HB0⟩ : ∃ B0, Hid (B0 = w.heap.size + 1) := ⟨_, rfl⟩
  obtain ⟨r0, HR0⟩ : ∃ r0, Hid (r0 = w.heap.size) := ⟨_, rfl⟩
  have hOr := own_zeroT (w.alloc (.cells #[.bool false, .slice none 0 0] 60)) B0 105 1 (by rw [HB0.out, hw0]; exact Nat.le_refl _)
  rw [hw0, ← HB0.out] at hOr
  rw [← HB0.out] at hw0 ⊢
  rw [← HR0.out] at hA0 ⊢
  have hwr0 : w.heap.size ≤ r0 := by rw [HR0.out]; exact Nat.le_refl _
  have hr0B : r0 < B0 := by rw [HR0.out, HB0.out]; omega
  have hrow0 := ((Kept.refl _).alloc (.cells #[] 105)).row hA0
  have hKa := hk0.alloc (.cells #[] 105)
  have hsz0 : B0 ≤ ((w.alloc (.cells #[.bool false, .slice none 0 0] 60)).alloc (.cells #[] 105)).heap.size := by have := HB0.out; simp; omega
  generalize (w.alloc (.cells #[.bool false, .slice none 0 0] 60)).alloc (.cells #[] 105) = W0 at *
  clear hA0 hk0 hw0
  go_loopg [5, 6] m (fun g s5 s6 wr => ∃ (i gr rcap : Nat) (R : Nat → Value), i ≤ m ∧ g = m - i ∧ s6 = .int .i64 i ∧ s5 = .slice (some ⟨gr, 0, none⟩) i rcap ∧ B0 ≤ gr ∧ Kept w wr ∧ B0 ≤ wr.heap.size ∧ wr.rowIs r0 60 2 (bx (.bool false) (.slice none 0 0)) ∧ wr.ownsRow B0 105 1 (.slice (some ⟨gr, 0, none⟩) i rcap) i (rowsV R i) ∧ Hid (∀ t, t < i → RowAt wr (R t) n (fun j => del t j)))
  case atStart => exact ⟨0, B0, 0, fun _ => .bool false, Nat.zero_le _, rfl, rfl, rfl, Nat.le_refl _, hKa, hsz0, hrow0, hOr, fun t h => absurd h (by omega)⟩
  case round =>
    clear hOr hrow0 hKa hsz0
    obtain ⟨i, gr, rcap, R, him, rfl, rfl, rfl, hgr, hK, hsz, hrow, hOR, hRA⟩ := hrel
    by_cases hlt : i < m
    · have hOc0 := own_zeroT wr wr.heap.size 60 2 (Nat.le_refl _)
      have hkc : Kept wr (wr.alloc (.cells #[] 60)) := (Kept.refl wr).alloc _
      have hszc : wr.heap.size ≤ (wr.alloc (.cells #[] 60)).heap.size := by simp
      have hRL := hRA.out
      clear hRA
      go_wp2_with fail
      generalize wr.alloc (.cells #[] 60) = W1 at *
      obtain ⟨B1, HB1⟩ : ∃ B1, Hid (B1 = wr.heap.size) := ⟨_, rfl⟩
      rw [← HB1.out] at hOc0 hszc ⊢
      have hB01 : B0 ≤ B1 := by rw [HB1.out]; exact hsz
      have HRL := Lib.hid hRL
      clear hRL
      obtain ⟨Wo, rfl⟩ : ∃ Wo : World, Wo = wr := ⟨_, rfl⟩
      go_loopg [7, 8] n (fun g s7 s8 wi => ∃ (j g' gc : Nat) (E : Nat → Value × Value), j ≤ n ∧ g = n - j ∧ s8 = .int .i64 j ∧ s7 = .slice (some ⟨g', 0, none⟩) j gc ∧ B1 ≤ g' ∧ Kept Wo wi ∧ B1 ≤ wi.heap.size ∧ wi.ownsRow B1 60 2 (.slice (some ⟨g', 0, none⟩) j gc) j (zl E j) ∧ Hid (∀ t, t < j → EntZ wi (E t) (del i t)))
      case atStart => exact ⟨0, B1, 0, fun _ => (.bool false, .bool false), Nat.zero_le _, rfl, rfl, rfl, Nat.le_refl _, hkc, hszc, hOc0, fun t h => absurd h (by omega)⟩
      case round =>
        clear hOc0 hkc hszc
        obtain ⟨j, g, gc, E, hjn, rfl, rfl, rfl, hg, hK1, hsz1, hO, hE⟩ := hrel
        by_cases hlt2 : j < n
        · have INT := Lib.hid (fun (W : World) => Int_posT W 1 (by omega) (by decide))
          by_cases hgo : 0 < i ∧ 0 < j
          · obtain ⟨hi0, hj0⟩ := hgo
            have s1 : (0 : Int) < (i : Int) := by omega
            have s2 : (0 : Int) < (j : Int) := by omega
            obtain ⟨pg, pcap, pN, pf, PE, hR1, hpr, hpe⟩ := HRL.out (i - 1) (by omega)
            have x0 := hK1.cellSome (rowsV_get hOR (show i - 1 < i by omega))
            rw [hR1] at x0
            obtain ⟨p1, p2, p3, p4⟩ := hpe j hlt2
            obtain ⟨m1, a1, l1, c1, e1, z1, _⟩ := p4
            rw [e1] at p2 p3
            obtain ⟨q1, q2, q3, q4⟩ := hpe (j - 1) (by omega)
            obtain ⟨m3, a3, l3, c3, e3, z3, _⟩ := q4
            rw [e3] at q2 q3
            obtain ⟨m2, a2, l2, c2, e2, z2, _⟩ := hE.out (j - 1) (by omega)
            obtain ⟨rN, rf, hrr, hre⟩ := own_row2 hO
            obtain ⟨t1, t2, t3⟩ := hre (j - 1) (by omega)
            rw [e2] at t2 t3
            have x1 := hK1.cellSome (hpr.cell (i := j * 2) (by omega))
            have x2 := hK1.cellSome (hpr.cell (i := j * 2 + 1) (by omega))
            have x3 := hrr.cell (i := (j - 1) * 2) (by omega)
            have x4 := hrr.cell (i := (j - 1) * 2 + 1) (by omega)
            have x5 := hK1.cellSome (hpr.cell (i := (j - 1) * 2) (by omega))
            have x6 := hK1.cellSome (hpr.cell (i := (j - 1) * 2 + 1) (by omega))
            rw [p2] at x1
            rw [p3] at x2
            rw [t2] at x3
            rw [t3] at x4
            rw [q2] at x5
            rw [q3] at x6
            have u1 := del_lt (i := i - 1) (j := j) (by omega) (by omega)
            have u2 := del_lt (i := i) (j := j - 1) (by omega) (by omega)
            have u3 := del_lt (i := i - 1) (j := j - 1) (by omega) (by omega)
            have us : Hid (del i j = del (i - 1) j + del i (j - 1) + del (i - 1) (j - 1)) := by
              have := del_ss (i - 1) (j - 1)
              rw [show i - 1 + 1 = i by omega, show j - 1 + 1 = j by omega] at this
              exact this
            have hB1' : Big (del (i - 1) j + del i (j - 1)) := big_of (by omega) (by omega)
            have hB2' : Big (del (i - 1) j + del i (j - 1) + del (i - 1) (j - 1)) := big_of (by omega) (by omega)
            have hlg : g < wr.heap.size := hrr.lt
            have hlp : pg < wr.heap.size := (hK1.row hpr).lt
            have hlr : gr < wr.heap.size := by
              obtain ⟨_, _, hq⟩ := own_rowIs hOR
              exact (hK1.row hq).lt
            have ec1 : IntKind.i64.wrap ((i : Int) - 1) = ((i - 1 : Nat) : Int) := by rw [IntWalk.i64_in _ (by omega)]; omega
            have ec2 : IntKind.i64.wrap ((j : Int) - 1) = ((j - 1 : Nat) : Int) := by rw [IntWalk.i64_in _ (by omega)]; omega
            have n1 : i - 1 < i := by omega
            have n2 : j - 1 < j := by omega
            have n3 : j - 1 < n := by omega
            have n4 : ((i - 1 : Nat) : Int) < (i : Int) := by omega
            have n5 : ((j - 1 : Nat) : Int) < (j : Int) := by omega
            have n6 : ((j - 1 : Nat) : Int) < (n : Int) := by omega
            have AD1' := Lib.hid (fun (W : World) (u v : Value) (hk : Kept wr W) (q1 : u = .agg #[.bool m1, .slice a1 l1 c1]) (q2 : v = .agg #[.bool m2, .slice a2 l2 c2]) => (show Calls Try.prog 63 #[u, v] W (ZPostT W (del (i - 1) j + del i (j - 1))) by subst q1; subst q2; exact Add_ty W _ _ _ _ (z1.kept (hK1.trans hk)) (z2.kept hk) hB1'))
            have AD2' := Lib.hid (fun (W : World) (u v : Value) (hk : Kept wr W) (q2 : v = .agg #[.bool m3, .slice a3 l3 c3]) (hu : ZAt W u (del (i - 1) j + del i (j - 1))) => (show Calls Try.prog 63 #[u, v] W (ZPostT W (del (i - 1) j + del i (j - 1) + del (i - 1) (j - 1))) by subst q2; exact Add_ty W _ _ _ _ hu (z3.kept (hK1.trans hk)) hB2'))
            clear hR1 hpr hpe p1 p2 p3 q1 q2 q3 t1 t2 t3 hrr hre z1 z2 z3 u1 u2 u3 hB1' hB2'
            go_upto_region 11 with (first | (go_at_call 37; refine (INT.out _).mono ?_; rintro e w2 ⟨v1, rfl, hz1', ⟨mv, av, lv, cv, rfl, ht1⟩, hk2⟩))
            have hb3 := box_row w2 (.bool mv) (.slice av lv cv) 60 w2.heap.size rfl
            have hkb : Kept w2 (w2.alloc (.cells #[.bool mv, .slice av lv cv] 60)) := (Kept.refl w2).alloc _
            obtain ⟨b, HBB⟩ : ∃ b, Hid (b = w2.heap.size) := ⟨_, rfl⟩
            rw [← HBB.out] at hb3 ⊢
            have hbb : w2.heap.size ≤ b := by rw [HBB.out]; exact Nat.le_refl _
            have hwb : wr.heap.size ≤ b := Nat.le_trans hk2.size hbb
            have hk2b := hk2.trans hkb
            have hS3 : (w2.alloc (.cells #[.bool mv, .slice av lv cv] 60)).cell? ⟨gr, (i - 1), none⟩ = some (.slice (some ⟨pg, 0, none⟩) n pcap) ∧ (w2.alloc (.cells #[.bool mv, .slice av lv cv] 60)).cell? ⟨pg, j * 2, none⟩ = some (.bool m1) ∧ (w2.alloc (.cells #[.bool mv, .slice av lv cv] 60)).cell? ⟨pg, j * 2 + 1, none⟩ = some (.slice a1 l1 c1) ∧ (w2.alloc (.cells #[.bool mv, .slice av lv cv] 60)).cell? ⟨g, (j - 1) * 2, none⟩ = some (.bool m2) ∧ (w2.alloc (.cells #[.bool mv, .slice av lv cv] 60)).cell? ⟨g, (j - 1) * 2 + 1, none⟩ = some (.slice a2 l2 c2) ∧ (w2.alloc (.cells #[.bool mv, .slice av lv cv] 60)).cell? ⟨pg, (j - 1) * 2, none⟩ = some (.bool m3) ∧ (w2.alloc (.cells #[.bool mv, .slice av lv cv] 60)).cell? ⟨pg, (j - 1) * 2 + 1, none⟩ = some (.slice a3 l3 c3) ∧ Kept w2 (w2.alloc (.cells #[.bool mv, .slice av lv cv] 60)) ∧ ∃ x y, (w2.alloc (.cells #[.bool mv, .slice av lv cv] 60)).rowIs b 60 2 (bx x y) := ⟨hk2b.cellSome x0, hk2b.cellSome x1, hk2b.cellSome x2, hk2b.cellSome x3, hk2b.cellSome x4, hk2b.cellSome x5, hk2b.cellSome x6, hkb, _, _, hb3⟩
            have AD1 := Lib.hid (fun (W : World) (u v : Value) (q1 : u = .agg #[.bool m1, .slice a1 l1 c1]) (q2 : v = .agg #[.bool m2, .slice a2 l2 c2]) (hk : Kept w2 W) => AD1'.out W u v (hk2.trans hk) q1 q2)
            have AD2 := Lib.hid (fun (W : World) (u v : Value) (q2 : v = .agg #[.bool m3, .slice a3 l3 c3]) (hu : ZAt W u (del (i - 1) j + del i (j - 1))) (hk : Kept w2 W) => AD2'.out W u v (hk2.trans hk) q2 hu)
            generalize (w2.alloc (.cells #[.bool mv, .slice av lv cv] 60)) = W3 at *
            clear x0 x1 x2 x3 x4 x5 x6 hb3 hkb hk2b hz1' ht1 AD1' AD2'
            refine wp_region_held_drew (S := (fun w' => w'.cell? ⟨gr, (i - 1), none⟩ = some (.slice (some ⟨pg, 0, none⟩) n pcap) ∧ w'.cell? ⟨pg, j * 2, none⟩ = some (.bool m1) ∧ w'.cell? ⟨pg, j * 2 + 1, none⟩ = some (.slice a1 l1 c1) ∧ w'.cell? ⟨g, (j - 1) * 2, none⟩ = some (.bool m2) ∧ w'.cell? ⟨g, (j - 1) * 2 + 1, none⟩ = some (.slice a2 l2 c2) ∧ w'.cell? ⟨pg, (j - 1) * 2, none⟩ = some (.bool m3) ∧ w'.cell? ⟨pg, (j - 1) * 2 + 1, none⟩ = some (.slice a3 l3 c3) ∧ Kept w2 w' ∧ ∃ x y, w'.rowIs b 60 2 (bx x y))) (by kernel_rfl) ?_ (fun hHeld => ?_)
            · (try dsimp only)
              first | exact keep7s hS3 (by repeat (first | assumption | exact Kept.refl _ | apply Kept.drew | apply Kept.drewN | apply Kept.alloc | refine Kept.trans ?_ (by assumption))) | exact keep7s hHeld (by repeat (first | assumption | exact Kept.refl _ | apply Kept.drew | apply Kept.drewN | apply Kept.alloc | refine Kept.trans ?_ (by assumption)))
            refine wpAnyH_take (i := 0) (oi := { dst := some 29, op := Go.Op.move (Go.Operand.tmp 5), type := 104, pos := "ref.go:189", after := #[], guard := none }) (v := ?v23) rfl (by kernel_rfl) (by kernel_rfl) (by kernel_rfl) (fun _ _ _ h => h) (Or.inl ⟨by rfl, ?hy23⟩) (by assumption) ?rs23
            case hy23 =>
              intro w hSw
              (try dsimp only at hSw)
              go_simp
              try with_reducible rfl
            (try simp only [Act.put, List.setIfInBounds_toArray, List.set_cons_zero, List.set_cons_succ])
            refine wpAnyH_take (i := 1) (oi := { dst := some 30, op := Go.Op.move (Go.Operand.tmp 6), type := 3, pos := "ref.go:189", after := #[], guard := none }) (v := ?v24) rfl (by kernel_rfl) (by kernel_rfl) (by kernel_rfl) (fun _ _ _ h => h) (Or.inl ⟨by rfl, ?hy24⟩) (by assumption) ?rs24
            case hy24 =>
              intro w hSw
              (try dsimp only at hSw)
              go_simp
              try with_reducible rfl
            (try simp only [Act.put, List.setIfInBounds_toArray, List.set_cons_zero, List.set_cons_succ])
            refine wpAnyH_take (i := 2) (oi := { dst := some 31, op := Go.Op.binOp Go.BinOp.sub 3 (Go.Operand.tmp 30) (Go.Operand.const (Go.Value.int Go.IntKind.i64 1)) 3, type := 3, pos := "ref.go:189", after := #[{ on := 1, ground := Go.Ground.data }], guard := none }) (v := ?v25) rfl (by kernel_rfl) (by kernel_rfl) (by kernel_rfl) (fun _ _ _ h => h) (Or.inl ⟨by rfl, ?hy25⟩) (by assumption) ?rs25
            case hy25 =>
              intro w hSw
              (try dsimp only at hSw)
              go_simp
              try with_reducible rfl
            (try simp only [Act.put, List.setIfInBounds_toArray, List.set_cons_zero, List.set_cons_succ])
            refine wpAnyH_take (i := 3) (oi := { dst := some 32, op := Go.Op.indexAddr 104 (Go.Operand.tmp 29) (Go.Operand.tmp 31), type := 0, pos := "ref.go:189", after := #[{ on := 0, ground := Go.Ground.data }, { on := 2, ground := Go.Ground.data }], guard := none }) (v := ?v26) rfl (by kernel_rfl) (by kernel_rfl) (by kernel_rfl) (fun _ _ _ h => h) (Or.inl ⟨by rfl, ?hy26⟩) (by assumption) ?rs26
            case hy26 =>
              intro w hSw
              (try dsimp only at hSw)
              go_simp
              try with_reducible rfl
            (try simp only [Act.put, List.setIfInBounds_toArray, List.set_cons_zero, List.set_cons_succ])
            refine wpAnyH_take (i := 4) (oi := { dst := some 33, op := Go.Op.load 105 (Go.Operand.tmp 32), type := 105, pos := "ref.go:189", after := #[{ on := 3, ground := Go.Ground.data }], guard := none }) (v := ?v27) rfl (by kernel_rfl) (by kernel_rfl) (by kernel_rfl) (fun _ _ _ h => h) (Or.inl ⟨by rfl, ?hy27⟩) (by assumption) ?rs27
            case hy27 =>
              intro w hSw
              (try dsimp only at hSw)
              go_simp
              try with_reducible rfl
            (try simp only [Act.put, List.setIfInBounds_toArray, List.set_cons_zero, List.set_cons_succ])
            refine wpAnyH_take (i := 5) (oi := { dst := some 34, op := Go.Op.move (Go.Operand.tmp 8), type := 3, pos := "ref.go:189", after := #[], guard := none }) (v := ?v28) rfl (by kernel_rfl) (by kernel_rfl) (by kernel_rfl) (fun _ _ _ h => h) (Or.inl ⟨by rfl, ?hy28⟩) (by assumption) ?rs28
            case hy28 =>
              intro w hSw
              (try dsimp only at hSw)
              go_simp
              try with_reducible rfl
            (try simp only [Act.put, List.setIfInBounds_toArray, List.set_cons_zero, List.set_cons_succ])
            refine wpAnyH_take (i := 6) (oi := { dst := some 35, op := Go.Op.indexAddr 105 (Go.Operand.tmp 33) (Go.Operand.tmp 34), type := 0, pos := "ref.go:189", after := #[{ on := 4, ground := Go.Ground.data }, { on := 5, ground := Go.Ground.data }], guard := none }) (v := ?v29) rfl (by kernel_rfl) (by kernel_rfl) (by kernel_rfl) (fun _ _ _ h => h) (Or.inl ⟨by rfl, ?hy29⟩) (by assumption) ?rs29
            case hy29 =>
              intro w hSw
              (try dsimp only at hSw)
              go_simp
              try with_reducible rfl
            (try simp only [Act.put, List.setIfInBounds_toArray, List.set_cons_zero, List.set_cons_succ])
            refine wpAnyH_take (i := 7) (oi := { dst := some 36, op := Go.Op.load 60 (Go.Operand.tmp 35), type := 60, pos := "ref.go:189", after := #[{ on := 6, ground := Go.Ground.data }], guard := none }) (v := ?v30) rfl (by kernel_rfl) (by kernel_rfl) (by kernel_rfl) (fun _ _ _ h => h) (Or.inl ⟨by rfl, ?hy30⟩) (by assumption) ?rs30
            case hy30 =>
              intro w hSw
              (try dsimp only at hSw)
              go_simp
              try with_reducible rfl
            (try simp only [Act.put, List.setIfInBounds_toArray, List.set_cons_zero, List.set_cons_succ])
            refine wpAnyH_take (i := 8) (oi := { dst := some 37, op := Go.Op.move (Go.Operand.tmp 7), type := 105, pos := "ref.go:189", after := #[], guard := none }) (v := ?v31) rfl (by kernel_rfl) (by kernel_rfl) (by kernel_rfl) (fun _ _ _ h => h) (Or.inl ⟨by rfl, ?hy31⟩) (by assumption) ?rs31
            case hy31 =>
              intro w hSw
              (try dsimp only at hSw)
              go_simp
              try with_reducible rfl
            (try simp only [Act.put, List.setIfInBounds_toArray, List.set_cons_zero, List.set_cons_succ])
            refine wpAnyH_take (i := 9) (oi := { dst := some 38, op := Go.Op.move (Go.Operand.tmp 8), type := 3, pos := "ref.go:189", after := #[], guard := none }) (v := ?v32) rfl (by kernel_rfl) (by kernel_rfl) (by kernel_rfl) (fun _ _ _ h => h) (Or.inl ⟨by rfl, ?hy32⟩) (by assumption) ?rs32
            case hy32 =>
              intro w hSw
              (try dsimp only at hSw)
              go_simp
              try with_reducible rfl
            (try simp only [Act.put, List.setIfInBounds_toArray, List.set_cons_zero, List.set_cons_succ])
            refine wpAnyH_take (i := 10) (oi := { dst := some 39, op := Go.Op.binOp Go.BinOp.sub 3 (Go.Operand.tmp 38) (Go.Operand.const (Go.Value.int Go.IntKind.i64 1)) 3, type := 3, pos := "ref.go:189", after := #[{ on := 9, ground := Go.Ground.data }], guard := none }) (v := ?v33) rfl (by kernel_rfl) (by kernel_rfl) (by kernel_rfl) (fun _ _ _ h => h) (Or.inl ⟨by rfl, ?hy33⟩) (by assumption) ?rs33
            case hy33 =>
              intro w hSw
              (try dsimp only at hSw)
              go_simp
              try with_reducible rfl
            (try simp only [Act.put, List.setIfInBounds_toArray, List.set_cons_zero, List.set_cons_succ])
            refine wpAnyH_take (i := 11) (oi := { dst := some 40, op := Go.Op.indexAddr 105 (Go.Operand.tmp 37) (Go.Operand.tmp 39), type := 0, pos := "ref.go:189", after := #[{ on := 8, ground := Go.Ground.data }, { on := 10, ground := Go.Ground.data }], guard := none }) (v := ?v34) rfl (by kernel_rfl) (by kernel_rfl) (by kernel_rfl) (fun _ _ _ h => h) (Or.inl ⟨by rfl, ?hy34⟩) (by assumption) ?rs34
            case hy34 =>
              intro w hSw
              (try dsimp only at hSw)
              go_simp
              try with_reducible rfl
            (try simp only [Act.put, List.setIfInBounds_toArray, List.set_cons_zero, List.set_cons_succ])
            refine wpAnyH_take (i := 12) (oi := { dst := some 41, op := Go.Op.load 60 (Go.Operand.tmp 40), type := 60, pos := "ref.go:189", after := #[{ on := 11, ground := Go.Ground.data }], guard := none }) (v := ?v35) rfl (by kernel_rfl) (by kernel_rfl) (by kernel_rfl) (fun _ _ _ h => h) (Or.inl ⟨by rfl, ?hy35⟩) (by assumption) ?rs35
            case hy35 =>
              intro w hSw
              (try dsimp only at hSw)
              go_simp
              try with_reducible rfl
            (try simp only [Act.put, List.setIfInBounds_toArray, List.set_cons_zero, List.set_cons_succ])
            refine wpAnyH_take (i := 14) (oi := { dst := some 43, op := Go.Op.move (Go.Operand.tmp 5), type := 104, pos := "ref.go:189", after := #[], guard := none }) (v := ?v36) rfl (by kernel_rfl) (by kernel_rfl) (by kernel_rfl) (fun _ _ _ h => h) (Or.inl ⟨by rfl, ?hy36⟩) (by assumption) ?rs36
            case hy36 =>
              intro w hSw
              (try dsimp only at hSw)
              go_simp
              try with_reducible rfl
            (try simp only [Act.put, List.setIfInBounds_toArray, List.set_cons_zero, List.set_cons_succ])
            refine wpAnyH_take (i := 15) (oi := { dst := some 44, op := Go.Op.move (Go.Operand.tmp 6), type := 3, pos := "ref.go:189", after := #[], guard := none }) (v := ?v37) rfl (by kernel_rfl) (by kernel_rfl) (by kernel_rfl) (fun _ _ _ h => h) (Or.inl ⟨by rfl, ?hy37⟩) (by assumption) ?rs37
            case hy37 =>
              intro w hSw
              (try dsimp only at hSw)
              go_simp
              try with_reducible rfl
            (try simp only [Act.put, List.setIfInBounds_toArray, List.set_cons_zero, List.set_cons_succ])
            refine wpAnyH_take (i := 16) (oi := { dst := some 45, op := Go.Op.binOp Go.BinOp.sub 3 (Go.Operand.tmp 44) (Go.Operand.const (Go.Value.int Go.IntKind.i64 1)) 3, type := 3, pos := "ref.go:189", after := #[{ on := 15, ground := Go.Ground.data }], guard := none }) (v := ?v38) rfl (by kernel_rfl) (by kernel_rfl) (by kernel_rfl) (fun _ _ _ h => h) (Or.inl ⟨by rfl, ?hy38⟩) (by assumption) ?rs38
            case hy38 =>
              intro w hSw
              (try dsimp only at hSw)
              go_simp
              try with_reducible rfl
            (try simp only [Act.put, List.setIfInBounds_toArray, List.set_cons_zero, List.set_cons_succ])
            refine wpAnyH_take (i := 17) (oi := { dst := some 46, op := Go.Op.indexAddr 104 (Go.Operand.tmp 43) (Go.Operand.tmp 45), type := 0, pos := "ref.go:189", after := #[{ on := 14, ground := Go.Ground.data }, { on := 16, ground := Go.Ground.data }], guard := none }) (v := ?v39) rfl (by kernel_rfl) (by kernel_rfl) (by kernel_rfl) (fun _ _ _ h => h) (Or.inl ⟨by rfl, ?hy39⟩) (by assumption) ?rs39
            case hy39 =>
              intro w hSw
              (try dsimp only at hSw)
              go_simp
              try with_reducible rfl
            (try simp only [Act.put, List.setIfInBounds_toArray, List.set_cons_zero, List.set_cons_succ])
            refine wpAnyH_take (i := 18) (oi := { dst := some 47, op := Go.Op.load 105 (Go.Operand.tmp 46), type := 105, pos := "ref.go:189", after := #[{ on := 17, ground := Go.Ground.data }], guard := none }) (v := ?v40) rfl (by kernel_rfl) (by kernel_rfl) (by kernel_rfl) (fun _ _ _ h => h) (Or.inl ⟨by rfl, ?hy40⟩) (by assumption) ?rs40
            case hy40 =>
              intro w hSw
              (try dsimp only at hSw)
              go_simp
              try with_reducible rfl
            (try simp only [Act.put, List.setIfInBounds_toArray, List.set_cons_zero, List.set_cons_succ])
            refine wpAnyH_take (i := 19) (oi := { dst := some 48, op := Go.Op.move (Go.Operand.tmp 8), type := 3, pos := "ref.go:189", after := #[], guard := none }) (v := ?v41) rfl (by kernel_rfl) (by kernel_rfl) (by kernel_rfl) (fun _ _ _ h => h) (Or.inl ⟨by rfl, ?hy41⟩) (by assumption) ?rs41
            case hy41 =>
              intro w hSw
              (try dsimp only at hSw)
              go_simp
              try with_reducible rfl
            (try simp only [Act.put, List.setIfInBounds_toArray, List.set_cons_zero, List.set_cons_succ])
            refine wpAnyH_take (i := 20) (oi := { dst := some 49, op := Go.Op.binOp Go.BinOp.sub 3 (Go.Operand.tmp 48) (Go.Operand.const (Go.Value.int Go.IntKind.i64 1)) 3, type := 3, pos := "ref.go:189", after := #[{ on := 19, ground := Go.Ground.data }], guard := none }) (v := ?v42) rfl (by kernel_rfl) (by kernel_rfl) (by kernel_rfl) (fun _ _ _ h => h) (Or.inl ⟨by rfl, ?hy42⟩) (by assumption) ?rs42
            case hy42 =>
              intro w hSw
              (try dsimp only at hSw)
              go_simp
              try with_reducible rfl
            (try simp only [Act.put, List.setIfInBounds_toArray, List.set_cons_zero, List.set_cons_succ])
            refine wpAnyH_take (i := 21) (oi := { dst := some 50, op := Go.Op.indexAddr 105 (Go.Operand.tmp 47) (Go.Operand.tmp 49), type := 0, pos := "ref.go:189", after := #[{ on := 18, ground := Go.Ground.data }, { on := 20, ground := Go.Ground.data }], guard := none }) (v := ?v43) rfl (by kernel_rfl) (by kernel_rfl) (by kernel_rfl) (fun _ _ _ h => h) (Or.inl ⟨by rfl, ?hy43⟩) (by assumption) ?rs43
            case hy43 =>
              intro w hSw
              (try dsimp only at hSw)
              go_simp
              try with_reducible rfl
            (try simp only [Act.put, List.setIfInBounds_toArray, List.set_cons_zero, List.set_cons_succ])
            refine wpAnyH_take (i := 22) (oi := { dst := some 51, op := Go.Op.load 60 (Go.Operand.tmp 50), type := 60, pos := "ref.go:189", after := #[{ on := 21, ground := Go.Ground.data }], guard := none }) (v := ?v44) rfl (by kernel_rfl) (by kernel_rfl) (by kernel_rfl) (fun _ _ _ h => h) (Or.inl ⟨by rfl, ?hy44⟩) (by assumption) ?rs44
            case hy44 =>
              intro w hSw
              (try dsimp only at hSw)
              go_simp
              try with_reducible rfl
            (try simp only [Act.put, List.setIfInBounds_toArray, List.set_cons_zero, List.set_cons_succ])
            refine wpAnyH_ready (rs := [13]) (by kernel_rfl) (by simp) ?_
            refine AllReadyH.cons (o := { dst := some 42, op := Go.Op.call { callee := Go.Callee.value (Go.Operand.func 63), args := #[Go.Operand.tmp 36, Go.Operand.tmp 41], argTypes := #[60, 60] }, type := 60, pos := "ref.go:189", after := #[{ on := 7, ground := Go.Ground.data }, { on := 12, ground := Go.Ground.data }], guard := none }) rfl (fun K2 hK2 => ?_) AllReadyH.nil
            go_simp
            (go_at_call 63; refine (AD1.out _ _ _ (by rfl) (by rfl) (hHeld.2.2.2.2.2.2.2.1.trans (by repeat (first | assumption | exact Kept.refl _ | apply Kept.drew | apply Kept.drewN | apply Kept.alloc | refine Kept.trans ?_ (by assumption))))).mono ?_; rintro e w5 ⟨v4, rfl, hz4, ⟨m4, a4, l4, c4, rfl, ht4⟩, hk5⟩)
            go_wp2_with fail
            refine hK2.out _ _ ?_ (fun hHeld => ?_)
            · (try dsimp only)
              first | exact keep7s hS3 (by repeat (first | assumption | exact Kept.refl _ | apply Kept.drew | apply Kept.drewN | apply Kept.alloc | refine Kept.trans ?_ (by assumption))) | exact keep7s hHeld (by repeat (first | assumption | exact Kept.refl _ | apply Kept.drew | apply Kept.drewN | apply Kept.alloc | refine Kept.trans ?_ (by assumption)))
            clear hK2 K2
            (try simp only [Act.put, List.setIfInBounds_toArray, List.set_cons_zero, List.set_cons_succ])
            refine wpAnyH_ready (rs := [23]) (by kernel_rfl) (by simp) ?_
            refine AllReadyH.cons (o := { dst := some 52, op := Go.Op.call { callee := Go.Callee.value (Go.Operand.func 63), args := #[Go.Operand.tmp 42, Go.Operand.tmp 51], argTypes := #[60, 60] }, type := 60, pos := "ref.go:189", after := #[{ on := 13, ground := Go.Ground.data }, { on := 22, ground := Go.Ground.data }, { on := 13, ground := Go.Ground.chain }], guard := none }) rfl (fun K2 hK2 => ?_) AllReadyH.nil
            go_simp
            (go_at_call 63; refine (AD2.out _ _ _ (by rfl) (hz4.kept (by repeat (first | assumption | exact Kept.refl _ | apply Kept.drew | apply Kept.drewN | apply Kept.alloc | refine Kept.trans ?_ (by assumption)))) (hHeld.2.2.2.2.2.2.2.1.trans (by repeat (first | assumption | exact Kept.refl _ | apply Kept.drew | apply Kept.drewN | apply Kept.alloc | refine Kept.trans ?_ (by assumption))))).mono ?_; rintro e w6 ⟨v5, rfl, hz5, ⟨m5, a5, l5, c5, rfl, ht5⟩, hk6⟩)
            go_wp2_with fail
            refine hK2.out _ _ ?_ (fun hHeld => ?_)
            · (try dsimp only)
              first | exact keep7s hS3 (by repeat (first | assumption | exact Kept.refl _ | apply Kept.drew | apply Kept.drewN | apply Kept.alloc | refine Kept.trans ?_ (by assumption))) | exact keep7s hHeld (by repeat (first | assumption | exact Kept.refl _ | apply Kept.drew | apply Kept.drewN | apply Kept.alloc | refine Kept.trans ?_ (by assumption)))
            clear hK2 K2
            (try simp only [Act.put, List.setIfInBounds_toArray, List.set_cons_zero, List.set_cons_succ])
            refine wpAnyH_ready (rs := [24]) (by kernel_rfl) (by simp) ?_
            refine AllReadyH.cons (o := { dst := none, op := Go.Op.store 60 (Go.Operand.tmp 9) (Go.Operand.tmp 52), type := 0, pos := "ref.go:189", after := #[{ on := 23, ground := Go.Ground.data }, { on := 23, ground := Go.Ground.chain }, { on := 0, ground := Go.Ground.phase }, { on := 1, ground := Go.Ground.phase }, { on := 2, ground := Go.Ground.phase }, { on := 3, ground := Go.Ground.phase }, { on := 4, ground := Go.Ground.phase }, { on := 5, ground := Go.Ground.phase }, { on := 6, ground := Go.Ground.phase }, { on := 7, ground := Go.Ground.phase }, { on := 8, ground := Go.Ground.phase }, { on := 9, ground := Go.Ground.phase }, { on := 10, ground := Go.Ground.phase }, { on := 11, ground := Go.Ground.phase }, { on := 12, ground := Go.Ground.phase }, { on := 13, ground := Go.Ground.phase }, { on := 14, ground := Go.Ground.phase }, { on := 15, ground := Go.Ground.phase }, { on := 16, ground := Go.Ground.phase }, { on := 17, ground := Go.Ground.phase }, { on := 18, ground := Go.Ground.phase }, { on := 19, ground := Go.Ground.phase }, { on := 20, ground := Go.Ground.phase }, { on := 21, ground := Go.Ground.phase }, { on := 22, ground := Go.Ground.phase }, { on := 23, ground := Go.Ground.phase }], guard := none }) rfl (fun K2 hK2 => ?_) AllReadyH.nil
            obtain ⟨bq0, bq1, hbr⟩ := hHeld.2.2.2.2.2.2.2.2
            obtain ⟨b0, b1, b2, b3⟩ := bx_cells hbr
            go_simp
            go_wp2_with fail
            refine hK2.out _ _ ?_ (fun hHeld2 => ?_)
            · (try dsimp only)
              exact keep7b (.bool m5) (.slice a5 l5 c5) hHeld hbb (by show gr ≠ b; omega) (by show pg ≠ b; omega) (by show pg ≠ b; omega) (by show g ≠ b; omega) (by show g ≠ b; omega) (by show pg ≠ b; omega) (by show pg ≠ b; omega)
            clear hK2 K2
            (try simp only [Act.put, List.setIfInBounds_toArray, List.set_cons_zero, List.set_cons_succ])
            refine wpAnyH_done (by kernel_rfl) ?_ _
            have hb4 := bx_set1 (bx_set0 hbr (.bool m5)) (.slice a5 l5 c5)
            have hXF : KeptX (fun k => k = b) w6 ((w6.setCell ⟨b, 0, none⟩ (.bool m5)).setCell ⟨b, 1, none⟩ (.slice a5 l5 c5)) := ((KeptX.refl (fun k => k = b) w6).setIn 0 _).setIn 1 _
            have hTY : ZTy w6 (.agg #[.bool m5, .slice a5 l5 c5]) := ⟨m5, a5, l5, c5, rfl, ht5⟩
            have HENT : Hid (EntZ ((w6.setCell ⟨b, 0, none⟩ (.bool m5)).setCell ⟨b, 1, none⟩ (.slice a5 l5 c5)) (.bool m5, .slice a5 l5 c5) (del i j)) := by
              rw [us.out]
              exact ⟨m5, a5, l5, c5, rfl, hz5.keptTy hTY hXF hbr (by decide), hTY.keptX hXF hbr (by decide)⟩
            have hK4 : Kept wr ((w6.setCell ⟨b, 0, none⟩ (.bool m5)).setCell ⟨b, 1, none⟩ (.slice a5 l5 c5)) := ((hk2.trans hHeld.2.2.2.2.2.2.2.1).setCell hwb _).setCell hwb _
            generalize ((w6.setCell ⟨b, 0, none⟩ (.bool m5)).setCell ⟨b, 1, none⟩ (.slice a5 l5 c5)) = W4 at *
            clear hHeld hHeld2 hbr b0 b1 b2 b3 hXF hTY hz5 ht5 hk5 hk6 hz4 ht4 AD1 AD2 hS3 us hk2
            have hKi4 : Kept Wo W4 := hK1.trans hK4
            have hE4 : Hid (∀ t, t < j → EntZ W4 (E t) (del i t)) := fun t ht => (hE.out t ht).kept hK4
            have hO5 := (own_kept hO hK4).alloc (.cells #[.bool m5, .slice a5 l5 c5] 60)
            have HN := Lib.hid (news_two W4 (.bool m5) (.slice a5 l5 c5) 60)
            have hsz5 : B1 ≤ (W4.alloc (.cells #[.bool m5, .slice a5 l5 c5] 60)).heap.size := by have := hK4.size; simp; omega
            have hK5 : Kept Wo (W4.alloc (.cells #[.bool m5, .slice a5 l5 c5] 60)) := hKi4.alloc _
            have hk45 : Kept W4 (W4.alloc (.cells #[.bool m5, .slice a5 l5 c5] 60)) := (Kept.refl W4).alloc _
            have HSZ := Lib.hid hsz5
            have HO5 := Lib.hid hO5
            obtain ⟨b0, b1, _, _⟩ := bx_cells hb4
            clear hO hK1 hE hKi4 hK4 hb4 hsz5 hO5
            go_wp2_with (first | (at_builtin; refine wpList_append_own _ rfl _ _ 105 rfl B1 60 i0 (.agg #[.bool false, .slice none 0 0]) 2 32 Try.underlying105 hi hz0 hz1 hz2 rfl (by decide) _ _ _ rfl HO5.out ⟨W4.heap.size, 0, none⟩ 1 1 [.bool m5, .slice a5 l5 c5] rfl rfl HN.out (by simp [Value.oneCell']) ?c3 ?c4 HSZ.out ?_))
            case c3 => unfold maxLen; omega
            case c4 => omega
            intro v' w8 hO8 hgr _
            have hX8 := grew_X hgr HO5.out
            have hK8 : Kept Wo w8 := hK5.step hX8 (fun k hk => by rw [← HB1.out]; exact hk)
            have hs8 : B1 ≤ w8.heap.size := Nat.le_trans HSZ.out hgr.size
            have hO9 : w8.ownsRow B1 60 2 v' (j + 1) (zl (zup E j (.bool m5) (.slice a5 l5 c5)) (j + 1)) := by rw [zl_snoc]; exact hO8
            obtain ⟨rN, rf, hrr⟩ := own_rowIs HO5.out
            have hE9 : Hid (∀ t, t < j + 1 → EntZ w8 (zup E j (.bool m5) (.slice a5 l5 c5) t) (del i t)) := fun t ht => by
              unfold zup
              by_cases e : t = j
              · subst e
                rw [if_pos rfl]
                exact (HENT.out.kept hk45).keptX (grew_one hgr) hrr (by decide)
              · rw [if_neg e]
                exact ((hE4.out t (by omega)).kept hk45).keptX (grew_one hgr) hrr (by decide)
            obtain ⟨va, vc, rfl, _, _, _, hgv⟩ := own_form hO9
            obtain ⟨vg, rfl, hvg⟩ := hgv (by omega)
            clear hO8 hgr hX8 HO5 HN HSZ hrr hE4 hK5 hk45 HENT
            go_wp2_with fail
            go_roundg (n - (j + 1))
            case measure => omega
            case rel => exact ⟨j + 1, vg, vc, _, by omega, rfl, by go_num, rfl, hvg, hK8, hs8, hO9, hE9⟩
          · have hd1 : Hid (del i j = 1) := by
              show _ = _
              rcases Nat.eq_zero_or_pos i with h | h
              · rw [h, del_zl]
              · have : j = 0 := by omega
                rw [this, del_zr]
            by_cases hi0 : 0 < i
            · have hj0 : ¬ 0 < j := by omega
              have s1 : (0 : Int) < (i : Int) := by omega
              have s2 : ¬ (0 : Int) < (j : Int) := by omega
              clear hgo
              go_upto_region 12 with (first | (go_at_call 37; refine (INT.out _).mono ?_; rintro e w2 ⟨v1, rfl, hz1', ⟨mv, av, lv, cv, rfl, ht1⟩, hk2⟩))
              have hb4 := box_row w2 (.bool mv) (.slice av lv cv) 60 w2.heap.size rfl
              have hkb := (Kept.refl w2).alloc (.cells #[.bool mv, .slice av lv cv] 60)
              have HENT : Hid (EntZ (w2.alloc (.cells #[.bool mv, .slice av lv cv] 60)) (.bool mv, .slice av lv cv) (del i j)) := by
                rw [hd1.out]
                exact ⟨mv, av, lv, cv, rfl, hz1'.kept hkb, ZTy.kept ⟨mv, av, lv, cv, rfl, ht1⟩ hkb⟩
              have hK4 := hk2.trans hkb
              generalize w2.alloc (.cells #[.bool mv, .slice av lv cv] 60) = W4 at *
              generalize w2.heap.size = b at *
              clear hz1' ht1 hk2 hkb
              have hKi4 : Kept Wo W4 := hK1.trans hK4
              have hE4 : Hid (∀ t, t < j → EntZ W4 (E t) (del i t)) := fun t ht => (hE.out t ht).kept hK4
              have hO5 := (own_kept hO hK4).alloc (.cells #[.bool mv, .slice av lv cv] 60)
              have HN := Lib.hid (news_two W4 (.bool mv) (.slice av lv cv) 60)
              have hsz5 : B1 ≤ (W4.alloc (.cells #[.bool mv, .slice av lv cv] 60)).heap.size := by have := hK4.size; simp; omega
              have hK5 : Kept Wo (W4.alloc (.cells #[.bool mv, .slice av lv cv] 60)) := hKi4.alloc _
              have hk45 : Kept W4 (W4.alloc (.cells #[.bool mv, .slice av lv cv] 60)) := (Kept.refl W4).alloc _
              have HSZ := Lib.hid hsz5
              have HO5 := Lib.hid hO5
              obtain ⟨b0, b1, _, _⟩ := bx_cells hb4
              clear hO hK1 hE hKi4 hK4 hb4 hsz5 hO5
              go_wp2_with (first | (at_builtin; refine wpList_append_own _ rfl _ _ 105 rfl B1 60 i0 (.agg #[.bool false, .slice none 0 0]) 2 32 Try.underlying105 hi hz0 hz1 hz2 rfl (by decide) _ _ _ rfl HO5.out ⟨W4.heap.size, 0, none⟩ 1 1 [.bool mv, .slice av lv cv] rfl rfl HN.out (by simp [Value.oneCell']) ?c3 ?c4 HSZ.out ?_))
              case c3 => unfold maxLen; omega
              case c4 => omega
              intro v' w8 hO8 hgr _
              have hX8 := grew_X hgr HO5.out
              have hK8 : Kept Wo w8 := hK5.step hX8 (fun k hk => by rw [← HB1.out]; exact hk)
              have hs8 : B1 ≤ w8.heap.size := Nat.le_trans HSZ.out hgr.size
              have hO9 : w8.ownsRow B1 60 2 v' (j + 1) (zl (zup E j (.bool mv) (.slice av lv cv)) (j + 1)) := by rw [zl_snoc]; exact hO8
              obtain ⟨rN, rf, hrr⟩ := own_rowIs HO5.out
              have hE9 : Hid (∀ t, t < j + 1 → EntZ w8 (zup E j (.bool mv) (.slice av lv cv) t) (del i t)) := fun t ht => by
                unfold zup
                by_cases e : t = j
                · subst e
                  rw [if_pos rfl]
                  exact (HENT.out.kept hk45).keptX (grew_one hgr) hrr (by decide)
                · rw [if_neg e]
                  exact ((hE4.out t (by omega)).kept hk45).keptX (grew_one hgr) hrr (by decide)
              obtain ⟨va, vc, rfl, _, _, _, hgv⟩ := own_form hO9
              obtain ⟨vg, rfl, hvg⟩ := hgv (by omega)
              clear hO8 hgr hX8 HO5 HN HSZ hrr hE4 hK5 hk45 HENT
              go_wp2_with fail
              go_roundg (n - (j + 1))
              case measure => omega
              case rel => exact ⟨j + 1, vg, vc, _, by omega, rfl, by go_num, rfl, hvg, hK8, hs8, hO9, hE9⟩
            · have s1 : ¬ (0 : Int) < (i : Int) := by omega
              clear hgo
              go_upto_region 12 with (first | (go_at_call 37; refine (INT.out _).mono ?_; rintro e w2 ⟨v1, rfl, hz1', ⟨mv, av, lv, cv, rfl, ht1⟩, hk2⟩))
              have hb4 := box_row w2 (.bool mv) (.slice av lv cv) 60 w2.heap.size rfl
              have hkb := (Kept.refl w2).alloc (.cells #[.bool mv, .slice av lv cv] 60)
              have HENT : Hid (EntZ (w2.alloc (.cells #[.bool mv, .slice av lv cv] 60)) (.bool mv, .slice av lv cv) (del i j)) := by
                rw [hd1.out]
                exact ⟨mv, av, lv, cv, rfl, hz1'.kept hkb, ZTy.kept ⟨mv, av, lv, cv, rfl, ht1⟩ hkb⟩
              have hK4 := hk2.trans hkb
              generalize w2.alloc (.cells #[.bool mv, .slice av lv cv] 60) = W4 at *
              generalize w2.heap.size = b at *
              clear hz1' ht1 hk2 hkb
              have hKi4 : Kept Wo W4 := hK1.trans hK4
              have hE4 : Hid (∀ t, t < j → EntZ W4 (E t) (del i t)) := fun t ht => (hE.out t ht).kept hK4
              have hO5 := (own_kept hO hK4).alloc (.cells #[.bool mv, .slice av lv cv] 60)
              have HN := Lib.hid (news_two W4 (.bool mv) (.slice av lv cv) 60)
              have hsz5 : B1 ≤ (W4.alloc (.cells #[.bool mv, .slice av lv cv] 60)).heap.size := by have := hK4.size; simp; omega
              have hK5 : Kept Wo (W4.alloc (.cells #[.bool mv, .slice av lv cv] 60)) := hKi4.alloc _
              have hk45 : Kept W4 (W4.alloc (.cells #[.bool mv, .slice av lv cv] 60)) := (Kept.refl W4).alloc _
              have HSZ := Lib.hid hsz5
              have HO5 := Lib.hid hO5
              obtain ⟨b0, b1, _, _⟩ := bx_cells hb4
              clear hO hK1 hE hKi4 hK4 hb4 hsz5 hO5
              go_wp2_with (first | (at_builtin; refine wpList_append_own _ rfl _ _ 105 rfl B1 60 i0 (.agg #[.bool false, .slice none 0 0]) 2 32 Try.underlying105 hi hz0 hz1 hz2 rfl (by decide) _ _ _ rfl HO5.out ⟨W4.heap.size, 0, none⟩ 1 1 [.bool mv, .slice av lv cv] rfl rfl HN.out (by simp [Value.oneCell']) ?c3 ?c4 HSZ.out ?_))
              case c3 => unfold maxLen; omega
              case c4 => omega
              intro v' w8 hO8 hgr _
              have hX8 := grew_X hgr HO5.out
              have hK8 : Kept Wo w8 := hK5.step hX8 (fun k hk => by rw [← HB1.out]; exact hk)
              have hs8 : B1 ≤ w8.heap.size := Nat.le_trans HSZ.out hgr.size
              have hO9 : w8.ownsRow B1 60 2 v' (j + 1) (zl (zup E j (.bool mv) (.slice av lv cv)) (j + 1)) := by rw [zl_snoc]; exact hO8
              obtain ⟨rN, rf, hrr⟩ := own_rowIs HO5.out
              have hE9 : Hid (∀ t, t < j + 1 → EntZ w8 (zup E j (.bool mv) (.slice av lv cv) t) (del i t)) := fun t ht => by
                unfold zup
                by_cases e : t = j
                · subst e
                  rw [if_pos rfl]
                  exact (HENT.out.kept hk45).keptX (grew_one hgr) hrr (by decide)
                · rw [if_neg e]
                  exact ((hE4.out t (by omega)).kept hk45).keptX (grew_one hgr) hrr (by decide)
              obtain ⟨va, vc, rfl, _, _, _, hgv⟩ := own_form hO9
              obtain ⟨vg, rfl, hvg⟩ := hgv (by omega)
              clear hO8 hgr hX8 HO5 HN HSZ hrr hE4 hK5 hk45 HENT
              go_wp2_with fail
              go_roundg (n - (j + 1))
              case measure => omega
              case rel => exact ⟨j + 1, vg, vc, _, by omega, rfl, by go_num, rfl, hvg, hK8, hs8, hO9, hE9⟩
        · obtain rfl : j = n := by omega
          obtain ⟨rN, rf, hrr, hre⟩ := own_row2 hO
          have hrow9 : Hid (RowAt wr (.slice (some ⟨g, 0, none⟩) j gc) j (fun t => del i t)) := ⟨g, gc, rN, rf, E, rfl, hrr, fun t ht => ⟨(hre t ht).1, (hre t ht).2.1, (hre t ht).2.2, hE.out t ht⟩⟩
          have hall : Hid (∀ t, t < i → RowAt wr (R t) j (fun k => del t k)) := fun t ht => (HRL.out t ht).kept hK1
          have hOR5 := (own_kept hOR hK1).alloc (.cells #[.slice (some ⟨g, 0, none⟩) j gc] 105)
          have hrow5 := ((Kept.refl wr).alloc (.cells #[.slice (some ⟨g, 0, none⟩) j gc] 105)).row (hK1.row hrow)
          have hk5 : Kept wr (wr.alloc (.cells #[.slice (some ⟨g, 0, none⟩) j gc] 105)) := (Kept.refl wr).alloc _
          have hK5 := (hK.trans hK1).trans hk5
          have HN := Lib.hid (news_one wr (.slice (some ⟨g, 0, none⟩) j gc) 105)
          have HSZ : Hid (B0 ≤ (wr.alloc (.cells #[.slice (some ⟨g, 0, none⟩) j gc] 105)).heap.size) := by show _ ≤ _; have := hk5.size; omega
          have HO5 := Lib.hid hOR5
          have HE := Lib.hid hE.out
          clear hO hOR hOR5 hE hrr hre hrow hK
          go_wp2_with (first | (at_builtin; refine wpList_append_own _ rfl _ _ 104 rfl B0 105 i0s (.slice none 0 0) 1 24 Try.underlying104 his hzs0 hzs1 hzs2 rfl (by decide) _ _ _ rfl HO5.out ⟨wr.heap.size, 0, none⟩ 1 1 [.slice (some ⟨g, 0, none⟩) j gc] rfl rfl HN.out (by simp [Value.oneCell']) ?c3 ?c4 HSZ.out ?_))
          case c3 => unfold maxLen; omega
          case c4 => omega
          intro v' w8 hO8 hgr _
          have hX8 := grew_X hgr HO5.out
          have hK8 : Kept w w8 := hK5.step hX8 (fun k hk => by have := HB0.out; omega)
          have hs8 : B0 ≤ w8.heap.size := Nat.le_trans HSZ.out hgr.size
          have hrow8 := hX8.row hrow5 (by omega)
          have hO9 : w8.ownsRow B0 105 1 v' (i + 1) (rowsV (fun t => if t = i then .slice (some ⟨g, 0, none⟩) j gc else R t) (i + 1)) := by rw [rowsV_snoc]; exact hO8
          obtain ⟨qN, qf, hqr⟩ := own_rowIs HO5.out
          have hall9 : Hid (∀ t, t < i + 1 → RowAt w8 ((fun t => if t = i then .slice (some ⟨g, 0, none⟩) j gc else R t) t) j (fun k => del t k)) := fun t ht => by
            by_cases e : t = i
            · subst e
              simp only [if_true]
              exact (hrow9.out.kept hk5).keptX (grew_one hgr) hqr (by decide) (by decide)
            · simp only [if_neg e]
              exact ((hall.out t (by omega)).kept hk5).keptX (grew_one hgr) hqr (by decide) (by decide)
          obtain ⟨va, vc, rfl, _, _, _, hgv⟩ := own_form hO9
          obtain ⟨vg, rfl, hvg⟩ := hgv (by omega)
          clear hO8 hgr hX8 HO5 HN HSZ hqr hrow9 hall hK5 hk5 hrow5 HE hK1
          go_wp2_with fail
          go_roundg (m - (i + 1))
          case measure => omega
          case rel => exact ⟨i + 1, vg, vc, _, by omega, rfl, by go_num, rfl, hvg, hK8, hs8, hrow8, hO9, hall9⟩
    · obtain rfl : i = m := by omega
      have hRM := hRA.out (i - 1) (by omega)
      obtain ⟨pg, pcap, pN, pf, E, hR1, hpr, hpe⟩ := hRM
      have x0 := rowsV_get hOR (show i - 1 < i by omega)
      rw [hR1] at x0
      obtain ⟨he1, he2, he3, he4⟩ := hpe (n - 1) (by omega)
      obtain ⟨m1, a1, l1, c1, e1, hz1, ht1⟩ := he4
      rw [e1] at he2 he3
      have x1 := hpr.cell (i := (n - 1) * 2) (by omega)
      have x2 := hpr.cell (i := (n - 1) * 2 + 1) he1
      rw [he2] at x1
      rw [he3] at x2
      obtain ⟨k0, k1, k2, k3⟩ := bx_cells hrow
      have hRF := bx_set1 (bx_set0 hrow (.bool m1)) (.slice a1 l1 c1)
      obtain ⟨g0, g1, _, _⟩ := bx_cells hRF
      have hX : KeptX (fun k => k = r0) wr ((wr.setCell ⟨r0, 0, none⟩ (.bool m1)).setCell ⟨r0, 1, none⟩ (.slice a1 l1 c1)) := ((KeptX.refl (fun k => k = r0) wr).setIn 0 _).setIn 1 _
      have hKF : Kept w ((wr.setCell ⟨r0, 0, none⟩ (.bool m1)).setCell ⟨r0, 1, none⟩ (.slice a1 l1 c1)) := (hK.setCell hwr0 _).setCell hwr0 _
      have HZF := Lib.hid (hz1.keptTy ht1 hX hrow (by decide))
      have ec1 : (i : Int) - 1 = ((i - 1 : Nat) : Int) := by omega
      have ec2 : (n : Int) - 1 = ((n - 1 : Nat) : Int) := by omega
      have s1 : ((i - 1 : Nat) : Int) < (i : Int) := by omega
      have s2 : ((n - 1 : Nat) : Int) < (n : Int) := by omega
      clear hRA hOR hR1 hpr hpe hrow hRF hX hz1 ht1 he1 he2 he3
      go_wp2_with fail
      generalize ((wr.setCell ⟨r0, 0, none⟩ (.bool m1)).setCell ⟨r0, 1, none⟩ (.slice a1 l1 c1)) = WF at *
      exact bodyPost_ret (v := .agg #[.bool m1, .slice a1 l1 c1]) (by simp [results, Try.results36, go_sem, g0, g1]) rfl ⟨_, rfl, HZF.out, hKF⟩
end Go.Proofs.Ytomnjcjipdnnfaa
