/-
  The law HeapEdges, walked.
-/
import Derived.Test.YtlnpipkhofhlnaaEc
import Derived.Test.YtlnpipkhofhlnaaCt
import Derived.Test.YtlnpipkhofhlnaaMd
import Derived.Test.YtlnpipkhofhlnaaLi
import Derived.RegionTactic
import Derived.BigRegion
namespace Go.Proofs.Ytlnpipkhofhlnaa
open Go.RowKit Go.Deep

theorem row_lit2 (W : World) (a b : Value) (t : TypeId) : (W.alloc (.cells #[a, b] t)).rowIs W.heap.size t 2 (fun i => if i = 0 then a else b) := by
  refine ⟨#[a, b], by rw [blk_alloc_new], rfl, fun i hi => ?_⟩
  obtain rfl | rfl : i = 0 ∨ i = 1 := by omega
  · rfl
  · rfl
theorem new_two (W : World) (x y : Value) (t : TypeId) : ∀ (k : Nat) (u : Value), [x, y][k]? = some u → (W.alloc (.cells #[x, y] t)).cell? ((⟨W.heap.size, 0, none⟩ : Addr).add k) = some u := fun k u h => by
  obtain rfl | rfl | hk : k = 0 ∨ k = 1 ∨ 2 ≤ k := by omega
  · cases h; rw [add_at]; unfold World.cell?; dsimp only; rw [blk_alloc_new]; rfl
  · cases h; rw [add_at]; unfold World.cell?; dsimp only; rw [blk_alloc_new]; rfl
  · rw [List.getElem?_eq_none (by simp; omega)] at h; cases h
theorem pairs_read {w : World} {base k : Nat} {v : Value} {t : TypeId} {A B : Nat → Int} (h : w.ownsRow base t 2 v k (pairs A B k)) : PairsAt w v k A B := by
  rcases Nat.eq_zero_or_pos k with e | e
  · subst e
    obtain ⟨a, cap, rfl⟩ := own_shape h
    exact ⟨a, 0, 0, cap, rfl, fun h => absurd h (by omega), fun i hi => absurd hi (by omega)⟩
  · obtain ⟨b, cap, rfl, _, _⟩ := h.form e
    exact pairs_own h
def endF (x y : Nat) (t : Nat) : Nat := if t = 0 then x else y
set_option maxRecDepth 100000 in
set_option maxHeartbeats 8000000 in
theorem edgess_any (w : World) (nn x0 x1 : Nat) (xa : Option Addr) (q qcap : Nat) (X Y : Nat → Nat) (hnn : nn < 256) (hx : Bytes2At w (.slice xa q qcap) q X Y) (hX : ∀ i, X i < 256) (hY : ∀ i, Y i < 256) (hq : q ≤ maxLen) (hx0 : x0 < 256) (hx1 : x1 < 256) :
    Calls Try.prog 8 #[.agg #[.int .u8 nn, .slice xa q qcap], .agg #[.int .u8 x0, .int .u8 x1]] w (LivesPost w) := by
  have hK0 : Kept w ((w.alloc (.cells #[.int .u8 nn, .slice xa q qcap] 47)).alloc (.cells #[.int .u8 x0, .int .u8 x1] 69)) := ((Kept.refl w).alloc _).alloc _
  have d0 : ((w.alloc (.cells #[.int .u8 nn, .slice xa q qcap] 47)).alloc (.cells #[.int .u8 x0, .int .u8 x1] 69)).cell? ⟨w.heap.size + 1, 0, none⟩ = some (.int .u8 x0) := by
    have h := blk_alloc_new (w.alloc (.cells #[.int .u8 nn, .slice xa q qcap] 47)) (.cells #[.int .u8 x0, .int .u8 x1] 69)
    rw [nblk_alloc] at h
    unfold World.cell?; dsimp only; rw [h]; rfl
  have d1 : ((w.alloc (.cells #[.int .u8 nn, .slice xa q qcap] 47)).alloc (.cells #[.int .u8 x0, .int .u8 x1] 69)).cell? ⟨w.heap.size + 1, 1, none⟩ = some (.int .u8 x1) := by
    have h := blk_alloc_new (w.alloc (.cells #[.int .u8 nn, .slice xa q qcap] 47)) (.cells #[.int .u8 x0, .int .u8 x1] 69)
    rw [nblk_alloc] at h
    unfold World.cell?; dsimp only; rw [h]; rfl
  obtain ⟨i1, hi, hz0, hz1, hz2⟩ := info_parts Try.infoPair
  go_enter Try.func8, Try.ntmps8
  go_wp2_with fail
  refine (made_any _ xa q qcap nn 8 X Y (hx.kept hK0) hX hY hq hnn (by omega) (by omega)).mono ?_
  rintro e w1 ⟨n, m, ea, ecap, A, B, rfl, hE1, hk1, hk2, hk8, hm19, hgood⟩
  have hK1 := hK0.trans hk1
  replace d0 := hk1.cellSome d0
  replace d1 := hk1.cellSome d1
  clear hK0 hk1 hx hX hY
  by_cases hn3 : n < 3
  · have g1 : (n : Int) < 3 := by omega
    go_wp2_with fail
    refine (lives_any _).mono ?_
    rintro e w2 ⟨rfl, hk3⟩
    go_wp2_with fail
    go_ret
    exact ⟨rfl, hK1.trans hk3⟩
  · have g1 : ¬ (n : Int) < 3 := by omega
    obtain ⟨N, HN⟩ : ∃ N, Hid (n = N + 2) := ⟨n - 2, Lib.hid (by omega)⟩
    have hn3' : 3 ≤ n := by omega
    obtain ⟨a0, HA0⟩ : ∃ a0, Hid (a0 = x0 % n) := ⟨_, rfl⟩
    have ha0 : a0 < n := by rw [HA0.out]; exact Nat.mod_lt _ (by omega)
    obtain ⟨z1, HZ1⟩ : ∃ z1, Hid (z1 = x1 % (n - 1)) := ⟨_, rfl⟩
    have hz1' : z1 < n - 1 := by rw [HZ1.out]; exact Nat.mod_lt _ (by omega)
    obtain ⟨b0, HB0⟩ : ∃ b0, Hid (b0 = (a0 + 1 + z1) % n) := ⟨_, rfl⟩
    obtain ⟨hb0, hab0⟩ : b0 < n ∧ a0 ≠ b0 := by rw [HB0.out]; exact turn_ne ha0 (by omega)
    have s3 : ((x0 : Int)) % (n : Int) = (a0 : Int) := by rw [HA0.out, Int.natCast_emod]
    have s4 : ((x1 : Int)) % ((n : Int) - 1) = (z1 : Int) := by rw [HZ1.out, Int.natCast_emod]; congr 1; omega
    have s5 : ((a0 : Int) + 1 + (z1 : Int)) % (n : Int) = (b0 : Int) := by rw [HB0.out, Int.natCast_emod]; rfl
    by_cases hlt0 : b0 < a0
    focus
      go_wp2_with fail
      obtain ⟨a, rfl⟩ : ∃ a, a = b0 := ⟨_, rfl⟩
      obtain ⟨b, rfl⟩ : ∃ b, b = a0 := ⟨_, rfl⟩
      have hab : a < b := hlt0
      have hbn : b < n := ha0
      clear hlt0 hab0 ha0 hb0 s3 s4 s5 HA0 HB0 HZ1 hz1' d0 d1
    rotate_left
    focus
      go_wp2_with fail
      obtain ⟨a, rfl⟩ : ∃ a, a = a0 := ⟨_, rfl⟩
      obtain ⟨b, rfl⟩ : ∃ b, b = b0 := ⟨_, rfl⟩
      have hab : a < b := by omega
      have hbn : b < n := hb0
      clear hlt0 hab0 ha0 hb0 s3 s4 s5 HA0 HB0 HZ1 hz1' d0 d1
    all_goals
      have hO0 : (w1.alloc (.cells #[] 71)).ownsRow w1.heap.size 71 2 (.slice (some ⟨w1.heap.size, 0, none⟩) 0 0) 0 (pairs (fun _ => 0) (fun _ => 0) 0) := own_zeroT w1 w1.heap.size 71 2 (Nat.le_refl _)
      have hkA : Kept w1 (w1.alloc (.cells #[] 71)) := (Kept.refl w1).alloc _
      have hj0 := Lib.hid (JoinI.start (N + 1) a b A B (fun _ => 0) (fun _ => 0))
      generalize w1.alloc (.cells #[] 71) = W0 at *
      go_loopg [9, 10] m (fun g s9 s10 wr => ∃ (i m' : Nat) (A' B' : Nat → Int), i ≤ m ∧ g = m - i ∧ s10 = .int .i64 (i : Int) ∧ Hid (JoinI (N + 1) a b A B i A' B' m') ∧ m' ≤ i ∧ Kept w1 wr ∧ wr.ownsRow w1.heap.size 71 2 s9 m' (pairs A' B' m'))
      case atStart => exact ⟨0, 0, _, _, Nat.zero_le _, rfl, rfl, hj0, Nat.le_refl _, hkA, hO0⟩
      case round =>
        obtain ⟨i, m', A', B', him, rfl, rfl, hJ, hmi, hK, hO⟩ := hrel
        clear hO0 hkA hj0
        by_cases hlt : i < m
        · obtain ⟨_, eb, eo, _, eE, hea, hec⟩ := hE1
          cases eE
          obtain rfl := hea (by omega)
          obtain ⟨x, y, hx, hy, hxn, hyn, hxy⟩ := edgeB_true (good_edge hgood i hlt)
          obtain ⟨t1, t2⟩ := hec i hlt
          rw [hx] at t1
          rw [hy] at t2
          replace t1 := hK.cellSome t1
          replace t2 := hK.cellSome t2
          have t3 := ((Kept.refl wr).alloc (.cells #[.int .i64 0, .int .i64 0] 72)).cellSome t1
          have t4 := ((Kept.refl wr).alloc (.cells #[.int .i64 0, .int .i64 0] 72)).cellSome t2
          have hE1 : PairsAt w1 (.slice (some ⟨eb, eo, none⟩) m ecap) m A B := ⟨_, eb, eo, ecap, rfl, fun _ => rfl, hec⟩
          have HX := Lib.hid hx
          have HY := Lib.hid hy
          have HXY := Lib.hid hxy
          have s1 : (i : Int) < (m : Int) := by omega
          have s2 : (0 : Int) ≤ (i : Int) := by omega
          clear hx hy hec hea hxy
          go_wp2_with fail
          go_region
          have hR0 : ((wr.alloc (.cells #[.int .i64 (x : Int), .int .i64 (y : Int)] 72)).drew).rowIs wr.heap.size 72 2 (fun t => .int .i64 ((endF x y t : Nat) : Int)) := by
            refine (Kept.row (Kept.refl _).drew (row_lit2 wr (.int .i64 (x : Int)) (.int .i64 (y : Int)) 72)).congr (fun t _ => ?_)
            unfold endF
            by_cases e : t = 0
            · rw [if_pos e, if_pos e]
            · rw [if_neg e, if_neg e]
          have hkB : Kept wr ((wr.alloc (.cells #[.int .i64 (x : Int), .int .i64 (y : Int)] 72)).drew) := ((Kept.refl wr).alloc _).drew
          clear t1 t2 t3 t4
          obtain ⟨Wb, rfl⟩ : ∃ Wb : World, Wb = wr := ⟨_, rfl⟩
          obtain ⟨pb, HPB⟩ : ∃ pb, Hid (pb = Wb.heap.size) := ⟨_, rfl⟩
          have hpb : Wb.heap.size ≤ pb := by rw [HPB.out]; exact Nat.le_refl _
          rw [← HPB.out] at hR0 ⊢
          generalize (Wb.alloc (.cells #[.int .i64 (x : Int), .int .i64 (y : Int)] 72)).drew = W1 at *
          have HEN : Hid (∀ t, endF x y t < n) := fun t => by unfold endF; split <;> omega
          go_wp2_with fail
          go_loopg [12] 2 (fun g s12 wi => ∃ k : Nat, k ≤ 2 ∧ g = 2 - k ∧ s12 = .int .i64 (k : Int) ∧ Kept Wb wi ∧ wi.rowIs pb 72 2 (fun t => .int .i64 ((if t < k then mph a b (endF x y t) else endF x y t : Nat) : Int)))
          case atStart => exact ⟨0, by omega, rfl, rfl, hkB, hR0.congr (fun t _ => rfl)⟩
          case round =>
            obtain ⟨k, hk2', rfl, rfl, hKi, hRi⟩ := hrel
            clear hR0 hkB
            by_cases hlk : k < 2
            · have t1 := hRi.cell hlk
              simp only [Nat.lt_irrefl, if_false] at t1
              have t2 := hRi.frozen k
              obtain ⟨ev, HEV⟩ : ∃ ev, Hid (ev = endF x y k) := ⟨_, rfl⟩
              have hen := HEN.out k
              rw [← HEV.out] at t1 hen
              have hph : Hid (∀ z : Nat, z = mph a b ev → ∀ t, t < 2 → (if t = k then z else (if t < k then mph a b (endF x y t) else endF x y t)) = (if t < k + 1 then mph a b (endF x y t) else endF x y t)) := fun z hz t ht => by
                by_cases e : t = k
                · subst e; rw [if_pos rfl, if_pos (show t < t + 1 by omega), hz, HEV.out]
                · rw [if_neg e]
                  by_cases e2 : t < k
                  · rw [if_pos e2, if_pos (show t < k + 1 by omega)]
                  · rw [if_neg e2, if_neg (show ¬ t < k + 1 by omega)]
              have r1 : (k : Int) < 2 := by omega
              have r2 : (0 : Int) ≤ (k : Int) := by omega
              by_cases heb : ev = b
              · have f1 : ((ev : Int) == (b : Int)) = true := by simp; omega
                have HME : Hid (a = mph a b ev) := by show a = _; unfold mph; rw [if_pos heb]
                clear heb
                go_wp2_with fail
                have hKn : Kept Wb (wr.setCell ⟨pb, k, none⟩ (.int .i64 (a : Int))) := hKi.setCell (p := ⟨pb, k, none⟩) hpb _
                have hRn : (wr.setCell ⟨pb, k, none⟩ (.int .i64 (a : Int))).rowIs pb 72 2 (fun t => .int .i64 ((if t < k + 1 then mph a b (endF x y t) else endF x y t : Nat) : Int)) := (hRi.set k (.int .i64 (a : Int))).congr (fun t ht => by
                  rw [← hph.out a HME.out t ht]
                  by_cases e : t = k
                  · rw [if_pos e, if_pos e]
                  · rw [if_neg e, if_neg e])
                clear t1 t2 hKi hRi
                go_roundg (2 - (k + 1))
                case measure => omega
                case rel => exact ⟨k + 1, by omega, rfl, by go_num, hKn, hRn⟩
              · have f1 : ((ev : Int) == (b : Int)) = false := by simp; omega
                by_cases hgb : b < ev
                · have f2 : (ev : Int) > (b : Int) := by omega
                  have f3 : IntKind.i64.wrap ((ev : Int) - 1) = (ev : Int) - 1 := IntWalk.i64_in _ (by omega)
                  have HME : Hid (ev - 1 = mph a b ev) := by show ev - 1 = _; unfold mph; rw [if_neg heb, if_pos hgb]
                  have HZ : Hid (((ev - 1 : Nat) : Int) = (ev : Int) - 1) := Lib.hid (by omega)
                  clear heb
                  go_wp2_with fail
                  have hKn : Kept Wb (wr.setCell ⟨pb, k, none⟩ (.int .i64 ((ev : Int) - 1))) := hKi.setCell (p := ⟨pb, k, none⟩) hpb _
                  have hRn : (wr.setCell ⟨pb, k, none⟩ (.int .i64 ((ev : Int) - 1))).rowIs pb 72 2 (fun t => .int .i64 ((if t < k + 1 then mph a b (endF x y t) else endF x y t : Nat) : Int)) := (hRi.set k (.int .i64 ((ev : Int) - 1))).congr (fun t ht => by
                    rw [← hph.out _ HME.out t ht]
                    by_cases e : t = k
                    · rw [if_pos e, if_pos e, HZ.out]
                    · rw [if_neg e, if_neg e])
                  clear t1 t2 hKi hRi
                  go_roundg (2 - (k + 1))
                  case measure => omega
                  case rel => exact ⟨k + 1, by omega, rfl, by go_num, hKn, hRn⟩
                · have f2 : ¬ (ev : Int) > (b : Int) := by omega
                  have HME : Hid (ev = mph a b ev) := by show ev = _; unfold mph; rw [if_neg heb, if_neg hgb]
                  have hRn : wr.rowIs pb 72 2 (fun t => .int .i64 ((if t < k + 1 then mph a b (endF x y t) else endF x y t : Nat) : Int)) := hRi.congr (fun t ht => by
                    rw [← hph.out ev HME.out t ht]
                    by_cases e : t = k
                    · subst e; rw [if_pos rfl, if_neg (Nat.lt_irrefl _), HEV.out]
                    · rw [if_neg e])
                  clear heb
                  go_wp2_with fail
                  go_roundg (2 - (k + 1))
                  case measure => omega
                  case rel => exact ⟨k + 1, by omega, rfl, by go_num, hKi, hRn⟩
            · obtain rfl : k = 2 := by omega
              have t1 := hRi.cell (i := 0) (by omega)
              have t2 := hRi.cell (i := 1) (by omega)
              obtain ⟨px, HPX⟩ : ∃ px, Hid (px = mph a b x) := ⟨_, rfl⟩
              obtain ⟨py, HPY⟩ : ∃ py, Hid (py = mph a b y) := ⟨_, rfl⟩
              have t1' : wr.cell? ⟨pb, 0, none⟩ = some (.int .i64 (px : Int)) := by rw [HPX.out]; exact t1
              have t2' : wr.cell? ⟨pb, 1, none⟩ = some (.int .i64 (py : Int)) := by rw [HPY.out]; exact t2
              have hO2 := own_kept hO hKi
              have hK2 := hK.trans hKi
              clear t1 t2 hKi hRi hO hK
              by_cases hpp : px = py
              · have f1 : ((px : Int) != (py : Int)) = false := by simp; omega
                have f2 : ((px : Int) == (py : Int)) = true := by simp; omega
                have HJ2 := Lib.hid (hJ.out.skip hab HX.out HY.out HXY.out (by rw [← HPX.out, ← HPY.out]; exact hpp))
                clear hpp
                go_wp2_with fail
                go_roundg (m - (i + 1))
                case measure => omega
                case rel => exact ⟨i + 1, m', A', B', by omega, rfl, by go_num, HJ2, by omega, hK2, hO2⟩
              · have f1 : ((px : Int) != (py : Int)) = true := by simp; omega
                have f2 : ((px : Int) == (py : Int)) = false := by simp; omega
                have HJ2 := Lib.hid (hJ.out.more hab (by have := HN.out; omega) HX.out HY.out (by have := HN.out; omega) (by have := HN.out; omega) (by rw [← HPX.out, ← HPY.out]; exact hpp))
                rw [← HPX.out, ← HPY.out] at HJ2
                have hsz := Kept.size hK2
                clear hpp
                go_wp2_with (first | (at_builtin; refine wpList_append_own _ rfl _ _ 22 rfl w1.heap.size 71 i1 (.agg #[.int .i64 0, .int .i64 0]) 2 16 Try.underlying22 hi hz0 hz1 hz2 rfl (by decide) _ _ _ rfl (hO2.alloc _) ⟨wr.heap.size, 0, none⟩ 1 1 [.int .i64 (px : Int), .int .i64 (py : Int)] rfl rfl ?c1 ?c2 ?c3 ?c4 ?c5 ?_))
                case c1 => exact new_two wr (.int .i64 (px : Int)) (.int .i64 (py : Int)) 71
                case c2 => simp [Value.oneCell']
                case c3 => unfold maxLen; omega
                case c4 => omega
                case c5 => first | omega | (simp; omega)
                intro v' w2 hO3 hgr _
                have hX2 := grew_X hgr (hO2.alloc (.cells #[.int .i64 (px : Int), .int .i64 (py : Int)] 71))
                have hK3 : Kept w1 w2 := (hK2.alloc _).step hX2 (fun i hi => hi)
                have hO4 : w2.ownsRow w1.heap.size 71 2 v' (m' + 1) (pairs (snoc A' m' (px : Int)) (snoc B' m' (py : Int)) (m' + 1)) := by rw [pairs_snoc]; exact hO3
                clear hO3 hX2 hgr hK2 hO2 hsz
                go_wp2_with fail
                go_roundg (m - (i + 1))
                case measure => omega
                case rel => exact ⟨i + 1, m' + 1, _, _, by omega, rfl, by go_num, HJ2, by omega, hK3, hO4⟩
        · obtain rfl : i = m := by omega
          have hE2 := hE1.kept hK
          have hP2 := pairs_read hO
          obtain ⟨ja, jcap, rfl⟩ := own_shape hO
          have hKw := hK1.trans hK
          have hg3 : goodB ((N + 1 : Nat) : Int) A' B' m' = true := join_good (by have := HN.out; rw [show ((N + 1 + 1 : Nat) : Int) = (n : Int) by rw [this]]; exact hgood) (by have := HN.out; omega) hab (by omega) hJ.out
          have hg2 : goodB (n : Int) (snoc A i a) (snoc B i b) (i + 1) = true := more_good hgood hm19 (by omega) hbn (by omega)
          have hadd := counts_add (N := N) (by have := HN.out; omega) (by have := HN.out; rw [← this]; exact hgood) hm19 hab (by have := HN.out; omega) hJ.out
          have hc1 := good_count hgood
          have hc2 := good_count hg2
          have hc3 := good_count hg3
          obtain ⟨ok, _, _, _⟩ := good_ok hgood
          simp only [Int.toNat_natCast] at hc1 hc2 hc3 ok
          have hi1 : 1 ≤ i := by
            rcases Nat.eq_zero_or_pos i with e | e
            · subst e
              have := ok.D1 1 (by omega) (by omega)
              exact absurd (show 1 ≤ 0 from this) (by omega)
            · exact e
          rw [← HN.out] at hadd
          have hn1 : n - 1 = N + 1 := by have := HN.out; omega
          have hC1 : Hid (∀ (W : World) (v : Value), PairsAt W v i A B → Calls Try.prog 36 #[.int .i64 (n : Int), v] W fun e w' => e = .returned (.tuple #[.int .i64 (countI n (degN A B i) (btwN A B i)), .int .i64 0]) ∧ Kept W w') := fun W v h => (Count_any W n v A B i h (by omega)).mono (fun e w' ⟨hk, _, h2⟩ => ⟨h2 hgood, hk⟩)
          have hC2 : Hid (∀ (W : World) (v : Value), PairsAt W v (i + 1) (snoc A i a) (snoc B i b) → Calls Try.prog 36 #[.int .i64 (n : Int), v] W fun e w' => e = .returned (.tuple #[.int .i64 (countI n (degN (snoc A i a) (snoc B i b) (i + 1)) (btwN (snoc A i a) (snoc B i b) (i + 1))), .int .i64 0]) ∧ Kept W w') := fun W v h => (Count_any W n v _ _ _ h (by omega)).mono (fun e w' ⟨hk, _, h2⟩ => ⟨h2 hg2, hk⟩)
          have hC3 : Hid (∀ (W : World) (v : Value), PairsAt W v m' A' B' → Calls Try.prog 36 #[.int .i64 ((n : Int) - 1), v] W fun e w' => e = .returned (.tuple #[.int .i64 (countI (N + 1) (degN A' B' m') (btwN A' B' m')), .int .i64 0]) ∧ Kept W w') := fun W v h => by
            have e : (n : Int) - 1 = ((N + 1 : Nat) : Int) := by omega
            rw [e]
            exact (Count_any W ((N + 1 : Nat) : Int) v A' B' m' h (by omega)).mono (fun e w' ⟨hk, _, h2⟩ => ⟨h2 hg3, hk⟩)
          obtain ⟨c, HC⟩ : ∃ c, Hid (c = countI n (degN A B i) (btwN A B i)) := ⟨_, rfl⟩
          obtain ⟨d, HD⟩ : ∃ d, Hid (d = countI n (degN (snoc A i a) (snoc B i b) (i + 1)) (btwN (snoc A i a) (snoc B i b) (i + 1))) := ⟨_, rfl⟩
          obtain ⟨o, HOO⟩ : ∃ o, Hid (o = countI (N + 1) (degN A' B' m') (btwN A' B' m')) := ⟨_, rfl⟩
          have hC1' := Lib.hid (show ∀ (W : World) (v : Value), PairsAt W v i A B → Calls Try.prog 36 #[.int .i64 (n : Int), v] W fun e w' => e = .returned (.tuple #[.int .i64 c, .int .i64 0]) ∧ Kept W w' by rw [HC.out]; exact hC1.out)
          have hC2' := Lib.hid (show ∀ (W : World) (v : Value), PairsAt W v (i + 1) (snoc A i a) (snoc B i b) → Calls Try.prog 36 #[.int .i64 (n : Int), v] W fun e w' => e = .returned (.tuple #[.int .i64 d, .int .i64 0]) ∧ Kept W w' by rw [HD.out]; exact hC2.out)
          have hC3' := Lib.hid (show ∀ (W : World) (v : Value), PairsAt W v m' A' B' → Calls Try.prog 36 #[.int .i64 ((n : Int) - 1), v] W fun e w' => e = .returned (.tuple #[.int .i64 o, .int .i64 0]) ∧ Kept W w' by rw [HOO.out]; exact hC3.out)
          rw [← HC.out, ← HD.out, ← HOO.out] at hadd
          rw [← HC.out] at hc1
          rw [← HD.out] at hc2
          rw [← HOO.out] at hc3
          have f1 : IntKind.i64.wrap (c + o) = c + o := IntWalk.i64_in _ (by omega)
          have f2 : (d == c + o) = true := by simp [hadd]
          clear hC1 hC2 hC3 hadd hg2 hg3 ok HC HD HOO hn1 hJ hO
          go_wp2_with fail
          refine (hC1'.out _ _ hE2).mono ?_
          rintro e w2 ⟨rfl, hk2c⟩
          have hE3 := hE2.kept hk2c
          have hP3 := hP2.kept hk2c
          have hK3 := hKw.trans hk2c
          obtain ⟨_, eb, eo, _, eE, hea, hec⟩ := hE3
          cases eE
          obtain rfl := hea (by omega)
          have hO4 := own_zeroT w2 w2.heap.size 71 2 (Nat.le_refl _)
          have hk4 : Kept w2 (w2.alloc (.cells #[] 71)) := (Kept.refl w2).alloc _
          have hsrc : ∀ j u, (pairs A B i)[j]? = some u → (w2.alloc (.cells #[] 71)).cell? ((⟨eb, eo, none⟩ : Addr).add j) = some u := fun j u h => by
            have hj : j < i * 2 := by
              rcases Nat.lt_or_ge j (i * 2) with e | e
              · exact e
              · rw [List.getElem?_eq_none (by rw [pairs_len]; omega)] at h; cases h
            rw [pairs_at hj] at h
            cases h
            obtain ⟨p1, p2⟩ := hec (j / 2) (by omega)
            rw [add_at]
            by_cases e : j % 2 = 0
            · rw [if_pos e, show eo + j = eo + j / 2 * 2 by omega]; exact hk4.cellSome p1
            · rw [if_neg e, show eo + j = eo + j / 2 * 2 + 1 by omega]; exact hk4.cellSome p2
          have HSRC := Lib.hid hsrc
          clear hsrc hec hea hE2 hP2 hKw
          go_wp2_with (first | (at_builtin; refine wpList_append_own _ rfl _ _ 22 rfl w2.heap.size 71 i1 (.agg #[.int .i64 0, .int .i64 0]) 2 16 Try.underlying22 hi hz0 hz1 hz2 rfl (by decide) _ _ _ rfl hO4 ⟨eb, eo, none⟩ i ecap (pairs A B i) rfl (pairs_len A B i) ?d1 ?d2 ?d3 ?d4 ?d5 ?_))
          case d1 => exact HSRC.out
          case d2 => intro u hu; simp only [pairs, List.mem_map] at hu; obtain ⟨i, _, rfl⟩ := hu; rfl
          case d3 => unfold maxLen; omega
          case d4 => omega
          case d5 => first | omega | (simp; done) | (simp; omega)
          intro v' w5 hO5 hgr5 _
          have hk5 : Kept w2 w5 := hk4.step (grew_X hgr5 hO4) (fun i hi => hi)
          have hO5' : w5.ownsRow w2.heap.size 71 2 v' i (pairs A B i) := by simpa using hO5
          have hsz5 := Kept.size hk5
          clear hO5 hgr5 hO4 hk4 HSRC
          go_wp2_with (first | (at_builtin; refine wpList_append_own _ rfl _ _ 22 rfl w2.heap.size 71 i1 (.agg #[.int .i64 0, .int .i64 0]) 2 16 Try.underlying22 hi hz0 hz1 hz2 rfl (by decide) _ _ _ rfl (hO5'.alloc _) ⟨w5.heap.size, 0, none⟩ 1 1 [.int .i64 (a : Int), .int .i64 (b : Int)] rfl rfl ?e1 ?e2 ?e3 ?e4 ?e5 ?_))
          case e1 => exact new_two w5 (.int .i64 (a : Int)) (.int .i64 (b : Int)) 71
          case e2 => simp [Value.oneCell']
          case e3 => unfold maxLen; omega
          case e4 => omega
          case e5 => first | omega | (simp; omega)
          intro v6 w6 hO6 hgr6 _
          have hX6 := grew_X hgr6 (hO5'.alloc (.cells #[.int .i64 (a : Int), .int .i64 (b : Int)] 71))
          have hk6 : Kept w2 w6 := (hk5.alloc _).step hX6 (fun i hi => hi)
          have hO7 : w6.ownsRow w2.heap.size 71 2 v6 (i + 1) (pairs (snoc A i (a : Int)) (snoc B i (b : Int)) (i + 1)) := by rw [pairs_snoc]; exact hO6
          have hP6 := pairs_read hO7
          obtain ⟨va6, vcap6, rfl⟩ := own_shape hO7
          have hJ6 := hP3.kept hk6
          have hK6 := hK3.trans hk6
          clear hO6 hgr6 hX6 hk6 hO7 hO5' hk5 hP3 hK3
          go_wp2_with fail
          refine (hC2'.out _ _ hP6).mono ?_
          rintro e w7 ⟨rfl, hk7⟩
          have hJ7 := hJ6.kept hk7
          have hK7 := hK6.trans hk7
          clear hP6 hJ6 hK6 hk7
          go_wp2_with fail
          refine (hC3'.out _ _ hJ7).mono ?_
          rintro e w8 ⟨rfl, hk8'⟩
          have hK8 := hK7.trans hk8'
          go_wp2_with fail
          refine (lives_any _).mono ?_
          rintro e w9 ⟨rfl, hk9⟩
          go_wp2_with fail
          go_ret
          exact ⟨rfl, hK8.trans hk9⟩
end Go.Proofs.Ytlnpipkhofhlnaa
