/-
  The law FootMoved: its changed outlines.
-/
import Derived.Test.YtfmcjbddbomohaaAl
namespace Go.Proofs.Ytfmcjbddbomohaa
open Go.RowKit Go.Deep

/-- what the closure has captured: three small numbers, and a factor -/
structure MovAt (w : World) (zb kb : Nat) (z0 z1 k : Int) : Prop where
  c0 : w.cell? ⟨zb, 0, none⟩ = some (.int .i8 z0)
  c1 : w.cell? ⟨zb, 1, none⟩ = some (.int .i8 z1)
  ck : w.cell? ⟨kb, 0, none⟩ = some (.int .i64 k)
theorem MovAt.kept {w w' : World} {zb kb : Nat} {z0 z1 k : Int} (h : MovAt w zb kb z0 z1 k) (kk : Kept w w') : MovAt w' zb kb z0 z1 k := ⟨kk.cellSome h.c0, kk.cellSome h.c1, kk.cellSome h.ck⟩
theorem mul_bd {k x : Int} (hk : 1 ≤ k ∧ k ≤ 9) (hx : -100 ≤ x ∧ x ≤ 100) : -900 ≤ k * x ∧ k * x ≤ 900 := by
  have h1 : k = 1 ∨ k = 2 ∨ k = 3 ∨ k = 4 ∨ k = 5 ∨ k = 6 ∨ k = 7 ∨ k = 8 ∨ k = 9 := by omega
  rcases h1 with rfl | rfl | rfl | rfl | rfl | rfl | rfl | rfl | rfl <;> omega
def movX (how : Nat) (z0 k : Int) (X Y : Nat → Int) : Nat → Int := fun i => if how = 0 then X i + z0 else if how = 1 then -Y i else if how = 2 then -X i else k * X i
def movY (how : Nat) (z1 k : Int) (X Y : Nat → Int) : Nat → Int := fun i => if how = 0 then Y i + z1 else if how = 1 then X i else if how = 2 then Y i else k * Y i
set_option maxRecDepth 100000 in
set_option maxHeartbeats 4000000 in
theorem changed0 (w : World) (a : Option Addr) (n cap zb kb : Nat) (z0 z1 k : Int) (X Y : Nat → Int) (hA : PairsAt w (.slice a n cap) n X Y) (hM : MovAt w zb kb z0 z1 k) (hz0 : -128 ≤ z0 ∧ z0 ≤ 127) (hz1 : -128 ≤ z1 ∧ z1 ≤ 127) (_hk : 1 ≤ k ∧ k ≤ 9) (hR : ∀ i, (-100 ≤ X i ∧ X i ≤ 100) ∧ (-100 ≤ Y i ∧ Y i ≤ 100)) (hn1 : 1 ≤ n) (hn : n ≤ 1000) :
    Calls Try.prog 43 #[.slice a n cap, .int .i64 0, .pointer (some ⟨zb, 0, none⟩), .pointer (some ⟨kb, 0, none⟩)] w (OwnPost w n (movX 0 z0 k X Y) (movY 0 z1 k X Y)) := by
  obtain ⟨_, b1, o1, _, e1, ha1, hc1⟩ := hA
  cases e1
  obtain rfl := ha1 (by omega)
  obtain ⟨i1, hi0, hq0, hq1, hq2⟩ := info_parts Try.infoPoint
  have HC := Lib.hid hc1
  have HR := Lib.hid hR
  have hO0 := own_zeroT w w.heap.size 78 2 (Nat.le_refl _)
  have hO1 : (w.alloc (.cells #[] 78)).ownsRow w.heap.size 78 2 (.slice (some ⟨w.heap.size, 0, none⟩) 0 0) 0 (pairs (movX 0 z0 k X Y) (movY 0 z1 k X Y) 0) := hO0
  have hK0 : Kept w (w.alloc (.cells #[] 78)) := (Kept.refl w).alloc _
  have wz0 : IntKind.i64.wrap z0 = z0 := IntWalk.i64_in _ (by omega)
  have wz1 : IntKind.i64.wrap z1 = z1 := IntWalk.i64_in _ (by omega)
  clear hc1 ha1 hO0 hR
  go_enter Try.func43, Try.ntmps43
  go_wp2_with fail
  generalize w.alloc (.cells #[] 78) = W0 at *
  go_loopg [7, 8] n (fun g s7 s8 wr => ∃ t : Nat, t ≤ n ∧ g = n - t ∧ s8 = .int .i64 t ∧ Kept w wr ∧ wr.ownsRow w.heap.size 78 2 s7 t (pairs (movX 0 z0 k X Y) (movY 0 z1 k X Y) t))
  case atStart => exact ⟨0, by omega, by omega, rfl, hK0, hO1⟩
  case round =>
    obtain ⟨t, htn, rfl, rfl, hK, hO⟩ := hrel
    clear hK0 hO1
    obtain ⟨oa, ocap, rfl, _⟩ := own_form hO
    by_cases hlt : t < n
    · obtain ⟨c0, c1⟩ := HC.out t hlt
      have t0 := hK.cellSome c0
      have t1 := hK.cellSome c1
      obtain ⟨bx, by'⟩ := HR.out t
      obtain ⟨x, HX⟩ : ∃ x, Hid (x = X t) := ⟨_, rfl⟩
      obtain ⟨y, HY⟩ : ∃ y, Hid (y = Y t) := ⟨_, rfl⟩
      rw [← HX.out] at t0 bx
      rw [← HY.out] at t1 by'
      have hkB : Kept wr (wr.alloc (.cells #[.int .i64 x, .int .i64 y] 78)) := (Kept.refl wr).alloc _
      have hM2 := (hM.kept hK).kept hkB
      have m0 := hM2.c0
      have m1 := hM2.c1
      have m2 := hM2.ck
      obtain ⟨d0, d1⟩ := box2 wr (.int .i64 x) (.int .i64 y) 78
      have hx2 : Hid (movX 0 z0 k X Y t = x + z0) := by show _ = _; unfold movX; simp [← HX.out]
      have hy2 : Hid (movY 0 z1 k X Y t = y + z1) := by show _ = _; unfold movY; simp [← HY.out]
      have hO2 := (hO.alloc (.cells #[.int .i64 (x + z0), .int .i64 (y + z1)] 78)).alloc (.cells #[.int .i64 (x + z0), .int .i64 (y + z1)] 78)
      have hK2 := (hK.alloc (.cells #[.int .i64 (x + z0), .int .i64 (y + z1)] 78)).alloc (.cells #[.int .i64 (x + z0), .int .i64 (y + z1)] 78)
      have hbx := blk_at (wr.alloc (.cells #[.int .i64 (x + z0), .int .i64 (y + z1)] 78)) (.int .i64 (x + z0)) (.int .i64 (y + z1)) 78 (wr.heap.size + 1) (by simp)
      have hnews : ∀ (j : Nat) u, [Value.int .i64 (x + z0), .int .i64 (y + z1)][j]? = some u → ((wr.alloc (.cells #[.int .i64 (x + z0), .int .i64 (y + z1)] 78)).alloc (.cells #[.int .i64 (x + z0), .int .i64 (y + z1)] 78)).cell? ((⟨wr.heap.size + 1, 0, none⟩ : Addr).add j) = some u := fun j u h => by
        have : j = 0 ∨ j = 1 := by
          rcases Nat.lt_or_ge j 2 with e | e
          · omega
          · rw [List.getElem?_eq_none (by simp; omega)] at h; cases h
        rcases this with rfl | rfl
        · cases h; rw [add_at]; exact hbx.1
        · cases h; rw [add_at]; exact hbx.2
      have HN := Lib.hid hnews
      have HO := Lib.hid hO2
      have HSZ := Lib.hid (Kept.size hK2)
      have hcap : t + 1 ≤ 100000 := by omega
      clear hnews hO2 hbx c0 c1
      go_wp2_with (first | (at_builtin; refine wpList_append_own _ rfl _ _ 22 rfl w.heap.size 78 i1 (.agg #[.int .i64 0, .int .i64 0]) 2 16 Try.underlying22 hi0 hq0 hq1 hq2 rfl (by decide) _ _ _ rfl HO.out ⟨wr.heap.size + 1, 0, none⟩ 1 1 [.int .i64 (x + z0), .int .i64 (y + z1)] rfl rfl HN.out (by simp [Value.oneCell']) ?c3 ?c4 HSZ.out ?_))
      case c3 => unfold maxLen; omega
      case c4 => omega
      intro v' w2 hO3 hgr _
      have hK3 : Kept w w2 := hK2.step (grew_X hgr HO.out) (fun i hi => hi)
      have hO4 : w2.ownsRow w.heap.size 78 2 v' (t + 1) (pairs (movX 0 z0 k X Y) (movY 0 z1 k X Y) (t + 1)) := by rw [pairs_snoc, hx2.out, hy2.out]; exact hO3
      clear HO HN hgr hO3 hK2 t0 t1 d0 d1 m0 m1 m2 hM2 hkB
      go_wp2_with fail
      go_roundg (n - (t + 1))
      case measure => omega
      case rel => exact ⟨t + 1, by omega, rfl, by go_num, hK3, hO4⟩
    · obtain rfl : t = n := by omega
      go_wp2_with fail
      go_ret
      exact ⟨_, rfl, hO, hK⟩
set_option maxRecDepth 100000 in
set_option maxHeartbeats 4000000 in
theorem changed1 (w : World) (a : Option Addr) (n cap zb kb : Nat) (z0 z1 k : Int) (X Y : Nat → Int) (hA : PairsAt w (.slice a n cap) n X Y) (hM : MovAt w zb kb z0 z1 k) (hz0 : -128 ≤ z0 ∧ z0 ≤ 127) (hz1 : -128 ≤ z1 ∧ z1 ≤ 127) (_hk : 1 ≤ k ∧ k ≤ 9) (hR : ∀ i, (-100 ≤ X i ∧ X i ≤ 100) ∧ (-100 ≤ Y i ∧ Y i ≤ 100)) (hn1 : 1 ≤ n) (hn : n ≤ 1000) :
    Calls Try.prog 43 #[.slice a n cap, .int .i64 1, .pointer (some ⟨zb, 0, none⟩), .pointer (some ⟨kb, 0, none⟩)] w (OwnPost w n (movX 1 z0 k X Y) (movY 1 z1 k X Y)) := by
  obtain ⟨_, b1, o1, _, e1, ha1, hc1⟩ := hA
  cases e1
  obtain rfl := ha1 (by omega)
  obtain ⟨i1, hi0, hq0, hq1, hq2⟩ := info_parts Try.infoPoint
  have HC := Lib.hid hc1
  have HR := Lib.hid hR
  have hO0 := own_zeroT w w.heap.size 78 2 (Nat.le_refl _)
  have hO1 : (w.alloc (.cells #[] 78)).ownsRow w.heap.size 78 2 (.slice (some ⟨w.heap.size, 0, none⟩) 0 0) 0 (pairs (movX 1 z0 k X Y) (movY 1 z1 k X Y) 0) := hO0
  have hK0 : Kept w (w.alloc (.cells #[] 78)) := (Kept.refl w).alloc _
  have wz0 : IntKind.i64.wrap z0 = z0 := IntWalk.i64_in _ (by omega)
  have wz1 : IntKind.i64.wrap z1 = z1 := IntWalk.i64_in _ (by omega)
  clear hc1 ha1 hO0 hR
  go_enter Try.func43, Try.ntmps43
  go_wp2_with fail
  generalize w.alloc (.cells #[] 78) = W0 at *
  go_loopg [7, 8] n (fun g s7 s8 wr => ∃ t : Nat, t ≤ n ∧ g = n - t ∧ s8 = .int .i64 t ∧ Kept w wr ∧ wr.ownsRow w.heap.size 78 2 s7 t (pairs (movX 1 z0 k X Y) (movY 1 z1 k X Y) t))
  case atStart => exact ⟨0, by omega, by omega, rfl, hK0, hO1⟩
  case round =>
    obtain ⟨t, htn, rfl, rfl, hK, hO⟩ := hrel
    clear hK0 hO1
    obtain ⟨oa, ocap, rfl, _⟩ := own_form hO
    by_cases hlt : t < n
    · obtain ⟨c0, c1⟩ := HC.out t hlt
      have t0 := hK.cellSome c0
      have t1 := hK.cellSome c1
      obtain ⟨bx, by'⟩ := HR.out t
      obtain ⟨x, HX⟩ : ∃ x, Hid (x = X t) := ⟨_, rfl⟩
      obtain ⟨y, HY⟩ : ∃ y, Hid (y = Y t) := ⟨_, rfl⟩
      rw [← HX.out] at t0 bx
      rw [← HY.out] at t1 by'
      have hkB : Kept wr (wr.alloc (.cells #[.int .i64 x, .int .i64 y] 78)) := (Kept.refl wr).alloc _
      have hM2 := (hM.kept hK).kept hkB
      have m0 := hM2.c0
      have m1 := hM2.c1
      have m2 := hM2.ck
      obtain ⟨d0, d1⟩ := box2 wr (.int .i64 x) (.int .i64 y) 78
      have hx2 : Hid (movX 1 z0 k X Y t = -y) := by show _ = _; unfold movX; simp [← HY.out]
      have hy2 : Hid (movY 1 z1 k X Y t = x) := by show _ = _; unfold movY; simp [← HX.out]
      have hO2 := (hO.alloc (.cells #[.int .i64 (-y), .int .i64 (x)] 78)).alloc (.cells #[.int .i64 (-y), .int .i64 (x)] 78)
      have hK2 := (hK.alloc (.cells #[.int .i64 (-y), .int .i64 (x)] 78)).alloc (.cells #[.int .i64 (-y), .int .i64 (x)] 78)
      have hbx := blk_at (wr.alloc (.cells #[.int .i64 (-y), .int .i64 (x)] 78)) (.int .i64 (-y)) (.int .i64 (x)) 78 (wr.heap.size + 1) (by simp)
      have hnews : ∀ (j : Nat) u, [Value.int .i64 (-y), .int .i64 (x)][j]? = some u → ((wr.alloc (.cells #[.int .i64 (-y), .int .i64 (x)] 78)).alloc (.cells #[.int .i64 (-y), .int .i64 (x)] 78)).cell? ((⟨wr.heap.size + 1, 0, none⟩ : Addr).add j) = some u := fun j u h => by
        have : j = 0 ∨ j = 1 := by
          rcases Nat.lt_or_ge j 2 with e | e
          · omega
          · rw [List.getElem?_eq_none (by simp; omega)] at h; cases h
        rcases this with rfl | rfl
        · cases h; rw [add_at]; exact hbx.1
        · cases h; rw [add_at]; exact hbx.2
      have HN := Lib.hid hnews
      have HO := Lib.hid hO2
      have HSZ := Lib.hid (Kept.size hK2)
      have hcap : t + 1 ≤ 100000 := by omega
      clear hnews hO2 hbx c0 c1
      go_wp2_with (first | (at_builtin; refine wpList_append_own _ rfl _ _ 22 rfl w.heap.size 78 i1 (.agg #[.int .i64 0, .int .i64 0]) 2 16 Try.underlying22 hi0 hq0 hq1 hq2 rfl (by decide) _ _ _ rfl HO.out ⟨wr.heap.size + 1, 0, none⟩ 1 1 [.int .i64 (-y), .int .i64 (x)] rfl rfl HN.out (by simp [Value.oneCell']) ?c3 ?c4 HSZ.out ?_))
      case c3 => unfold maxLen; omega
      case c4 => omega
      intro v' w2 hO3 hgr _
      have hK3 : Kept w w2 := hK2.step (grew_X hgr HO.out) (fun i hi => hi)
      have hO4 : w2.ownsRow w.heap.size 78 2 v' (t + 1) (pairs (movX 1 z0 k X Y) (movY 1 z1 k X Y) (t + 1)) := by rw [pairs_snoc, hx2.out, hy2.out]; exact hO3
      clear HO HN hgr hO3 hK2 t0 t1 d0 d1 m0 m1 m2 hM2 hkB
      go_wp2_with fail
      go_roundg (n - (t + 1))
      case measure => omega
      case rel => exact ⟨t + 1, by omega, rfl, by go_num, hK3, hO4⟩
    · obtain rfl : t = n := by omega
      go_wp2_with fail
      go_ret
      exact ⟨_, rfl, hO, hK⟩
set_option maxRecDepth 100000 in
set_option maxHeartbeats 4000000 in
theorem changed2 (w : World) (a : Option Addr) (n cap zb kb : Nat) (z0 z1 k : Int) (X Y : Nat → Int) (hA : PairsAt w (.slice a n cap) n X Y) (hM : MovAt w zb kb z0 z1 k) (hz0 : -128 ≤ z0 ∧ z0 ≤ 127) (hz1 : -128 ≤ z1 ∧ z1 ≤ 127) (_hk : 1 ≤ k ∧ k ≤ 9) (hR : ∀ i, (-100 ≤ X i ∧ X i ≤ 100) ∧ (-100 ≤ Y i ∧ Y i ≤ 100)) (hn1 : 1 ≤ n) (hn : n ≤ 1000) :
    Calls Try.prog 43 #[.slice a n cap, .int .i64 2, .pointer (some ⟨zb, 0, none⟩), .pointer (some ⟨kb, 0, none⟩)] w (OwnPost w n (movX 2 z0 k X Y) (movY 2 z1 k X Y)) := by
  obtain ⟨_, b1, o1, _, e1, ha1, hc1⟩ := hA
  cases e1
  obtain rfl := ha1 (by omega)
  obtain ⟨i1, hi0, hq0, hq1, hq2⟩ := info_parts Try.infoPoint
  have HC := Lib.hid hc1
  have HR := Lib.hid hR
  have hO0 := own_zeroT w w.heap.size 78 2 (Nat.le_refl _)
  have hO1 : (w.alloc (.cells #[] 78)).ownsRow w.heap.size 78 2 (.slice (some ⟨w.heap.size, 0, none⟩) 0 0) 0 (pairs (movX 2 z0 k X Y) (movY 2 z1 k X Y) 0) := hO0
  have hK0 : Kept w (w.alloc (.cells #[] 78)) := (Kept.refl w).alloc _
  have wz0 : IntKind.i64.wrap z0 = z0 := IntWalk.i64_in _ (by omega)
  have wz1 : IntKind.i64.wrap z1 = z1 := IntWalk.i64_in _ (by omega)
  clear hc1 ha1 hO0 hR
  go_enter Try.func43, Try.ntmps43
  go_wp2_with fail
  generalize w.alloc (.cells #[] 78) = W0 at *
  go_loopg [7, 8] n (fun g s7 s8 wr => ∃ t : Nat, t ≤ n ∧ g = n - t ∧ s8 = .int .i64 t ∧ Kept w wr ∧ wr.ownsRow w.heap.size 78 2 s7 t (pairs (movX 2 z0 k X Y) (movY 2 z1 k X Y) t))
  case atStart => exact ⟨0, by omega, by omega, rfl, hK0, hO1⟩
  case round =>
    obtain ⟨t, htn, rfl, rfl, hK, hO⟩ := hrel
    clear hK0 hO1
    obtain ⟨oa, ocap, rfl, _⟩ := own_form hO
    by_cases hlt : t < n
    · obtain ⟨c0, c1⟩ := HC.out t hlt
      have t0 := hK.cellSome c0
      have t1 := hK.cellSome c1
      obtain ⟨bx, by'⟩ := HR.out t
      obtain ⟨x, HX⟩ : ∃ x, Hid (x = X t) := ⟨_, rfl⟩
      obtain ⟨y, HY⟩ : ∃ y, Hid (y = Y t) := ⟨_, rfl⟩
      rw [← HX.out] at t0 bx
      rw [← HY.out] at t1 by'
      have hkB : Kept wr (wr.alloc (.cells #[.int .i64 x, .int .i64 y] 78)) := (Kept.refl wr).alloc _
      have hM2 := (hM.kept hK).kept hkB
      have m0 := hM2.c0
      have m1 := hM2.c1
      have m2 := hM2.ck
      obtain ⟨d0, d1⟩ := box2 wr (.int .i64 x) (.int .i64 y) 78
      have hx2 : Hid (movX 2 z0 k X Y t = -x) := by show _ = _; unfold movX; simp [← HX.out]
      have hy2 : Hid (movY 2 z1 k X Y t = y) := by show _ = _; unfold movY; simp [← HY.out]
      have hO2 := (hO.alloc (.cells #[.int .i64 (-x), .int .i64 (y)] 78)).alloc (.cells #[.int .i64 (-x), .int .i64 (y)] 78)
      have hK2 := (hK.alloc (.cells #[.int .i64 (-x), .int .i64 (y)] 78)).alloc (.cells #[.int .i64 (-x), .int .i64 (y)] 78)
      have hbx := blk_at (wr.alloc (.cells #[.int .i64 (-x), .int .i64 (y)] 78)) (.int .i64 (-x)) (.int .i64 (y)) 78 (wr.heap.size + 1) (by simp)
      have hnews : ∀ (j : Nat) u, [Value.int .i64 (-x), .int .i64 (y)][j]? = some u → ((wr.alloc (.cells #[.int .i64 (-x), .int .i64 (y)] 78)).alloc (.cells #[.int .i64 (-x), .int .i64 (y)] 78)).cell? ((⟨wr.heap.size + 1, 0, none⟩ : Addr).add j) = some u := fun j u h => by
        have : j = 0 ∨ j = 1 := by
          rcases Nat.lt_or_ge j 2 with e | e
          · omega
          · rw [List.getElem?_eq_none (by simp; omega)] at h; cases h
        rcases this with rfl | rfl
        · cases h; rw [add_at]; exact hbx.1
        · cases h; rw [add_at]; exact hbx.2
      have HN := Lib.hid hnews
      have HO := Lib.hid hO2
      have HSZ := Lib.hid (Kept.size hK2)
      have hcap : t + 1 ≤ 100000 := by omega
      clear hnews hO2 hbx c0 c1
      go_wp2_with (first | (at_builtin; refine wpList_append_own _ rfl _ _ 22 rfl w.heap.size 78 i1 (.agg #[.int .i64 0, .int .i64 0]) 2 16 Try.underlying22 hi0 hq0 hq1 hq2 rfl (by decide) _ _ _ rfl HO.out ⟨wr.heap.size + 1, 0, none⟩ 1 1 [.int .i64 (-x), .int .i64 (y)] rfl rfl HN.out (by simp [Value.oneCell']) ?c3 ?c4 HSZ.out ?_))
      case c3 => unfold maxLen; omega
      case c4 => omega
      intro v' w2 hO3 hgr _
      have hK3 : Kept w w2 := hK2.step (grew_X hgr HO.out) (fun i hi => hi)
      have hO4 : w2.ownsRow w.heap.size 78 2 v' (t + 1) (pairs (movX 2 z0 k X Y) (movY 2 z1 k X Y) (t + 1)) := by rw [pairs_snoc, hx2.out, hy2.out]; exact hO3
      clear HO HN hgr hO3 hK2 t0 t1 d0 d1 m0 m1 m2 hM2 hkB
      go_wp2_with fail
      go_roundg (n - (t + 1))
      case measure => omega
      case rel => exact ⟨t + 1, by omega, rfl, by go_num, hK3, hO4⟩
    · obtain rfl : t = n := by omega
      go_wp2_with fail
      go_ret
      exact ⟨_, rfl, hO, hK⟩
set_option maxRecDepth 100000 in
set_option maxHeartbeats 4000000 in
theorem changed3 (w : World) (a : Option Addr) (n cap zb kb : Nat) (z0 z1 k : Int) (X Y : Nat → Int) (hA : PairsAt w (.slice a n cap) n X Y) (hM : MovAt w zb kb z0 z1 k) (hz0 : -128 ≤ z0 ∧ z0 ≤ 127) (hz1 : -128 ≤ z1 ∧ z1 ≤ 127) (hk : 1 ≤ k ∧ k ≤ 9) (hR : ∀ i, (-100 ≤ X i ∧ X i ≤ 100) ∧ (-100 ≤ Y i ∧ Y i ≤ 100)) (hn1 : 1 ≤ n) (hn : n ≤ 1000) :
    Calls Try.prog 43 #[.slice a n cap, .int .i64 3, .pointer (some ⟨zb, 0, none⟩), .pointer (some ⟨kb, 0, none⟩)] w (OwnPost w n (movX 3 z0 k X Y) (movY 3 z1 k X Y)) := by
  obtain ⟨_, b1, o1, _, e1, ha1, hc1⟩ := hA
  cases e1
  obtain rfl := ha1 (by omega)
  obtain ⟨i1, hi0, hq0, hq1, hq2⟩ := info_parts Try.infoPoint
  have HC := Lib.hid hc1
  have HR := Lib.hid hR
  have hO0 := own_zeroT w w.heap.size 78 2 (Nat.le_refl _)
  have hO1 : (w.alloc (.cells #[] 78)).ownsRow w.heap.size 78 2 (.slice (some ⟨w.heap.size, 0, none⟩) 0 0) 0 (pairs (movX 3 z0 k X Y) (movY 3 z1 k X Y) 0) := hO0
  have hK0 : Kept w (w.alloc (.cells #[] 78)) := (Kept.refl w).alloc _
  have wz0 : IntKind.i64.wrap z0 = z0 := IntWalk.i64_in _ (by omega)
  have wz1 : IntKind.i64.wrap z1 = z1 := IntWalk.i64_in _ (by omega)
  clear hc1 ha1 hO0 hR
  go_enter Try.func43, Try.ntmps43
  go_wp2_with fail
  generalize w.alloc (.cells #[] 78) = W0 at *
  go_loopg [7, 8] n (fun g s7 s8 wr => ∃ t : Nat, t ≤ n ∧ g = n - t ∧ s8 = .int .i64 t ∧ Kept w wr ∧ wr.ownsRow w.heap.size 78 2 s7 t (pairs (movX 3 z0 k X Y) (movY 3 z1 k X Y) t))
  case atStart => exact ⟨0, by omega, by omega, rfl, hK0, hO1⟩
  case round =>
    obtain ⟨t, htn, rfl, rfl, hK, hO⟩ := hrel
    clear hK0 hO1
    obtain ⟨oa, ocap, rfl, _⟩ := own_form hO
    by_cases hlt : t < n
    · obtain ⟨c0, c1⟩ := HC.out t hlt
      have t0 := hK.cellSome c0
      have t1 := hK.cellSome c1
      obtain ⟨bx, by'⟩ := HR.out t
      obtain ⟨x, HX⟩ : ∃ x, Hid (x = X t) := ⟨_, rfl⟩
      obtain ⟨y, HY⟩ : ∃ y, Hid (y = Y t) := ⟨_, rfl⟩
      rw [← HX.out] at t0 bx
      rw [← HY.out] at t1 by'
      have hkB : Kept wr (wr.alloc (.cells #[.int .i64 x, .int .i64 y] 78)) := (Kept.refl wr).alloc _
      have hM2 := (hM.kept hK).kept hkB
      have m0 := hM2.c0
      have m1 := hM2.c1
      have m2 := hM2.ck
      obtain ⟨d0, d1⟩ := box2 wr (.int .i64 x) (.int .i64 y) 78
      have px := mul_bd (k := k) (x := x) hk bx
      have py := mul_bd (k := k) (x := y) hk by'
      have hx2 : Hid (movX 3 z0 k X Y t = k * x) := by show _ = _; unfold movX; simp [← HX.out]
      have hy2 : Hid (movY 3 z1 k X Y t = k * y) := by show _ = _; unfold movY; simp [← HY.out]
      have hO2 := (hO.alloc (.cells #[.int .i64 (k * x), .int .i64 (k * y)] 78)).alloc (.cells #[.int .i64 (k * x), .int .i64 (k * y)] 78)
      have hK2 := (hK.alloc (.cells #[.int .i64 (k * x), .int .i64 (k * y)] 78)).alloc (.cells #[.int .i64 (k * x), .int .i64 (k * y)] 78)
      have hbx := blk_at (wr.alloc (.cells #[.int .i64 (k * x), .int .i64 (k * y)] 78)) (.int .i64 (k * x)) (.int .i64 (k * y)) 78 (wr.heap.size + 1) (by simp)
      have hnews : ∀ (j : Nat) u, [Value.int .i64 (k * x), .int .i64 (k * y)][j]? = some u → ((wr.alloc (.cells #[.int .i64 (k * x), .int .i64 (k * y)] 78)).alloc (.cells #[.int .i64 (k * x), .int .i64 (k * y)] 78)).cell? ((⟨wr.heap.size + 1, 0, none⟩ : Addr).add j) = some u := fun j u h => by
        have : j = 0 ∨ j = 1 := by
          rcases Nat.lt_or_ge j 2 with e | e
          · omega
          · rw [List.getElem?_eq_none (by simp; omega)] at h; cases h
        rcases this with rfl | rfl
        · cases h; rw [add_at]; exact hbx.1
        · cases h; rw [add_at]; exact hbx.2
      have HN := Lib.hid hnews
      have HO := Lib.hid hO2
      have HSZ := Lib.hid (Kept.size hK2)
      have hcap : t + 1 ≤ 100000 := by omega
      clear hnews hO2 hbx c0 c1
      go_wp2_with (first | (at_builtin; refine wpList_append_own _ rfl _ _ 22 rfl w.heap.size 78 i1 (.agg #[.int .i64 0, .int .i64 0]) 2 16 Try.underlying22 hi0 hq0 hq1 hq2 rfl (by decide) _ _ _ rfl HO.out ⟨wr.heap.size + 1, 0, none⟩ 1 1 [.int .i64 (k * x), .int .i64 (k * y)] rfl rfl HN.out (by simp [Value.oneCell']) ?c3 ?c4 HSZ.out ?_))
      case c3 => unfold maxLen; omega
      case c4 => omega
      intro v' w2 hO3 hgr _
      have hK3 : Kept w w2 := hK2.step (grew_X hgr HO.out) (fun i hi => hi)
      have hO4 : w2.ownsRow w.heap.size 78 2 v' (t + 1) (pairs (movX 3 z0 k X Y) (movY 3 z1 k X Y) (t + 1)) := by rw [pairs_snoc, hx2.out, hy2.out]; exact hO3
      clear HO HN hgr hO3 hK2 t0 t1 d0 d1 m0 m1 m2 hM2 hkB
      go_wp2_with fail
      go_roundg (n - (t + 1))
      case measure => omega
      case rel => exact ⟨t + 1, by omega, rfl, by go_num, hK3, hO4⟩
    · obtain rfl : t = n := by omega
      go_wp2_with fail
      go_ret
      exact ⟨_, rfl, hO, hK⟩
end Go.Proofs.Ytfmcjbddbomohaa
