/-
  Package road: isPlace, meet, depth, distance.
-/
import Derived.Test.YtlgpclnmonpkjaaChecked
import Derived.Test.YtlgpclnmonpkjaaTa
import Derived.Outline
import Derived.Deep.QuietTactic
import Derived.BigQuiet
import Derived.Lib.Hide
import Derived.Deep.RegionHeld3
import Derived.Deep.RegionWith
import Derived.Deep.DeepCutAuto
namespace Go.Proofs.Ytlgpclnmonpkjaa
open Go.RowKit Go.Deep

theorem Try.info3 : (Try.prog.info? 3).map (fun i => (i.zero, i.size, i.bytes)) = some (some (.int .i64 0), 1, 8) := by kernel_rfl
/-- v is the tree of the road R -/
def TreeAt (w : World) (v : Value) (R : Road) : Prop :=
  ∃ x y z, v = .agg #[x, y, z] ∧ IntsAt w x R.n (fun i => ((R.on i : Nat) : Int)) ∧ IntsAt w y R.n (fun i => ((R.len i : Nat) : Int)) ∧ IntsAt w z R.n (fun i => ((R.deep i : Nat) : Int))
theorem TreeAt.kept {w w' : World} {v : Value} {R : Road} (h : TreeAt w v R) (k : Kept w w') : TreeAt w' v R := by
  obtain ⟨x, y, z, e, h1, h2, h3⟩ := h
  exact ⟨x, y, z, e, h1.kept k, h2.kept k, h3.kept k⟩
theorem TreeAt.open {w : World} {v : Value} {R : Road} (h : TreeAt w v R) (ok : R.Ok) : ∃ b0 o0 c0 b1 o1 c1 b2 o2 c2 : Nat,
    v = .agg #[.slice (some ⟨b0, o0, none⟩) R.n c0, .slice (some ⟨b1, o1, none⟩) R.n c1, .slice (some ⟨b2, o2, none⟩) R.n c2] ∧
    (∀ i, i < R.n → w.cell? ⟨b0, o0 + i, none⟩ = some (.int .i64 ((R.on i : Nat) : Int))) ∧ (∀ i, i < R.n → w.cell? ⟨b1, o1 + i, none⟩ = some (.int .i64 ((R.len i : Nat) : Int))) ∧ (∀ i, i < R.n → w.cell? ⟨b2, o2 + i, none⟩ = some (.int .i64 ((R.deep i : Nat) : Int))) := by
  obtain ⟨x, y, z, e, ⟨a0, b0, o0, c0, rfl, h0, k0⟩, ⟨a1, b1, o1, c1, rfl, h1, k1⟩, ⟨a2, b2, o2, c2, rfl, h2, k2⟩⟩ := h
  have := ok.pos
  obtain rfl := h0 (by omega)
  obtain rfl := h1 (by omega)
  obtain rfl := h2 (by omega)
  exact ⟨b0, o0, c0, b1, o1, c1, b2, o2, c2, e, k0, k1, k2⟩
def SpV (s : Sp) : Value := .agg #[.int .i64 ((s.1 : Nat) : Int), .int .i64 ((s.2 : Nat) : Int)]
theorem box3 (w : World) (a b c : Value) (t : TypeId) : (w.alloc (.cells #[a, b, c] t)).cell? ⟨w.heap.size, 0, none⟩ = some a ∧ (w.alloc (.cells #[a, b, c] t)).cell? ⟨w.heap.size, 1, none⟩ = some b ∧ (w.alloc (.cells #[a, b, c] t)).cell? ⟨w.heap.size, 2, none⟩ = some c := by
  refine ⟨?_, ?_, ?_⟩ <;> (unfold World.cell?; dsimp only; rw [blk_alloc_new]; rfl)
theorem blk3 (w : World) (a b c : Value) (t : TypeId) (s : Nat) (h : w.heap.size = s) : (w.alloc (.cells #[a, b, c] t)).cell? ⟨s, 0, none⟩ = some a ∧ (w.alloc (.cells #[a, b, c] t)).cell? ⟨s, 1, none⟩ = some b ∧ (w.alloc (.cells #[a, b, c] t)).cell? ⟨s, 2, none⟩ = some c := by subst h; exact box3 w a b c t
theorem box2 (w : World) (a b : Value) (t : TypeId) : (w.alloc (.cells #[a, b] t)).cell? ⟨w.heap.size, 0, none⟩ = some a ∧ (w.alloc (.cells #[a, b] t)).cell? ⟨w.heap.size, 1, none⟩ = some b := by
  constructor <;> (unfold World.cell?; dsimp only; rw [blk_alloc_new]; rfl)
theorem blk2 (w : World) (a b : Value) (t : TypeId) (s : Nat) (h : w.heap.size = s) : (w.alloc (.cells #[a, b] t)).cell? ⟨s, 0, none⟩ = some a ∧ (w.alloc (.cells #[a, b] t)).cell? ⟨s, 1, none⟩ = some b := by subst h; exact box2 w a b t
theorem newbox3 (w : World) (n : Nat) (hn : w.heap.size = n) (a b c : Value) (t : TypeId) : ∃ W, w.alloc (.cells #[a, b, c] t) = W ∧ W.heap.size = n + 1 ∧ W.cell? ⟨n, 0, none⟩ = some a ∧ W.cell? ⟨n, 1, none⟩ = some b ∧ W.cell? ⟨n, 2, none⟩ = some c ∧ Kept w W := by
  subst hn
  obtain ⟨h0, h1, h2⟩ := box3 w a b c t
  exact ⟨_, rfl, by simp, h0, h1, h2, (Kept.refl w).alloc _⟩
theorem keep9 {w w' : World} {a1 : Addr} {v1 : Value} {a2 : Addr} {v2 : Value} {a3 : Addr} {v3 : Value} {a4 : Addr} {v4 : Value} {a5 : Addr} {v5 : Value} {a6 : Addr} {v6 : Value} {a7 : Addr} {v7 : Value} {a8 : Addr} {v8 : Value} {a9 : Addr} {v9 : Value} (h1 : w.cell? a1 = some v1) (h2 : w.cell? a2 = some v2) (h3 : w.cell? a3 = some v3) (h4 : w.cell? a4 = some v4) (h5 : w.cell? a5 = some v5) (h6 : w.cell? a6 = some v6) (h7 : w.cell? a7 = some v7) (h8 : w.cell? a8 = some v8) (h9 : w.cell? a9 = some v9) (hk : Kept w w') : w'.cell? a1 = some v1 ∧ w'.cell? a2 = some v2 ∧ w'.cell? a3 = some v3 ∧ w'.cell? a4 = some v4 ∧ w'.cell? a5 = some v5 ∧ w'.cell? a6 = some v6 ∧ w'.cell? a7 = some v7 ∧ w'.cell? a8 = some v8 ∧ w'.cell? a9 = some v9 ∧ Kept w w' := ⟨hk.cellSome h1, hk.cellSome h2, hk.cellSome h3, hk.cellSome h4, hk.cellSome h5, hk.cellSome h6, hk.cellSome h7, hk.cellSome h8, hk.cellSome h9, hk⟩
theorem keep10 {w w' : World} {a1 : Addr} {v1 : Value} {a2 : Addr} {v2 : Value} {a3 : Addr} {v3 : Value} {a4 : Addr} {v4 : Value} {a5 : Addr} {v5 : Value} {a6 : Addr} {v6 : Value} {a7 : Addr} {v7 : Value} {a8 : Addr} {v8 : Value} {a9 : Addr} {v9 : Value} {a10 : Addr} {v10 : Value} (h1 : w.cell? a1 = some v1) (h2 : w.cell? a2 = some v2) (h3 : w.cell? a3 = some v3) (h4 : w.cell? a4 = some v4) (h5 : w.cell? a5 = some v5) (h6 : w.cell? a6 = some v6) (h7 : w.cell? a7 = some v7) (h8 : w.cell? a8 = some v8) (h9 : w.cell? a9 = some v9) (h10 : w.cell? a10 = some v10) (hk : Kept w w') : w'.cell? a1 = some v1 ∧ w'.cell? a2 = some v2 ∧ w'.cell? a3 = some v3 ∧ w'.cell? a4 = some v4 ∧ w'.cell? a5 = some v5 ∧ w'.cell? a6 = some v6 ∧ w'.cell? a7 = some v7 ∧ w'.cell? a8 = some v8 ∧ w'.cell? a9 = some v9 ∧ w'.cell? a10 = some v10 ∧ Kept w w' := ⟨hk.cellSome h1, hk.cellSome h2, hk.cellSome h3, hk.cellSome h4, hk.cellSome h5, hk.cellSome h6, hk.cellSome h7, hk.cellSome h8, hk.cellSome h9, hk.cellSome h10, hk⟩
theorem keep11 {w w' : World} {a1 : Addr} {v1 : Value} {a2 : Addr} {v2 : Value} {a3 : Addr} {v3 : Value} {a4 : Addr} {v4 : Value} {a5 : Addr} {v5 : Value} {a6 : Addr} {v6 : Value} {a7 : Addr} {v7 : Value} {a8 : Addr} {v8 : Value} {a9 : Addr} {v9 : Value} {a10 : Addr} {v10 : Value} {a11 : Addr} {v11 : Value} (h1 : w.cell? a1 = some v1) (h2 : w.cell? a2 = some v2) (h3 : w.cell? a3 = some v3) (h4 : w.cell? a4 = some v4) (h5 : w.cell? a5 = some v5) (h6 : w.cell? a6 = some v6) (h7 : w.cell? a7 = some v7) (h8 : w.cell? a8 = some v8) (h9 : w.cell? a9 = some v9) (h10 : w.cell? a10 = some v10) (h11 : w.cell? a11 = some v11) (hk : Kept w w') : w'.cell? a1 = some v1 ∧ w'.cell? a2 = some v2 ∧ w'.cell? a3 = some v3 ∧ w'.cell? a4 = some v4 ∧ w'.cell? a5 = some v5 ∧ w'.cell? a6 = some v6 ∧ w'.cell? a7 = some v7 ∧ w'.cell? a8 = some v8 ∧ w'.cell? a9 = some v9 ∧ w'.cell? a10 = some v10 ∧ w'.cell? a11 = some v11 ∧ Kept w w' := ⟨hk.cellSome h1, hk.cellSome h2, hk.cellSome h3, hk.cellSome h4, hk.cellSome h5, hk.cellSome h6, hk.cellSome h7, hk.cellSome h8, hk.cellSome h9, hk.cellSome h10, hk.cellSome h11, hk⟩
theorem keep12 {w w' : World} {a1 : Addr} {v1 : Value} {a2 : Addr} {v2 : Value} {a3 : Addr} {v3 : Value} {a4 : Addr} {v4 : Value} {a5 : Addr} {v5 : Value} {a6 : Addr} {v6 : Value} {a7 : Addr} {v7 : Value} {a8 : Addr} {v8 : Value} {a9 : Addr} {v9 : Value} {a10 : Addr} {v10 : Value} {a11 : Addr} {v11 : Value} {a12 : Addr} {v12 : Value} (h1 : w.cell? a1 = some v1) (h2 : w.cell? a2 = some v2) (h3 : w.cell? a3 = some v3) (h4 : w.cell? a4 = some v4) (h5 : w.cell? a5 = some v5) (h6 : w.cell? a6 = some v6) (h7 : w.cell? a7 = some v7) (h8 : w.cell? a8 = some v8) (h9 : w.cell? a9 = some v9) (h10 : w.cell? a10 = some v10) (h11 : w.cell? a11 = some v11) (h12 : w.cell? a12 = some v12) (hk : Kept w w') : w'.cell? a1 = some v1 ∧ w'.cell? a2 = some v2 ∧ w'.cell? a3 = some v3 ∧ w'.cell? a4 = some v4 ∧ w'.cell? a5 = some v5 ∧ w'.cell? a6 = some v6 ∧ w'.cell? a7 = some v7 ∧ w'.cell? a8 = some v8 ∧ w'.cell? a9 = some v9 ∧ w'.cell? a10 = some v10 ∧ w'.cell? a11 = some v11 ∧ w'.cell? a12 = some v12 ∧ Kept w w' := ⟨hk.cellSome h1, hk.cellSome h2, hk.cellSome h3, hk.cellSome h4, hk.cellSome h5, hk.cellSome h6, hk.cellSome h7, hk.cellSome h8, hk.cellSome h9, hk.cellSome h10, hk.cellSome h11, hk.cellSome h12, hk⟩
theorem newbox5 (w : World) (n : Nat) (hn : w.heap.size = n) (a b c d e : Value) (t : TypeId) : ∃ W, w.alloc (.cells #[a, b, c, d, e] t) = W ∧ W.heap.size = n + 1 ∧ W.cell? ⟨n, 0, none⟩ = some a ∧ W.cell? ⟨n, 1, none⟩ = some b ∧ W.cell? ⟨n, 2, none⟩ = some c ∧ W.cell? ⟨n, 3, none⟩ = some d ∧ W.cell? ⟨n, 4, none⟩ = some e ∧ Kept w W := by
  subst hn
  refine ⟨_, rfl, by simp, ?_, ?_, ?_, ?_, ?_, (Kept.refl w).alloc _⟩ <;> (unfold World.cell?; dsimp only; rw [blk_alloc_new]; rfl)
theorem newbox2 (w : World) (n : Nat) (hn : w.heap.size = n) (a b : Value) (t : TypeId) : ∃ W, w.alloc (.cells #[a, b] t) = W ∧ W.heap.size = n + 1 ∧ W.cell? ⟨n, 0, none⟩ = some a ∧ W.cell? ⟨n, 1, none⟩ = some b ∧ Kept w W := by
  subst hn
  obtain ⟨h0, h1⟩ := box2 w a b t
  exact ⟨_, rfl, by simp, h0, h1, (Kept.refl w).alloc _⟩
def bx3 (x y z : Value) : Nat → Value := fun i => if i = 0 then x else if i = 1 then y else z
theorem box_row3 (w : World) (x y z : Value) (t : TypeId) (s : Nat) (hs : w.heap.size = s) : (w.alloc (.cells #[x, y, z] t)).rowIs s t 3 (bx3 x y z) := by
  subst hs
  exact World.rowIs_alloc w #[x, y, z] t (bx3 x y z) (fun j hj => by
    have : j = 0 ∨ j = 1 ∨ j = 2 := by simp at hj; omega
    rcases this with rfl | rfl | rfl <;> rfl)
theorem bx3_set {w : World} {b : Nat} {t : TypeId} {x y z : Value} (h : w.rowIs b t 3 (bx3 x y z)) (x2 y2 z2 : Value) : (((w.setCell ⟨b, 0, none⟩ x2).setCell ⟨b, 1, none⟩ y2).setCell ⟨b, 2, none⟩ z2).rowIs b t 3 (bx3 x2 y2 z2) :=
  (((h.set 0 x2).set 1 y2).set 2 z2).congr (fun i hi => by
    have : i = 0 ∨ i = 1 ∨ i = 2 := by omega
    rcases this with rfl | rfl | rfl <;> simp [bx3])
def bx2 (x y : Value) : Nat → Value := fun i => if i = 0 then x else y
theorem box2row (w : World) (n : Nat) (hn : w.heap.size = n) (x y : Value) (t : TypeId) : (w.alloc (.cells #[x, y] t)).rowIs n t 2 (bx2 x y) := by
  subst hn
  exact World.rowIs_alloc w #[x, y] t (bx2 x y) (fun j hj => by
    have : j = 0 ∨ j = 1 := by simp at hj; omega
    rcases this with rfl | rfl <;> rfl)
theorem box2_set {w : World} {b : Nat} {t : TypeId} {x y : Value} (h : w.rowIs b t 2 (bx2 x y)) (x2 y2 : Value) : ((w.setCell ⟨b, 0, none⟩ x2).setCell ⟨b, 1, none⟩ y2).rowIs b t 2 (bx2 x2 y2) :=
  ((h.set 0 x2).set 1 y2).congr (fun i hi => by
    have : i = 0 ∨ i = 1 := by omega
    rcases this with rfl | rfl <;> simp [bx2])
/-- a result of two cells, stored -/
theorem fin2 {w W : World} {b : Nat} {t : TypeId} {x0 y0 : Value} (hk : Kept w W) (hb : w.heap.size ≤ b) (h : W.rowIs b t 2 (bx2 x0 y0)) (x y : Value) :
    ((W.setCell ⟨b, 0, none⟩ x).setCell ⟨b, 1, none⟩ y).cell? ⟨b, 0, none⟩ = some x ∧ ((W.setCell ⟨b, 0, none⟩ x).setCell ⟨b, 1, none⟩ y).cell? ⟨b, 1, none⟩ = some y ∧ Kept w ((W.setCell ⟨b, 0, none⟩ x).setCell ⟨b, 1, none⟩ y) :=
  have h2 := box2_set h x y
  ⟨h2.cell (i := 0) (by omega), h2.cell (i := 1) (by omega), (hk.setCell (p := ⟨b, 0, none⟩) hb x).setCell (p := ⟨b, 1, none⟩) hb y⟩
/-- all that a store of two cells wants, and what it gives -/
theorem fin2a {w W0 W : World} {b : Nat} {t : TypeId} {x0 y0 : Value} (h0 : W0.rowIs b t 2 (bx2 x0 y0)) (hk0 : Kept W0 W) (hk : Kept w W) (hb : w.heap.size ≤ b) (x y : Value) :
    W.frozen? ⟨b, 0, none⟩ = false ∧ W.frozen? ⟨b, 1, none⟩ = false ∧ W.cell? ⟨b, 0, none⟩ = some x0 ∧ W.cell? ⟨b, 1, none⟩ = some y0 ∧
    ((W.setCell ⟨b, 0, none⟩ x).setCell ⟨b, 1, none⟩ y).cell? ⟨b, 0, none⟩ = some x ∧ ((W.setCell ⟨b, 0, none⟩ x).setCell ⟨b, 1, none⟩ y).cell? ⟨b, 1, none⟩ = some y ∧ Kept w ((W.setCell ⟨b, 0, none⟩ x).setCell ⟨b, 1, none⟩ y) :=
  have h := hk0.row h0
  have r := fin2 hk hb h x y
  ⟨h.frozen 0, h.frozen 1, h.cell (i := 0) (by omega), h.cell (i := 1) (by omega), r.1, r.2.1, r.2.2⟩
set_option maxRecDepth 100000 in
theorem isPlace_any (w : World) (a0 a1 a2 : Option Addr) (n c0 n1 c1 n2 c2 : Nat) (p : Int) :
    Calls Try.prog 70 #[.agg #[.slice a0 n c0, .slice a1 n1 c1, .slice a2 n2 c2], .int .i64 p] w fun e w' => e = .returned (.bool (decide (0 ≤ p) && decide (p < n))) ∧ Kept w w' := by
  obtain ⟨p0, p1, p2⟩ := box3 w (.slice a0 n c0) (.slice a1 n1 c1) (.slice a2 n2 c2) 88
  have hK := (Kept.refl w).alloc (.cells #[.slice a0 n c0, .slice a1 n1 c1, .slice a2 n2 c2] 88)
  cases e1 : decide (0 ≤ p) <;> cases e2 : decide (p < (n : Int))
  all_goals
    go_enter Try.func70, Try.ntmps70
    go_wp2
    go_ret
    exact ⟨rfl, hK⟩
set_option maxRecDepth 100000 in
set_option maxHeartbeats 1000000 in
theorem meet_any (w : World) (v : Value) (R : Road) (ok : R.Ok) (hT : TreeAt w v R) (p q : Nat) (hp : p < R.n) (hq : q < R.n) :
    Calls Try.prog 71 #[v, .int .i64 p, .int .i64 q] w fun e w' => e = .returned (.int .i64 ((R.meet p q : Nat) : Int)) ∧ Kept w w' := by
  obtain ⟨b0, o0, c0, b1, o1, c1, b2, o2, c2, rfl, k0, _, _⟩ := hT.open ok
  have hn := ok.max
  obtain ⟨p0, _⟩ := box3 w (.slice (some ⟨b0, o0, none⟩) R.n c0) (.slice (some ⟨b1, o1, none⟩) R.n c1) (.slice (some ⟨b2, o2, none⟩) R.n c2) 88
  have hK := (Kept.refl w).alloc (.cells #[.slice (some ⟨b0, o0, none⟩) R.n c0, .slice (some ⟨b1, o1, none⟩) R.n c1, .slice (some ⟨b2, o2, none⟩) R.n c2] 88)
  have HC := Lib.hid k0
  have OK := Lib.hid ok
  clear k0 hT ok
  go_enter Try.func71, Try.ntmps71
  go_wp2_with fail
  go_loopg [1, 2] (p + q) (fun g s1 s2 wr => ∃ a b : Nat, g = a + b ∧ s1 = .int .i64 a ∧ s2 = .int .i64 b ∧ a < R.n ∧ b < R.n ∧ Hid (R.top (a, 0) (b, 0) = R.top (p, 0) (q, 0)) ∧ Hid (R.au (a, 0) (R.top (a, 0) (b, 0)) = R.au (p, 0) (R.top (p, 0) (q, 0))) ∧ Kept w wr ∧ wr.cell? ⟨w.heap.size, 0, none⟩ = some (.slice (some ⟨b0, o0, none⟩) R.n c0))
  case atStart => exact ⟨p, q, rfl, rfl, rfl, hp, hq, rfl, rfl, hK, p0⟩
  case round =>
    clear p0 hK
    obtain ⟨a, b, rfl, rfl, rfl, ha, hb, h1, h2, hK, p0⟩ := hrel
    by_cases e : a = b
    · subst e
      have n1 : ((a : Int) != (a : Int)) = false := by simp
      go_wp2_with fail
      go_ret
      refine ⟨ret_int ?_, hK⟩
      unfold Road.meet
      rw [← h2.out, Road.top_self OK.out (Road.place_spot ha), Road.au_self]
    · have n1 : ((a : Int) != (b : Int)) = true := by simp; omega
      by_cases hlt : b < a
      · have hc := hK.cellSome (HC.out a ha)
        have n2 : (b : Int) < (a : Int) := by omega
        have n3 : (a : Int) < (R.n : Int) := by omega
        obtain ⟨g1, g2, g3, g4⟩ := Road.meet_left OK.out ha hlt
        have G3 := Lib.hid g3
        have G4 := Lib.hid g4
        obtain ⟨c, HCC⟩ : ∃ c, Hid (c = R.on a) := ⟨_, rfl⟩
        rw [← HCC.out] at hc g1 g2 G3 G4
        clear g3 g4 HCC
        go_wp2_with fail
        go_roundg (c + b)
        case measure => omega
        case rel => exact ⟨c, b, rfl, rfl, rfl, g1, hb, by show _ = _; rw [G3.out]; exact h1.out, by show _ = _; rw [G3.out, G4.out]; exact h2.out, hK, p0⟩
      · have hc := hK.cellSome (HC.out b hb)
        have n2 : ¬ (b : Int) < (a : Int) := by omega
        have n3 : (b : Int) < (R.n : Int) := by omega
        obtain ⟨g1, g2, g3⟩ := Road.meet_right OK.out hb (show a < b by omega)
        have G3 := Lib.hid g3
        obtain ⟨c, HCC⟩ : ∃ c, Hid (c = R.on b) := ⟨_, rfl⟩
        rw [← HCC.out] at hc g1 g2 G3
        clear g3 HCC
        go_wp2_with fail
        go_roundg (a + c)
        case measure => omega
        case rel => exact ⟨a, c, rfl, rfl, rfl, ha, g1, by show _ = _; rw [G3.out]; exact h1.out, by show _ = _; rw [G3.out]; exact h2.out, hK, p0⟩
set_option maxRecDepth 100000 in
set_option maxHeartbeats 1000000 in
theorem depth_any (w : World) (v : Value) (R : Road) (ok : R.Ok) (hT : TreeAt w v R) (s : Sp) (hs : R.spot s) :
    Calls Try.prog 72 #[v, SpV s] w fun e w' => e = .returned (.int .i64 ((R.dep s : Nat) : Int)) ∧ Kept w w' := by
  obtain ⟨b0, o0, c0, b1, o1, c1, b2, o2, c2, rfl, _, _, k2⟩ := hT.open ok
  obtain ⟨p, u⟩ := s
  have hsp := hs.1
  have hle := Road.spot_le ok hs
  have hd := Road.deep_le ok p hsp
  have hn := ok.max
  simp only at hsp hle hd
  have hdep : Hid (((R.dep (p, u) : Nat) : Int) = ((R.deep p : Nat) : Int) - (u : Int)) := by show _ = _; unfold Road.dep; simp only; omega
  unfold SpV
  simp only
  obtain ⟨y0, y1, y2⟩ := box3 w (.slice (some ⟨b0, o0, none⟩) R.n c0) (.slice (some ⟨b1, o1, none⟩) R.n c1) (.slice (some ⟨b2, o2, none⟩) R.n c2) 88
  have hK := (Kept.refl w).alloc (.cells #[.slice (some ⟨b0, o0, none⟩) R.n c0, .slice (some ⟨b1, o1, none⟩) R.n c1, .slice (some ⟨b2, o2, none⟩) R.n c2] 88)
  have hsz : (w.alloc (.cells #[.slice (some ⟨b0, o0, none⟩) R.n c0, .slice (some ⟨b1, o1, none⟩) R.n c1, .slice (some ⟨b2, o2, none⟩) R.n c2] 88)).heap.size = w.heap.size + 1 := by simp
  obtain ⟨z0, z1⟩ := blk2 (w.alloc (.cells #[.slice (some ⟨b0, o0, none⟩) R.n c0, .slice (some ⟨b1, o1, none⟩) R.n c1, .slice (some ⟨b2, o2, none⟩) R.n c2] 88)) (.int .i64 (p : Int)) (.int .i64 (u : Int)) 26 (w.heap.size + 1) hsz
  have x2 := ((Kept.refl _).alloc (.cells #[.int .i64 (p : Int), .int .i64 (u : Int)] 26)).cellSome y2
  have hK2 := hK.alloc (.cells #[.int .i64 (p : Int), .int .i64 (u : Int)] 26)
  have hc := hK2.cellSome (k2 p hsp)
  clear y0 y1 y2 hK hsz k2 hT
  go_enter Try.func72, Try.ntmps72
  go_wp2_with fail
  generalize (w.alloc (.cells #[.slice (some ⟨b0, o0, none⟩) R.n c0, .slice (some ⟨b1, o1, none⟩) R.n c1, .slice (some ⟨b2, o2, none⟩) R.n c2] 88)).alloc (.cells #[.int .i64 (p : Int), .int .i64 (u : Int)] 26) = W at *
  obtain ⟨d, HD⟩ : ∃ d, Hid (d = R.deep p) := ⟨_, rfl⟩
  rw [← HD.out] at hc hle hd hdep
  have s1 : IntKind.i64.wrap ((d : Int) - (u : Int)) = (d : Int) - (u : Int) := IntWalk.i64_in _ (by omega)
  have n3 : (p : Int) < (R.n : Int) := by omega
  clear HD
  go_quiet (fail)
  go_wp2_with fail
  go_ret
  exact ⟨ret_int hdep.out.symm, hK2.drewN _⟩
end Go.Proofs.Ytlgpclnmonpkjaa
