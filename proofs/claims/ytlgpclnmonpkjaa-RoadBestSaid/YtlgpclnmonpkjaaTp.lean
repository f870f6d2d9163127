/-
  Package road: serve.
-/
import Derived.Test.YtlgpclnmonpkjaaTo
namespace Go.Proofs.Ytlgpclnmonpkjaa
open Go.RowKit Go.Deep

theorem mkInts (m : Int) (n : Nat) (h : m = n) (hn : n ≤ 1000000) (w : World) :
    (Instr.makeSlice 22 (.int .i64 m) (.int .i64 m)).run Try.prog w = .ok (.slice (some ⟨w.heap.size, 0, none⟩) n n) (w.alloc (.cells (madeCells #[.int .i64 0] n) 3)) := by
  subst h
  exact run_make_row' (P := Try.prog) 22 3 (.int .i64 0) 8 Try.underlying22 Try.info3 rfl .i64 .i64 n (by omega) (by omega) w
theorem row_at (W : World) (z : Value) (n : Nat) (t : TypeId) (b : Nat) (hb : b = W.heap.size) : (W.alloc (.cells (madeCells #[z] n) t)).rowIs b t n (fun _ => z) := by
  subst hb
  exact World.rowIs_made W z n t
/-- a box of five cells -/
def bx5 (a b c d e : Value) : Nat → Value := fun i => if i = 0 then a else if i = 1 then b else if i = 2 then c else if i = 3 then d else e
theorem box5row (w : World) (n : Nat) (hn : w.heap.size = n) (a b c d e : Value) (t : TypeId) : (w.alloc (.cells #[a, b, c, d, e] t)).rowIs n t 5 (bx5 a b c d e) := by
  subst hn
  exact World.rowIs_alloc w #[a, b, c, d, e] t (bx5 a b c d e) (fun j hj => by
    have : j = 0 ∨ j = 1 ∨ j = 2 ∨ j = 3 ∨ j = 4 := by simp at hj; omega
    rcases this with rfl | rfl | rfl | rfl | rfl <;> rfl)
theorem bx5_cells {w : World} {g : Nat} {t : TypeId} {a b c d e : Value} (h : w.rowIs g t 5 (bx5 a b c d e)) : w.cell? ⟨g, 0, none⟩ = some a ∧ w.cell? ⟨g, 1, none⟩ = some b ∧ w.cell? ⟨g, 2, none⟩ = some c ∧ w.cell? ⟨g, 3, none⟩ = some d ∧ w.cell? ⟨g, 4, none⟩ = some e ∧ w.frozen? ⟨g, 3, none⟩ = false ∧ w.frozen? ⟨g, 4, none⟩ = false :=
  ⟨h.cell (i := 0) (by omega), h.cell (i := 1) (by omega), h.cell (i := 2) (by omega), h.cell (i := 3) (by omega), h.cell (i := 4) (by omega), h.frozen 3, h.frozen 4⟩
theorem bx5_set3 {w : World} {g : Nat} {t : TypeId} {a b c d e : Value} (h : w.rowIs g t 5 (bx5 a b c d e)) (x : Value) : (w.setCell ⟨g, 3, none⟩ x).rowIs g t 5 (bx5 a b c x e) :=
  (h.set 3 x).congr (fun i hi => by
    have : i = 0 ∨ i = 1 ∨ i = 2 ∨ i = 3 ∨ i = 4 := by omega
    rcases this with rfl | rfl | rfl | rfl | rfl <;> simp [bx5])
theorem bx5_set4 {w : World} {g : Nat} {t : TypeId} {a b c d e : Value} (h : w.rowIs g t 5 (bx5 a b c d e)) (x : Value) : (w.setCell ⟨g, 4, none⟩ x).rowIs g t 5 (bx5 a b c d x) :=
  (h.set 4 x).congr (fun i hi => by
    have : i = 0 ∨ i = 1 ∨ i = 2 ∨ i = 3 ∨ i = 4 := by omega
    rcases this with rfl | rfl | rfl | rfl | rfl <;> simp [bx5])
theorem row_type {w : World} {g : Nat} {t t2 : TypeId} {n : Nat} {f : Nat → Value} {cs : Array Value} {ff : Nat × Nat} (h : w.rowIs g t n f) (h2 : w.heap[g]? = some (.cells cs t2 ff)) : t = t2 := by
  obtain ⟨cur, hc, _⟩ := h
  rw [hc] at h2
  injection h2 with h2
  injection h2
/-- spots lie in no row of another type -/
theorem spots_set {w : World} {B g i : Nat} {t : TypeId} {n k : Nat} {f : Nat → Value} {v : Value} {xs : List Value} (h : w.ownsRow B 26 2 v k xs) (hr : w.rowIs g t n f) (ht : t ≠ 26) (u : Value) : (w.setCell ⟨g, i, none⟩ u).ownsRow B 26 2 v k xs :=
  own_keptY h ((KeptX.refl (fun b => b = g) w).setCell (p := ⟨g, i, none⟩) (Or.inl rfl) u) (fun b c ff hb _ hS => by
    subst hS
    exact ht (row_type hr hb))
theorem row_other {w : World} {g g2 i : Nat} {t : TypeId} {n : Nat} {f : Nat → Value} (h : w.rowIs g t n f) (hne : g ≠ g2) (u : Value) : (w.setCell ⟨g2, i, none⟩ u).rowIs g t n f :=
  KeptX.row ((KeptX.refl (fun b => b = g2) w).setCell (p := ⟨g2, i, none⟩) (Or.inl rfl) u) h hne
theorem bx5_all {w : World} {g : Nat} {t : TypeId} {a b c d e : Value} (h : w.rowIs g t 5 (bx5 a b c d e)) : w.cell? ⟨g, 0, none⟩ = some a ∧ w.cell? ⟨g, 1, none⟩ = some b ∧ w.cell? ⟨g, 2, none⟩ = some c ∧ w.cell? ⟨g, 3, none⟩ = some d ∧ w.cell? ⟨g, 4, none⟩ = some e ∧ w.frozen? ⟨g, 0, none⟩ = false ∧ w.frozen? ⟨g, 1, none⟩ = false ∧ w.frozen? ⟨g, 2, none⟩ = false ∧ w.frozen? ⟨g, 3, none⟩ = false ∧ w.frozen? ⟨g, 4, none⟩ = false :=
  ⟨h.cell (i := 0) (by omega), h.cell (i := 1) (by omega), h.cell (i := 2) (by omega), h.cell (i := 3) (by omega), h.cell (i := 4) (by omega), h.frozen 0, h.frozen 1, h.frozen 2, h.frozen 3, h.frozen 4⟩
theorem fill5 {w : World} {G B k : Nat} {a0 b0 c0 d0 e0 v : Value} {xs : List Value} (hr : w.rowIs G 98 5 (bx5 a0 b0 c0 d0 e0)) (hO : w.ownsRow B 26 2 v k xs) (a b c d e : Value) :
    (((((w.setCell ⟨G, 0, none⟩ a).setCell ⟨G, 1, none⟩ b).setCell ⟨G, 2, none⟩ c).setCell ⟨G, 3, none⟩ d).setCell ⟨G, 4, none⟩ e).rowIs G 98 5 (bx5 a b c d e) ∧
    (((((w.setCell ⟨G, 0, none⟩ a).setCell ⟨G, 1, none⟩ b).setCell ⟨G, 2, none⟩ c).setCell ⟨G, 3, none⟩ d).setCell ⟨G, 4, none⟩ e).ownsRow B 26 2 v k xs ∧
    ∀ w0 : World, Kept w0 w → w0.heap.size ≤ G → Kept w0 (((((w.setCell ⟨G, 0, none⟩ a).setCell ⟨G, 1, none⟩ b).setCell ⟨G, 2, none⟩ c).setCell ⟨G, 3, none⟩ d).setCell ⟨G, 4, none⟩ e) := by
  have h1 := hr.set 0 a
  have h2 := h1.set 1 b
  have h3 := h2.set 2 c
  have h4 := h3.set 3 d
  have h5 := h4.set 4 e
  have n1 : 98 ≠ 26 := by decide
  refine ⟨h5.congr (fun i hi => by
    have : i = 0 ∨ i = 1 ∨ i = 2 ∨ i = 3 ∨ i = 4 := by omega
    rcases this with rfl | rfl | rfl | rfl | rfl <;> simp [bx5]), spots_set (spots_set (spots_set (spots_set (spots_set hO hr n1 a) h1 n1 b) h2 n1 c) h3 n1 d) h4 n1 e, fun w0 hk hg => ?_⟩
  exact ((((hk.setCell (p := ⟨G, 0, none⟩) hg a).setCell (p := ⟨G, 1, none⟩) hg b).setCell (p := ⟨G, 2, none⟩) hg c).setCell (p := ⟨G, 3, none⟩) hg d).setCell (p := ⟨G, 4, none⟩) hg e
def ServePost (w : World) (R : Road) (k m : Nat) (C : Nat → Nat) (H : Nat → Sp) (e : Ending) (w' : World) : Prop :=
  ∃ v cr, e = .returned (.tuple #[v, .slice (some ⟨cr, 0, none⟩) m m]) ∧ SpsAt w' v k (servH R k C H m) ∧ w'.rowIs cr 3 m (fun j => .int .i64 ((servC R k C H j : Nat) : Int)) ∧ w.heap.size ≤ cr ∧ Kept w w'
set_option maxRecDepth 100000 in
set_option maxHeartbeats 4000000 in
theorem serve_any (w : World) (v hv cv : Value) (R : Road) (ok : R.Ok) (hT : TreeAt w v R) (k m : Nat) (H : Nat → Sp) (C : Nat → Nat) (hP : SpsAt w hv k H) (hCs : IntsAt w cv m (fun i => ((C i : Nat) : Int))) (hk1 : 1 ≤ k) (hk : k ≤ 100) (hm : m ≤ 100) (hS : ∀ i, i < k → R.spot (H i)) (hC : ∀ i, i < m → C i < R.n) :
    Calls Try.prog 56 #[v, hv, cv] w (ServePost w R k m C H) := by
  obtain ⟨b0, o0, c0, b1, o1, c1, b2, o2, c2, rfl, _, _, _⟩ := hT.open ok
  have hP0 := hP
  obtain ⟨a, hb, ho, hcap, rfl, ha, hc⟩ := hP
  obtain rfl := ha (by omega)
  obtain ⟨ca, cb, co, ccap, rfl, hca, hcc⟩ := hCs
  have CL := Lib.hid (fun W (hW : SpsAt W (.slice (some ⟨hb, ho, none⟩) k hcap) k H) => clone_any W _ k H hW hk1 hk)
  obtain ⟨n0, HN0⟩ : ∃ n0, w.heap.size = n0 := ⟨_, rfl⟩
  obtain ⟨W1, hW1, hsz, q0, q1, q2, hK⟩ := newbox3 w n0 HN0 (.slice (some ⟨b0, o0, none⟩) R.n c0) (.slice (some ⟨b1, o1, none⟩) R.n c1) (.slice (some ⟨b2, o2, none⟩) R.n c2) 88
  have hmk := fun w => mkInts (m : Int) m rfl (by omega) w
  have hrc := row_at W1 (.int .i64 0) m 3 (n0 + 1) hsz.symm
  have hK1 := (Kept.refl W1).alloc (.cells (madeCells #[.int .i64 0] m) 3)
  obtain ⟨W2, hW2, hsz2⟩ : ∃ W2, W1.alloc (.cells (madeCells #[.int .i64 0] m) 3) = W2 ∧ W2.heap.size = n0 + 1 + 1 := ⟨_, rfl, by simp [hsz]⟩
  rw [hW2] at hrc hK1
  obtain ⟨q0', q1', q2', _⟩ := keep3 q0 q1 q2 hK1
  have hP2 := hP0.kept (hK.trans hK1)
  have hK2 := hK.trans hK1
  have hBw : ∀ n, W2.heap.size ≤ n → w.heap.size ≤ n := fun n h => Nat.le_trans hK2.size h
  clear hP0 hc q0 q1 q2
  go_enter Try.func56, Try.ntmps56
  go_upto_region 2 with fail
  have hn0w : w.heap.size ≤ n0 + 1 := by omega
  clear hmk hW1 hW2 hsz HN0
  go_cut [9] (fun v9 wx => ∃ G gv B, v9 = .pointer (some ⟨G, 0, none⟩) ∧ wx.rowIs G 98 5 (bx5 (.slice (some ⟨b0, o0, none⟩) R.n c0) (.slice (some ⟨b1, o1, none⟩) R.n c1) (.slice (some ⟨b2, o2, none⟩) R.n c2) gv (.int .i64 0)) ∧ wx.ownsRow B 26 2 gv k (spsL H k) ∧ W2.heap.size ≤ G ∧ w.heap.size ≤ B ∧ Kept W2 wx)
  case first =>
    refine wp_region_held_drew (S := (fun w' => w'.cell? ⟨n0, 0, none⟩ = some (.slice (some ⟨b0, o0, none⟩) R.n c0) ∧ w'.cell? ⟨n0, 1, none⟩ = some (.slice (some ⟨b1, o1, none⟩) R.n c1) ∧ w'.cell? ⟨n0, 2, none⟩ = some (.slice (some ⟨b2, o2, none⟩) R.n c2) ∧ Kept W2 w')) (by kernel_rfl) ?_ (fun hHeld => ?_)
    · (try dsimp only)
      exact keep3 q0' q1' q2' (by repeat (first | assumption | exact Kept.refl _ | apply Kept.drew | apply Kept.drewN | apply Kept.alloc | refine Kept.trans ?_ (by assumption)))
    refine wpAnyH_take (i := 0) (oi := { dst := some 17, op := Go.Op.load 88 (Go.Operand.tmp 3), type := 88, pos := "going.go:66", after := #[], guard := none }) (v := ?v1) rfl (by kernel_rfl) (by kernel_rfl) (by kernel_rfl) (fun _ _ _ h => h) (Or.inl ⟨by rfl, ?hy1⟩) (by assumption) ?rs1
    case hy1 =>
      intro w hSw
      (try dsimp only at hSw)
      go_simp
      try with_reducible rfl
    (try simp only [Act.put, List.setIfInBounds_toArray, List.set_cons_zero, List.set_cons_succ])
    refine wpAnyH_take (i := 1) (oi := { dst := some 18, op := Go.Op.move (Go.Operand.tmp 1), type := 36, pos := "going.go:66", after := #[], guard := none }) (v := ?v2) rfl (by kernel_rfl) (by kernel_rfl) (by kernel_rfl) (fun _ _ _ h => h) (Or.inl ⟨by rfl, ?hy2⟩) (by assumption) ?rs2
    case hy2 =>
      intro w hSw
      (try dsimp only at hSw)
      go_simp
      try with_reducible rfl
    (try simp only [Act.put, List.setIfInBounds_toArray, List.set_cons_zero, List.set_cons_succ])
    refine wpAnyH_ready (rs := [2, 4]) (by kernel_rfl) (by simp) ?_
    refine AllReadyH.cons (o := { dst := some 19, op := Go.Op.call { callee := Go.Callee.value (Go.Operand.func 77), args := #[Go.Operand.tmp 18], argTypes := #[36] }, type := 36, pos := "going.go:66", after := #[{ on := 1, ground := Go.Ground.data }], guard := none }) rfl (fun K2 hK2 => ?_) (AllReadyH.cons (o := { dst := some 9, op := Go.Op.alloc 98, type := 0, pos := "going.go:66", after := #[], guard := none }) rfl (fun K4 hK4 => ?_) AllReadyH.nil)
    · skip
      go_simp
      (go_at_call 77; refine (CL.out _ (hP2.kept (by repeat (first | assumption | exact Kept.refl _ | apply Kept.drew | apply Kept.drewN | apply Kept.alloc | refine Kept.trans ?_ (by assumption))))).mono ?_; rintro e w3 ⟨gv, rfl, hC3, hk3⟩; obtain ⟨gg, gc, rfl⟩ := own_some hC3 hk1)
      (try go_wp2_with fail)
      refine hK2.out _ _ ?_ (fun hHeld => ?_)
      · (try dsimp only)
        exact keep3 q0' q1' q2' (by repeat (first | assumption | exact Kept.refl _ | apply Kept.drew | apply Kept.drewN | apply Kept.alloc | refine Kept.trans ?_ (by assumption)))
      (try simp only [Act.put, List.setIfInBounds_toArray, List.set_cons_zero, List.set_cons_succ])
      refine wpAnyH_take (i := 3) (oi := { dst := some 20, op := Go.Op.build 98 #[(0, Go.Operand.tmp 17), (1, Go.Operand.tmp 19)], type := 98, pos := "going.go:66", after := #[{ on := 0, ground := Go.Ground.data }, { on := 2, ground := Go.Ground.data }], guard := none }) (v := ?v3) rfl (by kernel_rfl) (by kernel_rfl) (by kernel_rfl) (fun _ _ _ h => h) (Or.inl ⟨by rfl, ?hy3⟩) (by assumption) ?rs3
      case hy3 =>
        intro w hSw
        (try dsimp only at hSw)
        go_simp
        try with_reducible rfl
      (try simp only [Act.put, List.setIfInBounds_toArray, List.set_cons_zero, List.set_cons_succ])
      refine wpAnyH_ready (rs := [4]) (by kernel_rfl) (by simp) ?_
      refine AllReadyH.cons (o := { dst := some 9, op := Go.Op.alloc 98, type := 0, pos := "going.go:66", after := #[], guard := none }) rfl (fun K4 hK4 => ?_) AllReadyH.nil
      go_simp
      skip
      (try go_wp2_with fail)
      refine hK4.out _ _ ?_ (fun hHeld => ?_)
      · (try dsimp only)
        exact keep3 q0' q1' q2' (by repeat (first | assumption | exact Kept.refl _ | apply Kept.drew | apply Kept.drewN | apply Kept.alloc | refine Kept.trans ?_ (by assumption)))
      (try simp only [Act.put, List.setIfInBounds_toArray, List.set_cons_zero, List.set_cons_succ])
      refine wpAnyH_ready (rs := [5]) (by kernel_rfl) (by simp) ?_
      refine AllReadyH.cons (o := { dst := none, op := Go.Op.store 98 (Go.Operand.tmp 9) (Go.Operand.tmp 20), type := 0, pos := "going.go:66", after := #[{ on := 4, ground := Go.Ground.data }, { on := 3, ground := Go.Ground.data }, { on := 2, ground := Go.Ground.chain }, { on := 0, ground := Go.Ground.phase }, { on := 1, ground := Go.Ground.phase }, { on := 2, ground := Go.Ground.phase }, { on := 3, ground := Go.Ground.phase }, { on := 4, ground := Go.Ground.phase }], guard := none }) rfl (fun K5 hK5 => ?_) AllReadyH.nil
      go_simp
      skip
      (try go_wp2_with fail)
      have hRow := box5row w3 w3.heap.size rfl (.slice (some ⟨b0, o0, none⟩) R.n c0) (.slice (some ⟨b1, o1, none⟩) R.n c1) (.slice (some ⟨b2, o2, none⟩) R.n c2) (.slice (some ⟨gg, 0, none⟩) k gc) (.int .i64 0) 98
      have hK9 := (Kept.refl w3).alloc (.cells #[(.slice (some ⟨b0, o0, none⟩) R.n c0), (.slice (some ⟨b1, o1, none⟩) R.n c1), (.slice (some ⟨b2, o2, none⟩) R.n c2), (.slice (some ⟨gg, 0, none⟩) k gc), (.int .i64 0)] 98)
      have hOwn := own_kept hC3 hK9
      have hKF : Kept W2 _ := (show Kept W2 w3 from (by repeat (first | assumption | exact Kept.refl _ | apply Kept.drew | apply Kept.drewN | apply Kept.alloc | refine Kept.trans ?_ (by assumption)))).trans hK9
      have hge : W2.heap.size ≤ w3.heap.size := (show Kept W2 w3 from (by repeat (first | assumption | exact Kept.refl _ | apply Kept.drew | apply Kept.drewN | apply Kept.alloc | refine Kept.trans ?_ (by assumption)))).size
      refine hK5.out _ _ ?_ (fun hHeld => ?_)
      · (try dsimp only)
        exact keep3 q0' q1' q2' hKF
      (try simp only [Act.put, List.setIfInBounds_toArray, List.set_cons_zero, List.set_cons_succ])
      refine wpAnyH_done (by kernel_rfl) ?_ _
      go_wp2_with fail
      go_meet
      exact ⟨_, _, _, rfl, hRow, hOwn, hge, hBw _ (by first | exact Nat.le_refl _ | exact ((Kept.refl W2).alloc _).size), hKF⟩
    · skip
      go_simp
      skip
      (try go_wp2_with fail)
      have hz : ((W2.alloc (.cells #[.slice none 0 0, .slice none 0 0, .slice none 0 0, .slice none 0 0, .int .i64 0] 98)).drew).rowIs (n0 + 1 + 1) 98 5 (bx5 (.slice none 0 0) (.slice none 0 0) (.slice none 0 0) (.slice none 0 0) (.int .i64 0)) := box5row W2 (n0 + 1 + 1) hsz2 (.slice none 0 0) (.slice none 0 0) (.slice none 0 0) (.slice none 0 0) (.int .i64 0) 98
      refine hK4.out _ _ ?_ (fun hHeld => ?_)
      · (try dsimp only)
        exact keep3 q0' q1' q2' (by repeat (first | assumption | exact Kept.refl _ | apply Kept.drew | apply Kept.drewN | apply Kept.alloc | refine Kept.trans ?_ (by assumption)))
      (try simp only [Act.put, List.setIfInBounds_toArray, List.set_cons_zero, List.set_cons_succ])
      refine wpAnyH_ready (rs := [2]) (by kernel_rfl) (by simp) ?_
      refine AllReadyH.cons (o := { dst := some 19, op := Go.Op.call { callee := Go.Callee.value (Go.Operand.func 77), args := #[Go.Operand.tmp 18], argTypes := #[36] }, type := 36, pos := "going.go:66", after := #[{ on := 1, ground := Go.Ground.data }], guard := none }) rfl (fun K2 hK2 => ?_) AllReadyH.nil
      go_simp
      (go_at_call 77; refine (CL.out _ (hP2.kept (by repeat (first | assumption | exact Kept.refl _ | apply Kept.drew | apply Kept.drewN | apply Kept.alloc | refine Kept.trans ?_ (by assumption))))).mono ?_; rintro e w3 ⟨gv, rfl, hC3, hk3⟩; obtain ⟨gg, gc, rfl⟩ := own_some hC3 hk1)
      (try go_wp2_with fail)
      have hz3 := hk3.row hz
      obtain ⟨z0, z1, z2, z3, z4, z5, z6, z7, z8, z9⟩ := bx5_all hz3
      obtain ⟨hRow, hOwn, hKeep⟩ := fill5 hz3 hC3 (.slice (some ⟨b0, o0, none⟩) R.n c0) (.slice (some ⟨b1, o1, none⟩) R.n c1) (.slice (some ⟨b2, o2, none⟩) R.n c2) (.slice (some ⟨gg, 0, none⟩) k gc) (.int .i64 0)
      have hKF := hKeep W2 (show Kept W2 w3 from (by repeat (first | assumption | exact Kept.refl _ | apply Kept.drew | apply Kept.drewN | apply Kept.alloc | refine Kept.trans ?_ (by assumption)))) (by omega)
      clear hz hz3 hKeep
      refine hK2.out _ _ ?_ (fun hHeld => ?_)
      · (try dsimp only)
        exact keep3 q0' q1' q2' (by repeat (first | assumption | exact Kept.refl _ | apply Kept.drew | apply Kept.drewN | apply Kept.alloc | refine Kept.trans ?_ (by assumption)))
      (try simp only [Act.put, List.setIfInBounds_toArray, List.set_cons_zero, List.set_cons_succ])
      refine wpAnyH_take (i := 3) (oi := { dst := some 20, op := Go.Op.build 98 #[(0, Go.Operand.tmp 17), (1, Go.Operand.tmp 19)], type := 98, pos := "going.go:66", after := #[{ on := 0, ground := Go.Ground.data }, { on := 2, ground := Go.Ground.data }], guard := none }) (v := ?v4) rfl (by kernel_rfl) (by kernel_rfl) (by kernel_rfl) (fun _ _ _ h => h) (Or.inl ⟨by rfl, ?hy4⟩) (by assumption) ?rs4
      case hy4 =>
        intro w hSw
        (try dsimp only at hSw)
        go_simp
        try with_reducible rfl
      (try simp only [Act.put, List.setIfInBounds_toArray, List.set_cons_zero, List.set_cons_succ])
      refine wpAnyH_ready (rs := [5]) (by kernel_rfl) (by simp) ?_
      refine AllReadyH.cons (o := { dst := none, op := Go.Op.store 98 (Go.Operand.tmp 9) (Go.Operand.tmp 20), type := 0, pos := "going.go:66", after := #[{ on := 4, ground := Go.Ground.data }, { on := 3, ground := Go.Ground.data }, { on := 2, ground := Go.Ground.chain }, { on := 0, ground := Go.Ground.phase }, { on := 1, ground := Go.Ground.phase }, { on := 2, ground := Go.Ground.phase }, { on := 3, ground := Go.Ground.phase }, { on := 4, ground := Go.Ground.phase }], guard := none }) rfl (fun K5 hK5 => ?_) AllReadyH.nil
      go_simp
      skip
      (try go_wp2_with fail)
      have hge : W2.heap.size ≤ n0 + 1 + 1 := by omega
      refine hK5.out _ _ ?_ (fun hHeld => ?_)
      · (try dsimp only)
        exact keep3 q0' q1' q2' hKF
      (try simp only [Act.put, List.setIfInBounds_toArray, List.set_cons_zero, List.set_cons_succ])
      refine wpAnyH_done (by kernel_rfl) ?_ _
      go_wp2_with fail
      go_meet
      exact ⟨_, _, _, rfl, hRow, hOwn, hge, hBw _ (by first | exact Nat.le_refl _ | exact ((Kept.refl W2).alloc _).size), hKF⟩
  case rest =>
    obtain ⟨G, gv, B, rfl, hRow, hOwn, hge, hB, hKx⟩ := hcut
    have hrc2 := hKx.row hrc
    have hKw := hK2.trans hKx
    obtain ⟨cr, HCR⟩ : ∃ cr, Hid (cr = n0 + 1) := ⟨_, rfl⟩
    rw [← HCR.out] at hrc2 ⊢
    have hcG : cr ≠ G := by rw [HCR.out]; omega
    have hcw : w.heap.size ≤ cr := by rw [HCR.out]; exact hn0w
    have hGw : w.heap.size ≤ G := hBw _ hge
    have hT9 := Lib.hid (fun W (h : Kept w W) => hT.kept h)
    have HCC := Lib.hid hcc
    clear hrc q0' q1' q2' hP2 hge hKx HCR CL hT hcc hsz2 hK1 hK2 hK hBw
    go_wp2_with fail
    go_loopg [23] m (fun g s23 wr => ∃ (i : Nat) (hv : Value) (B : Nat) (c : Int), i ≤ m ∧ g = m - i ∧ s23 = .int .i64 i ∧ Kept w wr ∧ wr.rowIs G 98 5 (bx5 (.slice (some ⟨b0, o0, none⟩) R.n c0) (.slice (some ⟨b1, o1, none⟩) R.n c1) (.slice (some ⟨b2, o2, none⟩) R.n c2) hv (.int .i64 c)) ∧ wr.ownsRow B 26 2 hv k (spsL (servH R k C H i) k) ∧ w.heap.size ≤ B ∧ wr.rowIs cr 3 m (fun j => .int .i64 ((if j < i then servC R k C H j else 0 : Nat) : Int)))
    case atStart => exact ⟨0, gv, B, 0, Nat.zero_le _, rfl, rfl, hKw, hRow, hOwn, hB, hrc2.congr (fun j hj => by rw [if_neg (by omega)]; rfl)⟩
    case round =>
      clear hRow hOwn hrc2 hKw hB
      obtain ⟨i, hv, B, c, hi, rfl, rfl, hKw, hRow, hOwn, hB, hrc⟩ := hrel
      by_cases hlt : i < m
      · obtain rfl := hca (by omega)
        have h1 := hKw.cellSome (HCC.out i hlt)
        have ht := hC i hlt
        have hsp := servH_spot ok hk1 hC hS i (by omega)
        have hcl := servC_le ok hk1 hC hS i hlt
        obtain ⟨t, HTT⟩ : ∃ t, Hid (t = C i) := ⟨_, rfl⟩
        have hgo : Hid ((goR R t k (servH R k C H i)).1 = servH R k C H (i + 1) ∧ (goR R t k (servH R k C H i)).2 + 0 = servC R k C H i) := by rw [HTT.out]; exact ⟨rfl, rfl⟩
        rw [← HTT.out] at h1 ht
        have n1 : (i : Int) < (m : Int) := by omega
        have n2 : (0 : Int) ≤ (i : Int) := by omega
        obtain ⟨gg, gc, rfl⟩ := own_some hOwn hk1
        obtain ⟨z0, z1, z2, z3, z4, z5, z6, z7, z8, z9⟩ := bx5_all hRow
        have hRow2 := bx5_set4 hRow (.int .i64 (t : Int))
        have hOwn2 := spots_set (i := 4) hOwn hRow (by decide) (.int .i64 (t : Int))
        have hrc2 := row_other (i := 4) hrc hcG (.int .i64 (t : Int))
        have hKw2 := hKw.setCell (p := ⟨G, 4, none⟩) hGw (.int .i64 (t : Int))
        obtain ⟨SC, HSC⟩ : ∃ SC, Hid (SC = servC R k C H i) := ⟨_, rfl⟩
        rw [← HSC.out] at hgo hcl
        clear hRow hOwn hrc hKw HTT
        go_wp2_with fail
        clear h1 z0 z1 z2 z3 z4 z5 z6 z7 z8 z9
        go_loopg [] (farS R (servH R k C H i) t k) (fun g wi => ∃ (H' : Nat → Sp) (hv : Value) (B c : Nat), g = farS R H' t k ∧ Kept w wi ∧ wi.rowIs G 98 5 (bx5 (.slice (some ⟨b0, o0, none⟩) R.n c0) (.slice (some ⟨b1, o1, none⟩) R.n c1) (.slice (some ⟨b2, o2, none⟩) R.n c2) hv (.int .i64 (t : Int))) ∧ wi.ownsRow B 26 2 hv k (spsL H' k) ∧ w.heap.size ≤ B ∧ (∀ j, j < k → R.spot (H' j)) ∧ Hid ((goR R t k H').1 = servH R k C H (i + 1) ∧ (goR R t k H').2 + c = SC) ∧ wi.rowIs cr 3 m (fun j => .int .i64 ((if j < i then servC R k C H j else if j = i then c else 0 : Nat) : Int)))
        case atStart => exact ⟨_, _, B, 0, rfl, hKw2, hRow2, hOwn2, hB, hsp, hgo.out, hrc2.congr (fun j hj => by by_cases e : j < i <;> simp [e])⟩
        case round =>
          clear hRow2 hOwn2 hrc2 hKw2 hgo hB hsp
          obtain ⟨H', hv, B, c, rfl, hKw, hRow, hOwn, hB, hsp, hgo, hrc⟩ := hrel
          obtain ⟨gg, gc, rfl⟩ := own_some hOwn hk1
          have hT2 := hT9.out _ hKw
          have hP2 := SpsAt.of_own hOwn
          have hG2 : GoingAt wr (.agg #[(.slice (some ⟨b0, o0, none⟩) R.n c0), (.slice (some ⟨b1, o1, none⟩) R.n c1), (.slice (some ⟨b2, o2, none⟩) R.n c2), (.slice (some ⟨gg, 0, none⟩) k gc), .int .i64 (t : Int)]) R k H' t := ⟨_, _, _, _, rfl, hT2, hP2⟩
          obtain ⟨z0, z1, z2, z3, z4, z5, z6, z7, z8, z9⟩ := bx5_all hRow
          have IT := Lib.hid (isThere_any wr _ R k H' t hG2 hk)
          obtain ⟨b, HB⟩ : ∃ b, Hid (b = hasSp H' (t, 0) k) := ⟨_, rfl⟩
          rw [← HB.out] at IT
          cases b with
          | true =>
            rw [goR_here HB.out.symm] at hgo
            obtain ⟨g1, g2⟩ := hgo.out
            simp only at g1 g2
            have G1 := Lib.hid g1
            have G2 := Lib.hid g2
            clear g1 g2 hgo
            go_wp2_with (first | (go_at_call 53; refine IT.out.mono ?_; rintro e w5 ⟨rfl, hk5⟩))
            go_roundg (m - (i + 1))
            case measure => omega
            case rel =>
              refine ⟨i + 1, _, B, t, by omega, rfl, by go_num, hKw.trans hk5, hk5.row hRow, by rw [← G1.out]; exact own_kept hOwn hk5, hB, (hk5.row hrc).congr (fun j hj => ?_)⟩
              by_cases e1 : j < i
              · rw [if_pos e1, if_pos (by omega)]
              · by_cases e2 : j = i
                · subst e2
                  rw [if_neg (by omega), if_pos rfl, if_pos (by omega), ← HSC.out, ← G2.out, Nat.zero_add]
                · rw [if_neg e1, if_neg e2, if_neg (by omega)]
          | false =>
            obtain ⟨g1, g2, g3⟩ := goR_step ok ht hk1 hsp HB.out.symm
            have ST := Lib.hid (fun W (hW : GoingAt W _ R k H' t) => step_any W (.agg #[(.slice (some ⟨b0, o0, none⟩) R.n c0), (.slice (some ⟨b1, o1, none⟩) R.n c1), (.slice (some ⟨b2, o2, none⟩) R.n c2), (.slice (some ⟨gg, 0, none⟩) k gc), .int .i64 (t : Int)]) R ok k H' t hW ht hk1 hk hsp (no_has HB.out.symm))
            have hsp2 := stepH_spot ok ht hsp
            rw [g1] at hgo
            obtain ⟨n, HN⟩ : ∃ n, Hid (n = cnt (mayB R H' t k) k) := ⟨_, rfl⟩
            unfold StepPost at ST
            rw [← HN.out] at ST g2 g3 hgo
            obtain ⟨H2, HH2⟩ : ∃ H2, Hid (H2 = stepH R H' t k) := ⟨_, rfl⟩
            rw [← HH2.out] at ST g2 hgo hsp2
            have hgo2 : Hid ((goR R t k H2).1 = servH R k C H (i + 1) ∧ (goR R t k H2).2 + (c + n) = SC) := ⟨hgo.out.1, by have := hgo.out.2; simp only at this; omega⟩
            have hcb : c + n ≤ SC := by have := hgo2.out.2; omega
            have s1 : IntKind.i64.wrap ((c : Int) + (n : Int)) = (c : Int) + (n : Int) := IntWalk.i64_in _ (by omega)
            have HSP := Lib.hid hsp2
            have MG := Lib.hid g2
            have MG3 := Lib.hid g3
            clear g1 g2 g3 hgo hsp hsp2 HN HH2 HB
            go_wp2_with (first | (go_at_call 53; refine IT.out.mono ?_; rintro e w5 ⟨rfl, hk5⟩; obtain ⟨z0', z1', z2', z3', z4', _⟩ := keep5 z0 z1 z2 z3 z4 hk5) | (go_at_call 54; refine (ST.out _ (hG2.kept (show Kept wr _ from (by repeat (first | assumption | exact Kept.refl _ | apply Kept.drew | apply Kept.drewN | apply Kept.alloc | refine Kept.trans ?_ (by assumption)))))).mono ?_; rintro e w6 ⟨sv, B2, rfl, hB2, hO6, hk6⟩; obtain ⟨sg, sc, rfl⟩ := own_some hO6 hk1; have hkA : Kept wr w6 := (by repeat (first | assumption | exact Kept.refl _ | apply Kept.drew | apply Kept.drewN | apply Kept.alloc | refine Kept.trans ?_ (by assumption))); have hRow6 := hkA.row hRow; have hrc6 := hkA.row hrc; obtain ⟨y0, y1, y2, y3, y4, y5, y6, y7, y8, y9⟩ := bx5_all hRow6; have hRow7 := bx5_set3 hRow6 (.slice (some ⟨sg, 0, none⟩) k sc); have hO7 := spots_set (i := 3) hO6 hRow6 (by decide) (.slice (some ⟨sg, 0, none⟩) k sc); have hrc7 := row_other (i := 3) hrc6 hcG (.slice (some ⟨sg, 0, none⟩) k sc); have e7 := hrc7.cell hlt; have f7 := hrc7.frozen i; simp only [Nat.lt_irrefl, if_false, if_true] at e7))
            have hrc8 := hrc7.set i (.int .i64 ((c : Int) + (n : Int)))
            have hRow8 := row_other (i := i) hRow7 (Ne.symm hcG) (.int .i64 ((c : Int) + (n : Int)))
            have hO8 := spots_set (i := i) hO7 hrc7 (by decide) (.int .i64 ((c : Int) + (n : Int)))
            have hK8 := ((hKw.trans hkA).setCell (p := ⟨G, 3, none⟩) hGw (.slice (some ⟨sg, 0, none⟩) k sc)).setCell (p := ⟨cr, i, none⟩) hcw (.int .i64 ((c : Int) + (n : Int)))
            have hB8 : w.heap.size ≤ B2 := Nat.le_trans (hKw.trans (show Kept wr _ from hk5)).size hB2
            go_roundg (farS R H2 t k)
            case measure => have := MG.out; have := MG3.out; omega
            case rel =>
              refine ⟨H2, _, B2, c + n, rfl, hK8, hRow8, hO8, hB8, HSP.out, hgo2.out, hrc8.congr (fun j hj => ?_)⟩
              by_cases e1 : j < i
              · rw [if_neg (by omega), if_pos e1, if_pos e1]
              · by_cases e2 : j = i
                · subst e2
                  rw [if_pos rfl, if_neg (by omega), if_pos rfl, Int.natCast_add]
                · rw [if_neg e2, if_neg e1, if_neg e2, if_neg e1, if_neg e2]
      · obtain rfl : i = m := by omega
        obtain ⟨gg, gc, rfl⟩ := own_some hOwn hk1
        obtain ⟨z0, z1, z2, z3, z4, z5, z6, z7, z8, z9⟩ := bx5_all hRow
        have hfin := SpsAt.of_own hOwn
        have hrf := hrc.congr (g := fun j => .int .i64 ((servC R k C H j : Nat) : Int)) (fun j hj => by rw [if_pos hj])
        go_wp2_with fail
        exact bodyPost_ret (v := .tuple #[.slice (some ⟨gg, 0, none⟩) k gc, .slice (some ⟨cr, 0, none⟩) i i]) (by simp [results, Try.results56, go_sem]; try rfl) rfl ⟨_, cr, rfl, hfin, hrf, hcw, hKw⟩
end Go.Proofs.Ytlgpclnmonpkjaa
