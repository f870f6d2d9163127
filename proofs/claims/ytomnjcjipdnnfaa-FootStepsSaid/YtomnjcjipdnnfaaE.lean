/-
  Walks along two outlines: the pair that comes last, the distance of a pair, the pair that comes next; the program's functions.
-/
import Derived.Test.YtomnjcjipdnnfaaD
import Derived.Test.YtomnjcjipdnnfaaC
namespace Go.Proofs.Ytomnjcjipdnnfaa
open Go.RowKit Go.Deep

def WalksV (m n : Nat) (fv : Value) : Value := .agg #[.int .i64 m, .int .i64 n, fv]
theorem pair_set {W : World} {b : Nat} {t : TypeId} {f : Nat → Value} (h : W.rowIs b t 2 f) (x y : Value) : ((W.setCell ⟨b, 0, none⟩ x).setCell ⟨b, 1, none⟩ y).rowIs b t 2 (fun k => if k = 0 then x else y) :=
  ((h.set 0 x).set 1 y).congr (fun k hk => by
    have : k = 0 ∨ k = 1 := by omega
    rcases this with rfl | rfl <;> simp)
def PairV (i j : Nat) : Value := .agg #[.int .i64 i, .int .i64 j]
theorem pair_ne (x y : Nat) (h : ¬ (x = 0 ∧ y = 0)) (w : World) : (binOp .eql 98 (.agg #[.int .i64 x, .int .i64 y]) (.agg #[.int .i64 0, .int .i64 0])).run Try.prog w = .ok (.bool false) w := by
  by_cases hx : x = 0
  · have z1 : ((x : Int) == 0) = true := by simp [hx]
    have z2 : ((y : Int) == 0) = false := by simp; omega
    clear h hx
    go_simp
  · have z1 : ((x : Int) == 0) = false := by simp; omega
    clear h hx
    go_simp
theorem pair_eq (x y : Nat) (h : x = 0 ∧ y = 0) (w : World) : (binOp .eql 98 (.agg #[.int .i64 x, .int .i64 y]) (.agg #[.int .i64 0, .int .i64 0])).run Try.prog w = .ok (.bool true) w := by
  obtain ⟨rfl, rfl⟩ := h
  go_simp
set_option maxRecDepth 100000 in
set_option maxHeartbeats 1000000 in
theorem last_any (w : World) (m n : Nat) (fv : Value) (hm : 1 ≤ m) (hn : 1 ≤ n) (hm2 : m ≤ 1000000) (hn2 : n ≤ 1000000) :
    Calls Try.prog 76 #[WalksV m n fv] w fun e w' => e = .returned (PairV (m - 1) (n - 1)) ∧ Kept w w' := by
  have c1 : ((m : Int) - 1) = ((m - 1 : Nat) : Int) := by omega
  have c2 : ((n : Int) - 1) = ((n - 1 : Nat) : Int) := by omega
  have C1 := Lib.hid c1
  have C2 := Lib.hid c2
  clear c1 c2
  unfold WalksV PairV
  go_enter Try.func76, Try.ntmps76
  go_wp2_with fail
  exact bodyPost_ret (v := .agg #[.int .i64 (m - 1 : Nat), .int .i64 (n - 1 : Nat)]) (by simp [results, Try.results76, go_sem, ← C1.out, ← C2.out]) rfl ⟨rfl, by repeat (first | exact Kept.refl _ | refine Kept.alloc ?_ _)⟩
set_option maxRecDepth 100000 in
set_option maxHeartbeats 1000000 in
theorem between1_any (w : World) (m n i j ba bb b1 o1 cap1 b2 o2 cap2 : Nat) (X Y U V : Nat → Int) (ha : w.cell? ⟨ba, 0, none⟩ = some (.slice (some ⟨b1, o1, none⟩) m cap1)) (hb : w.cell? ⟨bb, 0, none⟩ = some (.slice (some ⟨b2, o2, none⟩) n cap2))
    (hi : i < m) (hj : j < n) (p0 : w.cell? ⟨b1, o1 + i * 2, none⟩ = some (.int .i64 (X i))) (p1 : w.cell? ⟨b1, o1 + i * 2 + 1, none⟩ = some (.int .i64 (Y i))) (q0 : w.cell? ⟨b2, o2 + j * 2, none⟩ = some (.int .i64 (U j))) (q1 : w.cell? ⟨b2, o2 + j * 2 + 1, none⟩ = some (.int .i64 (V j)))
    (hx : pl (X i)) (hy : pl (Y i)) (hu : pl (U j)) (hv : pl (V j)) :
    Calls Try.prog 71 #[PairV i j, .pointer (some ⟨ba, 0, none⟩), .pointer (some ⟨bb, 0, none⟩)] w fun e w' => e = .returned (.int .i64 (dist (X i) (Y i) (U j) (V j))) ∧ Kept w w' := by
  have hk0 : Kept w (w.alloc (.cells #[.int .i64 i, .int .i64 j] 98)) := (Kept.refl w).alloc _
  obtain ⟨c0, c1⟩ := box2 w (.int .i64 i) (.int .i64 j) 98
  have a1 := hk0.cellSome ha
  have a2 := hk0.cellSome hb
  have a3 := hk0.cellSome p0
  have a4 := hk0.cellSome p1
  have a5 := hk0.cellSome q0
  have a6 := hk0.cellSome q1
  have s1 : (i : Int) < (m : Int) := by omega
  have s2 : (j : Int) < (n : Int) := by omega
  have s3 : (0 : Int) ≤ (i : Int) := by omega
  have s4 : (0 : Int) ≤ (j : Int) := by omega
  unfold PairV
  clear ha hb p0 p1 q0 q1
  go_enter Try.func71, Try.ntmps71
  go_wp2_with fail
  obtain ⟨g, HG⟩ : ∃ g, Hid (g = w.heap.size) := ⟨_, rfl⟩
  rw [← HG.out] at c0 c1 ⊢
  generalize w.alloc (.cells #[.int .i64 i, .int .i64 j] 98) = W at *
  go_region_held3 (fun w' => w'.cell? ⟨g, 0, none⟩ = some (.int .i64 i) ∧ w'.cell? ⟨g, 1, none⟩ = some (.int .i64 j) ∧ w'.cell? ⟨ba, 0, none⟩ = some (.slice (some ⟨b1, o1, none⟩) m cap1) ∧ w'.cell? ⟨bb, 0, none⟩ = some (.slice (some ⟨b2, o2, none⟩) n cap2) ∧ w'.cell? ⟨b1, o1 + i * 2, none⟩ = some (.int .i64 (X i)) ∧ w'.cell? ⟨b1, o1 + i * 2 + 1, none⟩ = some (.int .i64 (Y i)) ∧ w'.cell? ⟨b2, o2 + j * 2, none⟩ = some (.int .i64 (U j)) ∧ w'.cell? ⟨b2, o2 + j * 2 + 1, none⟩ = some (.int .i64 (V j)) ∧ Kept W w')
    (first | exact keep8 c0 c1 a1 a2 a3 a4 a5 a6 (by repeat (first | assumption | exact Kept.refl _ | apply Kept.drew | apply Kept.drewN | apply Kept.alloc | refine Kept.trans ?_ (by assumption))))
    (first | (go_at_call 47; refine (apart_any _ (X i) (Y i) (U j) (V j) hx hy hu hv).mono ?_; rintro e w2 ⟨rfl, hk2⟩))
  all_goals
    have hKW : Kept W w2 := (by repeat (first | assumption | exact Kept.refl _ | apply Kept.drew | apply Kept.drewN | apply Kept.alloc | refine Kept.trans ?_ (by assumption)))
    go_wp2_with fail
    go_ret
    exact ⟨rfl, hk0.trans hKW⟩
end Go.Proofs.Ytomnjcjipdnnfaa
