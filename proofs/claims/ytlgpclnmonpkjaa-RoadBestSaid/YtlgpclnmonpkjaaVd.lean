/-
  The law's lives: the examples of the document.
-/
import Derived.Test.YtlgpclnmonpkjaaVc
namespace Go.Proofs.Ytlgpclnmonpkjaa
open Go.RowKit Go.Deep

def xO : Nat → Int := fun i => if i = 2 then 1 else 0
def xL : Nat → Int := fun i => if i = 1 then 3 else if i = 2 then 4 else 0
def xA : Nat → Int := fun i => if i = 1 then 2 else 0
def xB : Nat → Int := fun _ => 0
def xC : Nat → Int := fun _ => 1
theorem x_ok : withOk 3 3 xO xL 2 xA xB 1 xC = true := by decide +kernel
theorem x_pl : plOk 3 3 xO xL 2 xA xB 1 xC = true := by decide +kernel
theorem x_sum : sumN (servC (roadR 3 xO xL) 2 (callsN xC) (handsN xA xB)) 1 = 6 := by decide +kernel
theorem x_served : servH (roadR 3 xO xL) 2 (callsN xC) (handsN xA xB) 1 0 = (1, 0) ∧ servH (roadR 3 xO xL) 2 (callsN xC) (handsN xA xB) 1 1 = (2, 3) := by decide +kernel
theorem x_plan : nearF 3 xO xL 2 xA xC 0 = 0 := by decide +kernel
theorem x_near : cstP (roadR 3 xO xL) (callsN xC) (nearF 3 xO xL 2 xA xC) (begS 2 xA) 1 = 3 := by decide +kernel
theorem lit_ints {w : World} {b n : Nat} {f : Nat → Int} (h : ∀ i, i < n → w.cell? ⟨b, i, none⟩ = some (.int .i64 (f i))) : IntsAt w (.slice (some ⟨b, 0, none⟩) n n) n f :=
  ⟨_, b, 0, n, rfl, fun _ => rfl, fun i hi => by rw [Nat.zero_add]; exact h i hi⟩
theorem one_int {w : World} {b : Nat} (h : w.cell? ⟨b, 0, none⟩ = some (.int .i64 1)) : IntsAt w (.slice (some ⟨b, 0, none⟩) 1 1) 1 xC :=
  lit_ints (fun i hi => by
    obtain rfl : i = 0 := by omega
    exact h)
def xG : Nat → Sp := fun i => if i = 1 then (2, 3) else (1, 0)
theorem x_eq : ∀ i, i < 2 → servH (roadR 3 xO xL) 2 (callsN xC) (handsN xA xB) 1 i = xG i := fun i hi => by
  have : i = 0 ∨ i = 1 := by omega
  rcases this with rfl | rfl
  · exact x_served.1
  · exact x_served.2
theorem xG_at {w : World} {b : Nat} (v0 : w.cell? ⟨b, 0, none⟩ = some (.int .i64 1)) (v1 : w.cell? ⟨b, 1, none⟩ = some (.int .i64 0)) (v2 : w.cell? ⟨b, 2, none⟩ = some (.int .i64 2)) (v3 : w.cell? ⟨b, 3, none⟩ = some (.int .i64 3)) : SpsAt w (.slice (some ⟨b, 0, none⟩) 2 2) 2 xG :=
  ⟨_, b, 0, 2, rfl, fun _ => rfl, fun i hi => by
    have : i = 0 ∨ i = 1 := by omega
    rcases this with rfl | rfl
    · exact ⟨v0, v1⟩
    · exact ⟨v2, v3⟩⟩
theorem zero_int {w : World} {b : Nat} (h : w.cell? ⟨b, 0, none⟩ = some (.int .i64 0)) : IntsAt w (.slice (some ⟨b, 0, none⟩) 1 1) 1 (fun _ => 0) :=
  lit_ints (fun i hi => by
    obtain rfl : i = 0 := by omega
    exact h)
theorem x_same : same 1 (fun i => ((nearF 3 xO xL 2 xA xC i : Nat) : Int)) 1 (fun _ => 0) = true := same_refl 1 _ _ (fun i hi => by
  obtain rfl : i = 0 := by omega
  rw [x_plan]; rfl)
theorem newbox1 (w : World) (n : Nat) (hn : w.heap.size = n) (a : Value) (t : TypeId) : ∃ W, w.alloc (.cells #[a] t) = W ∧ W.heap.size = n + 1 ∧ W.cell? ⟨n, 0, none⟩ = some a ∧ Kept w W := by
  subst hn
  refine ⟨_, rfl, by simp, ?_, (Kept.refl w).alloc _⟩ <;> (unfold World.cell?; dsimp only; rw [blk_alloc_new]; rfl)
theorem ServedPost.ok {w w' : World} {nO nL : Nat} {fO fL : Nat → Int} {k : Nat} {A B : Nat → Int} {m : Nat} {C : Nat → Int} {e : Ending} (h : withOk nO nL fO fL k A B m C = true) (hp : ServedPost w nO nL fO fL k A B m C e w') : ∃ v, e = .returned (.tuple #[v, .int .i64 ((sumN (servC (roadR nO fO fL) k (callsN C) (handsN A B)) m : Nat) : Int), .int .i64 0]) ∧ SpsAt w' v k (servH (roadR nO fO fL) k (callsN C) (handsN A B) m) ∧ Kept w w' := by
  obtain ⟨h1, _, h3⟩ := hp
  obtain ⟨v, e1, e2⟩ := h1 h
  exact ⟨v, e1, e2, h3⟩
set_option maxRecDepth 100000 in
set_option maxHeartbeats 8000000 in
theorem lives_any (w : World) : Calls Try.prog 19 #[] w fun e w' => e = .returned (.bool true) ∧ Kept w w' := by
  obtain ⟨n0, HN0⟩ : ∃ n0, w.heap.size = n0 := ⟨_, rfl⟩
  obtain ⟨W1, hW1, hsz1, p0, p1, p2, hK1⟩ := newbox3 w n0 HN0 (.int .i64 0) (.int .i64 0) (.int .i64 1) 3
  obtain ⟨W2, hW2, hsz2, r0, r1, r2, hK2⟩ := newbox3 W1 (n0 + 1) hsz1 (.int .i64 0) (.int .i64 3) (.int .i64 4) 3
  obtain ⟨W3, hW3, hsz3, s0, s1, hK3⟩ := newbox2 W2 (n0 + 1 + 1) hsz2 (.slice (some ⟨n0, 0, none⟩) 3 3) (.slice (some ⟨n0 + 1, 0, none⟩) 3 3) 24
  obtain ⟨W4, hW4, hsz4, t0, t1, t2, t3, hK4⟩ := newbox4 W3 (n0 + 1 + 1 + 1) hsz3 (.int .i64 0) (.int .i64 0) (.int .i64 2) (.int .i64 0) 26
  obtain ⟨W5, hW5, hsz5, u0, hK5⟩ := newbox1 W4 (n0 + 1 + 1 + 1 + 1) hsz4 (.int .i64 1) 3
  have hK24 := (hK2.trans hK3).trans hK4
  have hR4 : RoadIn W4 (.agg #[.slice (some ⟨n0, 0, none⟩) 3 3, .slice (some ⟨n0 + 1, 0, none⟩) 3 3]) 3 3 xO xL := ⟨_, _, rfl, lit_ints (fun i hi => by
    have : i = 0 ∨ i = 1 ∨ i = 2 := by omega
    rcases this with rfl | rfl | rfl
    · exact hK24.cellSome p0
    · exact hK24.cellSome p1
    · exact hK24.cellSome p2), lit_ints (fun i hi => by
    have : i = 0 ∨ i = 1 ∨ i = 2 := by omega
    rcases this with rfl | rfl | rfl
    · exact (hK3.trans hK4).cellSome r0
    · exact (hK3.trans hK4).cellSome r1
    · exact (hK3.trans hK4).cellSome r2)⟩
  have hP4 : PairsAt W4 (.slice (some ⟨n0 + 1 + 1 + 1, 0, none⟩) 2 2) 2 xA xB := ⟨_, _, 0, 2, rfl, fun _ => rfl, fun i hi => by
    have : i = 0 ∨ i = 1 := by omega
    rcases this with rfl | rfl
    · exact ⟨t0, t1⟩
    · exact ⟨t2, t3⟩⟩
  obtain ⟨s0', s1', _⟩ := keep2 s0 s1 hK4
  have hK45 := hK5
  have hKw4 := ((hK1.trans hK2).trans hK3).trans hK4
  have SV := Lib.hid (fun W (hW : Kept W4 W) b (hc : W.cell? ⟨b, 0, none⟩ = some (.int .i64 1)) => Serve_any W _ _ (.slice (some ⟨b, 0, none⟩) 1 1) 3 3 xO xL (hR4.kept hW) (by omega) (by omega) 2 xA xB (hP4.kept hW) (by omega) 1 xC (one_int hc) (by omega))
  have PL := Lib.hid (fun W (hW : Kept W4 W) b (hc : W.cell? ⟨b, 0, none⟩ = some (.int .i64 1)) => Plan_one W _ _ (.slice (some ⟨b, 0, none⟩) 1 1) 3 3 xO xL (hR4.kept hW) (by omega) (by omega) 2 xA xB (hP4.kept hW) 1 rfl xC (one_int hc) x_pl)
  have NR := Lib.hid (fun W (hW : Kept W4 W) b (hc : W.cell? ⟨b, 0, none⟩ = some (.int .i64 1)) => Nearest_ok W _ _ (.slice (some ⟨b, 0, none⟩) 1 1) 3 3 xO xL (hR4.kept hW) (by omega) (by omega) 2 xA xB (hP4.kept hW) 1 xC (one_int hc) x_pl)
  rw [x_near] at NR
  clear hR4 hP4 p0 p1 p2 r0 r1 r2 t0 t1 t2 t3
  go_enter Try.func19, Try.ntmps19
  go_wp2_with (first | (go_at_call 29; refine (SV.out _ hK5 _ u0).mono ?_; intro e w6 hpp; obtain ⟨sv, rfl, hS6, hk6⟩ := ServedPost.ok x_ok hpp; rw [x_sum]; obtain ⟨sa, sb, so, sc, rfl, hsa, _⟩ := id hS6; obtain rfl := hsa (by omega); obtain ⟨W7, hW7, hsz7, u7, hK7⟩ := newbox1 w6 w6.heap.size rfl (.int .i64 1) 3; obtain ⟨m0, m1, _⟩ := keep2 s0' s1' (hK5.trans hk6); obtain ⟨m0', m1', _⟩ := keep2 m0 m1 hK7) | (go_at_call 34; refine (PL.out _ ((hK5.trans hk6).trans hK7) _ u7).mono ?_; rintro e w8 ⟨pv, rfl, hP8, hk8⟩; obtain ⟨pa, pb, po, pc, rfl, hpa, _⟩ := id hP8; obtain rfl := hpa (by omega); obtain ⟨W9, hW9, hsz9, u9, hK9⟩ := newbox1 w8 w8.heap.size rfl (.int .i64 1) 3; obtain ⟨l0, l1, _⟩ := keep2 m0' m1' hk8; obtain ⟨l0', l1', _⟩ := keep2 l0 l1 hK9) | (go_at_call 35; refine (NR.out _ (((hK5.trans hk6).trans hK7).trans (hk8.trans hK9)) _ u9).mono ?_; rintro e w10 ⟨rfl, hk10⟩; obtain ⟨W11, hW11, hsz11, v0, v1, v2, v3, hK11⟩ := newbox4 w10 w10.heap.size rfl (.int .i64 1) (.int .i64 0) (.int .i64 2) (.int .i64 3) 26) | (go_at_call 27; refine (SameSpots_true _ _ _ 2 _ xG (hS6.kept (((hK7.trans hk8).trans (hK9.trans hk10)).trans hK11)) (xG_at v0 v1 v2 v3) (by omega) x_eq).mono ?_; rintro e w12 ⟨rfl, hk12⟩; obtain ⟨W13, hW13, hsz13, u13, hK13⟩ := newbox1 w12 w12.heap.size rfl (.int .i64 0) 3) | (go_at_call 32; refine (same_any _ _ _ 1 1 _ (fun _ => 0) (CellsAt.kept hP8 (((hK9.trans hk10).trans (hK11.trans hk12)).trans hK13)) (zero_int u13) (by omega) (by omega)).mono ?_; rw [x_same]; rintro e w14 ⟨rfl, hq14⟩))
  go_ret
  exact ⟨rfl, ((((hKw4.trans hK5).trans hk6).trans (hK7.trans hk8)).trans ((hK9.trans hk10).trans (hK11.trans hk12))).trans (hK13.trans hq14.kept)⟩
end Go.Proofs.Ytlgpclnmonpkjaa
