/-
  The exported Step.
-/
import Derived.Test.YtlgpclnmonpkjaaWh
namespace Go.Proofs.Ytlgpclnmonpkjaa
open Go.RowKit Go.Deep

def SteppedPost (w : World) (nO nL : Nat) (fO fL : Nat → Int) (k : Nat) (A B : Nat → Int) (c : Int) (e : Ending) (w' : World) : Prop :=
  (withOk nO nL fO fL k A B 1 (fun _ => c) = true → hasSp (handsN A B) (c.toNat, 0) k = false → ∃ v, e = .returned (.tuple #[v, .int .i64 ((cnt (mayB (roadR nO fO fL) (handsN A B) c.toNat k) k : Nat) : Int), .int .i64 0]) ∧ SpsAt w' v k (stepH (roadR nO fO fL) (handsN A B) c.toNat k)) ∧
  (withOk nO nL fO fL k A B 1 (fun _ => c) = true → hasSp (handsN A B) (c.toNat, 0) k = true → e = .returned (.tuple #[.slice none 0 0, .int .i64 0, .int .i64 5])) ∧
  (withOk nO nL fO fL k A B 1 (fun _ => c) = false → e = .returned (.tuple #[.slice none 0 0, .int .i64 0, .int .i64 1])) ∧ Kept w w'
set_option maxRecDepth 100000 in
set_option maxHeartbeats 4000000 in
theorem Step_any (w : World) (v hv : Value) (nO nL : Nat) (fO fL : Nat → Int) (hR : RoadIn w v nO nL fO fL) (hnO : nO ≤ 1000000000) (hnL : nL ≤ 1000000000) (k : Nat) (A B : Nat → Int) (hP : PairsAt w hv k A B) (hk : k ≤ 1000000000) (c : Int) :
    Calls Try.prog 22 #[v, hv, .int .i64 c] w (SteppedPost w nO nL fO fL k A B c) := by
  have hR0 := hR
  have hP0 := hP
  obtain ⟨x, y, rfl, ⟨aO, bO, oO, cO, rfl, _, _⟩, ⟨aL, bL, oL, cL, rfl, _, _⟩⟩ := hR
  obtain ⟨ha, hha, hhc, rfl⟩ : ∃ a n c, hv = .slice a n c := by obtain ⟨a, _, _, cap, e, _⟩ := hP; exact ⟨a, k, cap, e⟩
  obtain ⟨n0, HN0⟩ : ∃ n0, w.heap.size = n0 := ⟨_, rfl⟩
  obtain ⟨W1, hW1, hsz, q0, q1, hK⟩ := newbox2 w n0 HN0 (.slice aO nO cO) (.slice aL nL cL) 24
  obtain ⟨W2, hW2, hsz2, y0, hK1⟩ := newbox1 W1 (n0 + 1) hsz (.int .i64 c) 3
  have TW := Lib.hid (fun W (hW : RoadIn W (.agg #[.slice aO nO cO, .slice aL nL cL]) nO nL fO fL) (hP : PairsAt W (.slice ha hha hhc) k A B) (hC : IntsAt W (.slice (some ⟨n0 + 1, 0, none⟩) 1 1) 1 (fun _ => c)) => treeWith_any W _ _ _ nO nL fO fL hW hnO hnL k A B hP hk 1 (fun _ => c) hC (by omega))
  have hK2 := hK.trans hK1
  have hR1 := hR0.kept hK2
  have hP1 := hP0.kept hK2
  have hC1 : IntsAt W2 (.slice (some ⟨n0 + 1, 0, none⟩) 1 1) 1 (fun _ => c) := ⟨_, _, _, _, rfl, fun _ => rfl, fun i hi => by
    obtain rfl : i = 0 := by omega
    exact y0⟩
  cases e1 : withOk nO nL fO fL k A B 1 (fun _ => c) with
  | false =>
    have E1 := Lib.hid e1
    clear e1
    go_enter Try.func22, Try.ntmps22
    go_wp2_with (first | (go_at_call 52; refine (TW.out _ hR1 hP1 hC1).mono ?_; intro e w3 hpp; obtain ⟨rfl, hk3⟩ := WithPost.bad E1.out hpp.1))
    exact bodyPost_ret (v := .tuple #[.slice none 0 0, .int .i64 0, .int .i64 1]) (by simp [results, Try.results22, go_sem]; try rfl) rfl ⟨fun h => (by rw [E1.out] at h; cases h), fun h => (by rw [E1.out] at h; cases h), fun _ => rfl, (hK2.trans hk3).alloc _⟩
  | true =>
    have E1 := Lib.hid e1
    obtain ⟨p1, hk1, hk3, hm12, p5, p6⟩ := withOk_parts e1
    have ok := roadR_ok p1
    obtain ⟨hS, hsp⟩ := hands_sps hP0 p5
    obtain ⟨hc0, hcn⟩ := p6 0 (by omega)
    obtain ⟨t, rfl⟩ : ∃ t : Nat, c = (t : Int) := ⟨c.toNat, by omega⟩
    have htn : t < (roadR nO fO fL).n := by omega
    have hS1 := hS.kept hK2
    obtain ⟨R, HR⟩ : ∃ R, Hid (R = roadR nO fO fL) := ⟨_, rfl⟩
    obtain ⟨H, HH⟩ : ∃ H, Hid (H = handsN A B) := ⟨_, rfl⟩
    have hpost : ∀ e w', SteppedPost w nO nL fO fL k A B (t : Int) e w' ↔ ((hasSp H (t, 0) k = false → ∃ v, e = .returned (.tuple #[v, .int .i64 ((cnt (mayB R H t k) k : Nat) : Int), .int .i64 0]) ∧ SpsAt w' v k (stepH R H t k)) ∧ (hasSp H (t, 0) k = true → e = .returned (.tuple #[.slice none 0 0, .int .i64 0, .int .i64 5]))) ∧ Kept w w' := fun e w' => by
      unfold SteppedPost
      rw [E1.out, HR.out, HH.out, Int.toNat_natCast]
      simp
      constructor
      · rintro ⟨a, b, c⟩; exact ⟨⟨a, b⟩, c⟩
      · rintro ⟨⟨a, b⟩, c⟩; exact ⟨a, b, c⟩
    have HPO := Lib.hid hpost
    have TW2 := Lib.hid (fun W (hW : RoadIn W (.agg #[.slice aO nO cO, .slice aL nL cL]) nO nL fO fL) (hP : PairsAt W (.slice ha hha hhc) k A B) (hC : IntsAt W (.slice (some ⟨n0 + 1, 0, none⟩) 1 1) 1 (fun _ => (t : Int))) => (TW.out W hW hP hC).mono (fun e w' hpp => WithPost.ok E1.out hpp.1))
    rw [← HR.out] at ok htn hsp TW2
    rw [← HH.out] at hS hsp hS1
    have IT := Lib.hid (fun W gv (hW : GoingAt W gv R k H t) => isThere_any W gv R k H t hW (by omega))
    clear e1 p5 p6 TW hpost
    cases e2 : hasSp H (t, 0) k with
    | true =>
      have E2 := Lib.hid e2
      rw [e2] at IT
      clear e2
      go_enter Try.func22, Try.ntmps22
      go_wp2_with (first | (go_at_call 52; refine (TW2.out _ hR1 hP1 hC1).mono ?_; rintro e w3 ⟨tv, rfl, hT3, hk3'⟩; obtain ⟨b0, o0, c0, b1, o1, c1, b2, o2, c2, rfl, _, _, _⟩ := id (hT3.open ok); obtain ⟨W4, hW4, hsz4, u0, u1, u2, hK4⟩ := newbox3 w3 w3.heap.size rfl (.slice (some ⟨b0, o0, none⟩) R.n c0) (.slice (some ⟨b1, o1, none⟩) R.n c1) (.slice (some ⟨b2, o2, none⟩) R.n c2) 88; obtain ⟨W5, hW5, hsz5, v0, v1, v2, v3, v4, hK5⟩ := newbox5 W4 _ hsz4 (.slice (some ⟨b0, o0, none⟩) R.n c0) (.slice (some ⟨b1, o1, none⟩) R.n c1) (.slice (some ⟨b2, o2, none⟩) R.n c2) (.slice ha hha hhc) (.int .i64 (t : Int)) 98; have hG5 : GoingAt W5 (.agg #[.slice (some ⟨b0, o0, none⟩) R.n c0, .slice (some ⟨b1, o1, none⟩) R.n c1, .slice (some ⟨b2, o2, none⟩) R.n c2, .slice ha hha hhc, .int .i64 (t : Int)]) R k H t := ⟨_, _, _, _, rfl, hT3.kept (hK4.trans hK5), hS1.kept (show Kept W2 _ from (hk3'.trans hK4).trans hK5)⟩) | (go_at_call 53; refine (IT.out _ _ hG5).mono ?_; rintro e w6 ⟨rfl, hk6⟩))
      exact bodyPost_ret (v := .tuple #[.slice none 0 0, .int .i64 0, .int .i64 5]) (by simp [results, Try.results22, go_sem]; try rfl) rfl ((HPO.out _ _).2 ⟨⟨fun h => (by rw [E2.out] at h; cases h), fun _ => rfl⟩, hK2.trans (((hk3'.trans hK4).trans hK5).trans hk6)⟩)
    | false =>
      have E2 := Lib.hid e2
      rw [e2] at IT
      have hne : ∀ i, i < k → H i ≠ (t, 0) := fun i hi h => by
        rw [hasSp_iff.2 ⟨i, hi, h⟩] at e2
        cases e2
      have ST := Lib.hid (fun W gv (hW : GoingAt W gv R k H t) => step_any W gv R ok k H t hW htn hk1 (by omega) hsp hne)
      clear e2
      go_enter Try.func22, Try.ntmps22
      go_wp2_with (first | (go_at_call 52; refine (TW2.out _ hR1 hP1 hC1).mono ?_; rintro e w3 ⟨tv, rfl, hT3, hk3'⟩; obtain ⟨b0, o0, c0, b1, o1, c1, b2, o2, c2, rfl, _, _, _⟩ := id (hT3.open ok); obtain ⟨W4, hW4, hsz4, u0, u1, u2, hK4⟩ := newbox3 w3 w3.heap.size rfl (.slice (some ⟨b0, o0, none⟩) R.n c0) (.slice (some ⟨b1, o1, none⟩) R.n c1) (.slice (some ⟨b2, o2, none⟩) R.n c2) 88; obtain ⟨W5, hW5, hsz5, v0, v1, v2, v3, v4, hK5⟩ := newbox5 W4 _ hsz4 (.slice (some ⟨b0, o0, none⟩) R.n c0) (.slice (some ⟨b1, o1, none⟩) R.n c1) (.slice (some ⟨b2, o2, none⟩) R.n c2) (.slice ha hha hhc) (.int .i64 (t : Int)) 98; have hG5 : GoingAt W5 (.agg #[.slice (some ⟨b0, o0, none⟩) R.n c0, .slice (some ⟨b1, o1, none⟩) R.n c1, .slice (some ⟨b2, o2, none⟩) R.n c2, .slice ha hha hhc, .int .i64 (t : Int)]) R k H t := ⟨_, _, _, _, rfl, hT3.kept (hK4.trans hK5), hS1.kept (show Kept W2 _ from (hk3'.trans hK4).trans hK5)⟩) | (go_at_call 53; refine (IT.out _ _ hG5).mono ?_; rintro e w6 ⟨rfl, hk6⟩; obtain ⟨v0', v1', v2', v3', v4', _⟩ := keep5 v0 v1 v2 v3 v4 hk6) | (go_at_call 54; refine (ST.out _ _ (hG5.kept hk6)).mono ?_; rintro e w7 ⟨sv, sB, rfl, _, hown, hk7⟩; have hS7 := SpsAt.of_own hown; obtain ⟨sa, sb, so, sc, rfl, _, _⟩ := id hS7))
      exact bodyPost_ret (v := .tuple #[.slice sa k sc, .int .i64 ((cnt (mayB R H t k) k : Nat) : Int), .int .i64 0]) (by simp [results, Try.results22, go_sem]; try rfl) rfl ((HPO.out _ _).2 ⟨⟨fun _ => ⟨_, rfl, hS7⟩, fun h => (by rw [E2.out] at h; cases h)⟩, hK2.trans (((((hk3'.trans hK4).trans hK5).trans hk6)).trans hk7)⟩)
end Go.Proofs.Ytlgpclnmonpkjaa
