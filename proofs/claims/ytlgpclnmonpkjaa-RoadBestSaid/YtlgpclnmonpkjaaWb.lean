/-
  Package road: Distance.
-/
import Derived.Test.YtlgpclnmonpkjaaWa
namespace Go.Proofs.Ytlgpclnmonpkjaa
open Go.RowKit Go.Deep

def distOk (nO nL : Nat) (fO fL : Nat → Int) (p u q x : Int) : Bool := roadOk nO nL fO fL && ((roadR nO fO fL).isSp p u && (roadR nO fO fL).isSp q x)
def DistPost (w : World) (nO nL : Nat) (fO fL : Nat → Int) (p u q x : Int) (e : Ending) (w' : World) : Prop :=
  (distOk nO nL fO fL p u q x = true → e = .returned (.tuple #[.int .i64 (((roadR nO fO fL).dist (p.toNat, u.toNat) (q.toNat, x.toNat) : Nat) : Int), .int .i64 0])) ∧
  (distOk nO nL fO fL p u q x = false → e = .returned (.tuple #[.int .i64 0, .int .i64 1])) ∧ Kept w w'
set_option maxRecDepth 100000 in
set_option maxHeartbeats 4000000 in
theorem Distance_any (w : World) (v : Value) (nO nL : Nat) (fO fL : Nat → Int) (hR : RoadIn w v nO nL fO fL) (hnO : nO ≤ 1000000000) (hnL : nL ≤ 1000000000) (p u q x : Int) :
    Calls Try.prog 16 #[v, .agg #[.int .i64 p, .int .i64 u], .agg #[.int .i64 q, .int .i64 x]] w (DistPost w nO nL fO fL p u q x) := by
  have hR0 := hR
  obtain ⟨xx, yy, rfl, ⟨aO, bO, oO, cO, rfl, _, _⟩, ⟨aL, bL, oL, cL, rfl, _, _⟩⟩ := hR
  have TO := Lib.hid (fun W (hW : RoadIn W (.agg #[.slice aO nO cO, .slice aL nL cL]) nO nL fO fL) => treeOf_any W _ nO nL fO fL hW hnO hnL)
  obtain ⟨n0, HN0⟩ : ∃ n0, w.heap.size = n0 := ⟨_, rfl⟩
  obtain ⟨W1, hW1, hsz, q0, q1, hK⟩ := newbox2 w n0 HN0 (.slice aO nO cO) (.slice aL nL cL) 24
  obtain ⟨W2, hW2, hsz2, y0, y1, hK1⟩ := newbox2 W1 (n0 + 1) hsz (.int .i64 p) (.int .i64 u) 26
  obtain ⟨W3, hW3, hsz3, z0, z1, hK2⟩ := newbox2 W2 (n0 + 1 + 1) hsz2 (.int .i64 q) (.int .i64 x) 26
  obtain ⟨q0', q1', _⟩ := keep2 q0 q1 (hK1.trans hK2)
  obtain ⟨y0', y1', _⟩ := keep2 y0 y1 hK2
  have hKw := (hK.trans hK1).trans hK2
  have hR2 := hR0.kept hKw
  clear q0 q1 y0 y1 hK hK1 hK2
  cases e1 : roadOk nO nL fO fL with
  | false =>
    have E1 := Lib.hid e1
    have hbad : Hid (distOk nO nL fO fL p u q x = false) := by show _ = _; unfold distOk; rw [e1]; rfl
    clear e1
    go_enter Try.func16, Try.ntmps16
    go_wp2_with (first | (go_at_call 46; refine (TO.out _ hR2).mono ?_; intro e w3 hpp; obtain ⟨rfl, hk3⟩ := TreePost.bad E1.out hpp.1))
    exact bodyPost_ret (v := .tuple #[.int .i64 0, .int .i64 1]) (by simp [results, Try.results16, go_sem]; try rfl) rfl ⟨fun h => (by rw [hbad.out] at h; cases h), fun _ => rfl, (hKw.trans hk3).alloc _⟩
  | true =>
    have E1 := Lib.hid e1
    have ok := roadR_ok e1
    have IS := Lib.hid (fun W v p u (hW : TreeAt W v (roadR nO fO fL)) => isSpot_any W v _ ok hW p u)
    cases e2 : (roadR nO fO fL).isSp p u with
    | false =>
      have hbad : Hid (distOk nO nL fO fL p u q x = false) := by show _ = _; unfold distOk; rw [e2]; simp
      have IS1 := Lib.hid (fun W v (hW : TreeAt W v (roadR nO fO fL)) => IS.out W v p u hW)
      rw [e2] at IS1
      clear e1 e2
      go_enter Try.func16, Try.ntmps16
      go_wp2_with (first | (go_at_call 46; refine (TO.out _ hR2).mono ?_; intro e w3 hpp; obtain ⟨tv, rfl, hT3, hk3⟩ := TreePost.ok E1.out hpp.1; obtain ⟨b0', o0', c0', b1', o1', c1', b2', o2', c2', rfl, _, _, _⟩ := id (hT3.open ok); obtain ⟨W6, hW6, hsz6, u0, u1, u2, hK6⟩ := newbox3 w3 w3.heap.size rfl (.slice (some ⟨b0', o0', none⟩) (roadR nO fO fL).n c0') (.slice (some ⟨b1', o1', none⟩) (roadR nO fO fL).n c1') (.slice (some ⟨b2', o2', none⟩) (roadR nO fO fL).n c2') 88; obtain ⟨v0, v1, v2, v3, _⟩ := keep4 y0' y1' z0 z1 (hk3.trans hK6)) | (go_at_call 47; refine (IS1.out _ _ (hT3.kept (by repeat (first | assumption | exact Kept.refl _ | apply Kept.drew | apply Kept.drewN | apply Kept.alloc | refine Kept.trans ?_ (by assumption))))).mono ?_; rintro e w7 ⟨rfl, hk7⟩))
      exact bodyPost_ret (v := .tuple #[.int .i64 0, .int .i64 1]) (by simp [results, Try.results16, go_sem]; try rfl) rfl ⟨fun h => (by rw [hbad.out] at h; cases h), fun _ => rfl, ((hKw.trans hk3).trans hK6).trans hk7⟩
    | true =>
      have IS1 := Lib.hid (fun W v (hW : TreeAt W v (roadR nO fO fL)) => IS.out W v p u hW)
      rw [e2] at IS1
      obtain ⟨hsp, hp1, hp2, hp3⟩ := isSp_spot e2
      cases e3 : (roadR nO fO fL).isSp q x with
      | false =>
        have hbad : Hid (distOk nO nL fO fL p u q x = false) := by show _ = _; unfold distOk; rw [e3]; simp
        by_cases hpq : p = q ∧ u = x
        · obtain ⟨rfl, rfl⟩ := hpq
          rw [e2] at e3
          cases e3
        · have ISC : Hid (∀ W v (s t : Int) (b : Bool), TreeAt W v (roadR nO fO fL) → (roadR nO fO fL).isSp s t = b → Calls Try.prog 47 #[v, .agg #[.int .i64 s, .int .i64 t]] W fun e w' => e = .returned (.bool b) ∧ Kept W w') := fun W v s t b hW hb => by rw [← hb]; exact IS.out W v s t hW
          have E2 := Lib.hid e2
          have E3 := Lib.hid e3
          clear e1 e2 e3 hpq IS IS1
          go_enter Try.func16, Try.ntmps16
          go_wp2_with (first | (go_at_call 46; refine (TO.out _ hR2).mono ?_; intro e w3 hpp; obtain ⟨tv, rfl, hT3, hk3⟩ := TreePost.ok E1.out hpp.1; obtain ⟨b0', o0', c0', b1', o1', c1', b2', o2', c2', rfl, _, _, _⟩ := id (hT3.open ok); obtain ⟨W6, hW6, hsz6, u0, u1, u2, hK6⟩ := newbox3 w3 w3.heap.size rfl (.slice (some ⟨b0', o0', none⟩) (roadR nO fO fL).n c0') (.slice (some ⟨b1', o1', none⟩) (roadR nO fO fL).n c1') (.slice (some ⟨b2', o2', none⟩) (roadR nO fO fL).n c2') 88; obtain ⟨v0, v1, v2, v3, _⟩ := keep4 y0' y1' z0 z1 (hk3.trans hK6)) | (go_at_call 47; refine (ISC.out _ _ _ _ _ (hT3.kept (by repeat (first | assumption | exact Kept.refl _ | apply Kept.drew | apply Kept.drewN | apply Kept.alloc | refine Kept.trans ?_ (by assumption)))) (by first | exact E2.out | exact E3.out)).mono ?_; rintro e w7 ⟨rfl, hk7⟩; obtain ⟨uu0, uu1, uu2, _⟩ := keep3 (by assumption : W6.cell? ⟨w3.heap.size, 0, none⟩ = _) u1 u2 (show Kept W6 w7 from (by repeat (first | assumption | exact Kept.refl _ | apply Kept.drew | apply Kept.drewN | apply Kept.alloc | refine Kept.trans ?_ (by assumption)))); obtain ⟨vv0, vv1, vv2, vv3, _⟩ := keep4 v0 v1 v2 v3 (show Kept W6 w7 from (by repeat (first | assumption | exact Kept.refl _ | apply Kept.drew | apply Kept.drewN | apply Kept.alloc | refine Kept.trans ?_ (by assumption))))))
          exact bodyPost_ret (v := .tuple #[.int .i64 0, .int .i64 1]) (by simp [results, Try.results16, go_sem]; try rfl) rfl ⟨fun h => (by rw [hbad.out] at h; cases h), fun _ => rfl, ((hKw.trans hk3).trans hK6).trans (by repeat (first | assumption | exact Kept.refl _ | apply Kept.drew | apply Kept.drewN | apply Kept.alloc | refine Kept.trans ?_ (by assumption)))⟩
      | true =>
        obtain ⟨hsq, hq1, hq2, hq3⟩ := isSp_spot e3
        obtain ⟨p', rfl⟩ : ∃ p' : Nat, p = p' := ⟨p.toNat, by omega⟩
        obtain ⟨u', rfl⟩ : ∃ p' : Nat, u = p' := ⟨u.toNat, by omega⟩
        obtain ⟨q', rfl⟩ : ∃ p' : Nat, q = p' := ⟨q.toNat, by omega⟩
        obtain ⟨x', rfl⟩ : ∃ p' : Nat, x = p' := ⟨x.toNat, by omega⟩
        have hgood : Hid (distOk nO nL fO fL p' u' q' x' = true) := by show _ = _; unfold distOk; rw [e1, e2, e3]; rfl
        have ISC : Hid (∀ W v (s t : Int) (b : Bool), TreeAt W v (roadR nO fO fL) → (roadR nO fO fL).isSp s t = b → Calls Try.prog 47 #[v, .agg #[.int .i64 s, .int .i64 t]] W fun e w' => e = .returned (.bool b) ∧ Kept W w') := fun W v s t b hW hb => by rw [← hb]; exact IS.out W v s t hW
        have E2 := Lib.hid e2
        have E3 := Lib.hid e3
        simp only [Int.toNat_natCast] at hsp hsq
        have DI := Lib.hid (fun W v (hW : TreeAt W v (roadR nO fO fL)) => distance_any W v _ ok hW (p', u') (q', x') hsp hsq)
        obtain ⟨d, HD⟩ : ∃ d, Hid (d = (roadR nO fO fL).dist (p', u') (q', x')) := ⟨_, rfl⟩
        rw [← HD.out] at DI
        unfold SpV at DI
        simp only at DI
        clear e1 e2 e3 IS IS1
        go_enter Try.func16, Try.ntmps16
        go_wp2_with (first | (go_at_call 46; refine (TO.out _ hR2).mono ?_; intro e w3 hpp; obtain ⟨tv, rfl, hT3, hk3⟩ := TreePost.ok E1.out hpp.1; obtain ⟨b0', o0', c0', b1', o1', c1', b2', o2', c2', rfl, _, _, _⟩ := id (hT3.open ok); obtain ⟨W6, hW6, hsz6, u0, u1, u2, hK6⟩ := newbox3 w3 w3.heap.size rfl (.slice (some ⟨b0', o0', none⟩) (roadR nO fO fL).n c0') (.slice (some ⟨b1', o1', none⟩) (roadR nO fO fL).n c1') (.slice (some ⟨b2', o2', none⟩) (roadR nO fO fL).n c2') 88; obtain ⟨v0, v1, v2, v3, _⟩ := keep4 y0' y1' z0 z1 (hk3.trans hK6)) | (go_at_call 47; refine (ISC.out _ _ _ _ _ (hT3.kept (by repeat (first | assumption | exact Kept.refl _ | apply Kept.drew | apply Kept.drewN | apply Kept.alloc | refine Kept.trans ?_ (by assumption)))) (by first | exact E2.out | exact E3.out)).mono ?_; rintro e w7 ⟨rfl, hk7⟩; obtain ⟨uu0, uu1, uu2, _⟩ := keep3 (by assumption : W6.cell? ⟨w3.heap.size, 0, none⟩ = _) u1 u2 (show Kept W6 w7 from (by repeat (first | assumption | exact Kept.refl _ | apply Kept.drew | apply Kept.drewN | apply Kept.alloc | refine Kept.trans ?_ (by assumption)))); obtain ⟨vv0, vv1, vv2, vv3, _⟩ := keep4 v0 v1 v2 v3 (show Kept W6 w7 from (by repeat (first | assumption | exact Kept.refl _ | apply Kept.drew | apply Kept.drewN | apply Kept.alloc | refine Kept.trans ?_ (by assumption))))) | (go_at_call 48; refine (DI.out _ _ (hT3.kept (by repeat (first | assumption | exact Kept.refl _ | apply Kept.drew | apply Kept.drewN | apply Kept.alloc | refine Kept.trans ?_ (by assumption))))).mono ?_; rintro e w9 ⟨rfl, hk9⟩))
        exact bodyPost_ret (v := .tuple #[.int .i64 (d : Int), .int .i64 0]) (by simp [results, Try.results16, go_sem]; try rfl) rfl ⟨fun _ => by simp only [Int.toNat_natCast]; rw [HD.out], fun h => (by rw [hgood.out] at h; cases h), ((hKw.trans hk3).trans hK6).trans (by repeat (first | assumption | exact Kept.refl _ | apply Kept.drew | apply Kept.drewN | apply Kept.alloc | refine Kept.trans ?_ (by assumption)))⟩
end Go.Proofs.Ytlgpclnmonpkjaa
