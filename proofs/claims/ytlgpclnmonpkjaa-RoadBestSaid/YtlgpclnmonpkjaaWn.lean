/-
  The exported Costs.
-/
import Derived.Test.YtlgpclnmonpkjaaWm
namespace Go.Proofs.Ytlgpclnmonpkjaa
open Go.RowKit Go.Deep

def CostsPost (w : World) (nO nL : Nat) (fO fL : Nat → Int) (k : Nat) (A B : Nat → Int) (m : Nat) (C : Nat → Int) (e : Ending) (w' : World) : Prop :=
  (withOk nO nL fO fL k A B m C = true → ∃ v, e = .returned (.tuple #[v, .int .i64 0]) ∧ IntsAt w' v m (fun i => ((servC (roadR nO fO fL) k (callsN C) (handsN A B) i : Nat) : Int))) ∧
  (withOk nO nL fO fL k A B m C = false → e = .returned (.tuple #[.slice none 0 0, .int .i64 1])) ∧ Kept w w'
set_option maxRecDepth 100000 in
set_option maxHeartbeats 4000000 in
theorem Costs_any (w : World) (v hv cv : Value) (nO nL : Nat) (fO fL : Nat → Int) (hR : RoadIn w v nO nL fO fL) (hnO : nO ≤ 1000000000) (hnL : nL ≤ 1000000000) (k : Nat) (A B : Nat → Int) (hP : PairsAt w hv k A B) (hk : k ≤ 1000000000) (m : Nat) (C : Nat → Int) (hC : IntsAt w cv m C) (hm : m ≤ 1000000000) :
    Calls Try.prog 30 #[v, hv, cv] w (CostsPost w nO nL fO fL k A B m C) := by
  have hR0 := hR
  have hP0 := hP
  have hC0 := hC
  obtain ⟨x, y, rfl, ⟨aO, bO, oO, cO, rfl, _, _⟩, ⟨aL, bL, oL, cL, rfl, _, _⟩⟩ := hR
  obtain ⟨ha, hha, hhc, rfl⟩ : ∃ a n c, hv = .slice a n c := by obtain ⟨a, _, _, cap, e, _⟩ := hP; exact ⟨a, k, cap, e⟩
  obtain ⟨ca, cca, ccc, rfl⟩ : ∃ a n c, cv = .slice a n c := by obtain ⟨a, _, _, cap, e, _⟩ := hC; exact ⟨a, m, cap, e⟩
  have TW := Lib.hid (fun W (hW : RoadIn W (.agg #[.slice aO nO cO, .slice aL nL cL]) nO nL fO fL) (hP : PairsAt W (.slice ha hha hhc) k A B) (hC : IntsAt W (.slice ca cca ccc) m C) => treeWith_any W _ _ _ nO nL fO fL hW hnO hnL k A B hP hk m C hC hm)
  obtain ⟨n0, HN0⟩ : ∃ n0, w.heap.size = n0 := ⟨_, rfl⟩
  obtain ⟨W1, hW1, hsz, q0, q1, hK⟩ := newbox2 w n0 HN0 (.slice aO nO cO) (.slice aL nL cL) 24
  have hR1 := hR0.kept hK
  have hP1 := hP0.kept hK
  have hC1 := hC0.kept hK
  cases e1 : withOk nO nL fO fL k A B m C with
  | false =>
    have E1 := Lib.hid e1
    clear e1
    go_enter Try.func30, Try.ntmps30
    go_wp2_with (first | (go_at_call 52; refine (TW.out _ hR1 hP1 hC1).mono ?_; intro e w3 hpp; obtain ⟨rfl, hk3⟩ := WithPost.bad E1.out hpp.1))
    exact bodyPost_ret (v := .tuple #[.slice none 0 0, .int .i64 1]) (by simp [results, Try.results30, go_sem]; try rfl) rfl ⟨fun h => (by rw [E1.out] at h; cases h), fun _ => rfl, (hK.trans hk3).alloc _⟩
  | true =>
    have E1 := Lib.hid e1
    obtain ⟨p1, hk1, hk3, hm12, p5, p6⟩ := withOk_parts e1
    have ok := roadR_ok p1
    obtain ⟨hS, hsp⟩ := hands_sps hP0 p5
    obtain ⟨hI, hcp⟩ := calls_ints hC0 p6
    have SV := Lib.hid (fun W tv (hW : TreeAt W tv (roadR nO fO fL)) (hh : SpsAt W (.slice ha hha hhc) k (handsN A B)) (hc : IntsAt W (.slice ca cca ccc) m (fun i => ((callsN C i : Nat) : Int))) => serve_any W tv _ _ (roadR nO fO fL) ok hW k m (handsN A B) (callsN C) hh hc hk1 (by omega) (by omega) hsp hcp)
    obtain ⟨f, HF⟩ : ∃ f, Hid (f = servC (roadR nO fO fL) k (callsN C) (handsN A B)) := ⟨_, rfl⟩
    unfold ServePost at SV
    rw [← HF.out] at SV
    have hpost : ∀ e w', CostsPost w nO nL fO fL k A B m C e w' ↔ (∃ v, e = .returned (.tuple #[v, .int .i64 0]) ∧ IntsAt w' v m (fun i => ((f i : Nat) : Int))) ∧ Kept w w' := fun e w' => by
      unfold CostsPost
      rw [E1.out, HF.out]
      simp
    have HPO := Lib.hid hpost
    have hS1 := hS.kept hK
    have hI1 := hI.kept hK
    clear e1 p5 p6 hpost hsp hcp
    go_enter Try.func30, Try.ntmps30
    go_wp2_with (first | (go_at_call 52; refine (TW.out _ hR1 hP1 hC1).mono ?_; intro e w3 hpp; obtain ⟨tv, rfl, hT3, hk3'⟩ := WithPost.ok E1.out hpp.1; obtain ⟨b0, o0, c0, b1, o1, c1, b2, o2, c2, rfl, _, _, _⟩ := id (hT3.open ok); obtain ⟨W4, hW4, hsz4, u0, u1, u2, hK4⟩ := newbox3 w3 w3.heap.size rfl (.slice (some ⟨b0, o0, none⟩) (roadR nO fO fL).n c0) (.slice (some ⟨b1, o1, none⟩) (roadR nO fO fL).n c1) (.slice (some ⟨b2, o2, none⟩) (roadR nO fO fL).n c2) 88) | (go_at_call 56; refine (SV.out _ _ (hT3.kept (by repeat (first | assumption | exact Kept.refl _ | apply Kept.drew | apply Kept.drewN | apply Kept.alloc | refine Kept.trans ?_ (by assumption)))) (hS1.kept (show Kept W1 _ from hk3'.trans hK4)) (hI1.kept (show Kept W1 _ from hk3'.trans hK4))).mono ?_; rintro e w5 ⟨sv, cr, rfl, hS5, hr5, hcr, hk5⟩; obtain ⟨sa, sb, so, sc, rfl, _, _⟩ := id hS5))
    exact bodyPost_ret (v := .tuple #[.slice (some ⟨cr, 0, none⟩) m m, .int .i64 0]) (by simp [results, Try.results30, go_sem]; try rfl) rfl ((HPO.out _ _).2 ⟨⟨_, rfl, ⟨_, cr, 0, m, rfl, fun _ => rfl, fun i hi => by rw [Nat.zero_add]; exact hr5.cell hi⟩⟩, (hK.trans (hk3'.trans hK4)).trans hk5⟩)
end Go.Proofs.Ytlgpclnmonpkjaa
