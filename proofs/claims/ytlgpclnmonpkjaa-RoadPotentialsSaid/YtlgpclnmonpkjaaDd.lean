/-
  Package road: potential, Potential.
-/
import Derived.Test.YtlgpclnmonpkjaaDc
import Derived.Test.YtlgpclnmonpkjaaVa
namespace Go.Proofs.Ytlgpclnmonpkjaa
open Go.RowKit Go.Deep

def potP (R : Road) (k : Nat) (A B : Nat → Sp) : Nat := k * prP R k A B + apN R A k
set_option maxRecDepth 100000 in
set_option maxHeartbeats 4000000 in
theorem potential_any (w : World) (v : Value) (R : Road) (ok : R.Ok) (k : Nat) (hk : k ≤ 90) (av bv : Option Addr) (ac bc : Nat) (A B : Nat → Sp) (hT : TreeAt w v R) (hA : SpsAt w (.slice av k ac) k A) (hac : k ≤ ac) (hB : SpsAt w (.slice bv k bc) k B) (hbc : k ≤ bc) (hSA : ∀ t, t < k → R.spot (A t)) (hSB : ∀ t, t < k → R.spot (B t)) :
    Calls Try.prog 67 #[v, .slice av k ac, .slice bv k bc] w fun e w' => e = .returned (.int .i64 ((potP R k A B : Nat) : Int)) ∧ Kept w w' := by
  have hT0 := hT
  obtain ⟨b0, o0, c0, b1, o1, c1, b2, o2, c2, rfl, _, _, _⟩ := hT.open ok
  have PA := Lib.hid (fun W (k6 : Kept w W) => paired_any _ R ok k hk W av bv ac bc A B (hT0.kept k6) (hA.kept k6) hac (hB.kept k6) hbc hSA hSB)
  have AP := Lib.hid (fun W (k6 : Kept w W) => apart_any W _ R ok (hT0.kept k6) av k ac A (hA.kept k6) hac (by omega) hSA)
  have hb := prP_le ok k A B hSA hSB
  have hd := apN_le ok hSA (by omega) k (Nat.le_refl _)
  obtain ⟨b, HB⟩ : ∃ b, Hid (b = prP R k A B) := ⟨_, rfl⟩
  obtain ⟨d, HD⟩ : ∃ d, Hid (d = apN R A k) := ⟨_, rfl⟩
  have HPP : Hid (potP R k A B = k * b + d) := by show _ = _; rw [HB.out, HD.out]; rfl
  rw [← HB.out] at hb PA
  rw [← HD.out] at hd AP
  have hkb : k * b ≤ 90 * 32400 := Nat.mul_le_mul hk (by omega)
  have e1 : (k : Int) * (b : Int) = ((k * b : Nat) : Int) := by simp
  have s1 : IntKind.i64.wrap ((k : Int) * (b : Int)) = ((k * b : Nat) : Int) := by rw [e1]; exact IntWalk.i64_in _ (by omega)
  obtain ⟨kb, HKB⟩ : ∃ kb, Hid (kb = k * b) := ⟨_, rfl⟩
  rw [← HKB.out] at s1 hkb
  have s2 : IntKind.i64.wrap ((kb : Int) + (d : Int)) = (kb : Int) + (d : Int) := IntWalk.i64_in _ (by omega)
  obtain ⟨n0, HN0⟩ : ∃ n0, w.heap.size = n0 := ⟨_, rfl⟩
  obtain ⟨W1, hW1, hsz, q0, q1, q2, hK⟩ := newbox3 w n0 HN0 (.slice (some ⟨b0, o0, none⟩) R.n c0) (.slice (some ⟨b1, o1, none⟩) R.n c1) (.slice (some ⟨b2, o2, none⟩) R.n c2) 88
  clear hT hT0 hA hB hSA hSB e1
  go_enter Try.func67, Try.ntmps67
  go_upto_region 1 with fail
  clear hW1 hsz HN0
  go_region_held3 (fun w' => w'.cell? ⟨n0, 0, none⟩ = some (.slice (some ⟨b0, o0, none⟩) R.n c0) ∧ w'.cell? ⟨n0, 1, none⟩ = some (.slice (some ⟨b1, o1, none⟩) R.n c1) ∧ w'.cell? ⟨n0, 2, none⟩ = some (.slice (some ⟨b2, o2, none⟩) R.n c2) ∧ Kept W1 w')
    (exact keep3 q0 q1 q2 (by repeat (first | assumption | exact Kept.refl _ | apply Kept.drew | apply Kept.drewN | apply Kept.alloc | refine Kept.trans ?_ (by assumption))))
    (first | (go_at_call 79; refine (PA.out _ (hK.trans (by repeat (first | assumption | exact Kept.refl _ | apply Kept.drew | apply Kept.drewN | apply Kept.alloc | refine Kept.trans ?_ (by assumption))))).mono ?_; rintro e w7 ⟨rfl, hk7⟩) | (go_at_call 80; refine (AP.out _ (hK.trans (by repeat (first | assumption | exact Kept.refl _ | apply Kept.drew | apply Kept.drewN | apply Kept.alloc | refine Kept.trans ?_ (by assumption))))).mono ?_; rintro e w8 ⟨rfl, hk8⟩))
  all_goals
    go_wp2_with fail
    go_ret
    exact ⟨by rw [HPP.out, ← HKB.out]; congr 1, hK.trans (by repeat (first | assumption | exact Kept.refl _ | apply Kept.drew | apply Kept.drewN | apply Kept.alloc | refine Kept.trans ?_ (by assumption)))⟩
def potOk (nO nL : Nat) (fO fL : Nat → Int) (k : Nat) (A B : Nat → Int) (l : Nat) (C D : Nat → Int) : Bool := withOk nO nL fO fL k A B 0 (fun _ => 0) && (handsOk (roadR nO fO fL) l C D && decide (k = l))
def PotPost (w : World) (nO nL : Nat) (fO fL : Nat → Int) (k : Nat) (A B : Nat → Int) (l : Nat) (C D : Nat → Int) (e : Ending) (w' : World) : Prop :=
  (potOk nO nL fO fL k A B l C D = true → e = .returned (.tuple #[.int .i64 ((potP (roadR nO fO fL) k (handsN A B) (handsN C D) : Nat) : Int), .int .i64 0])) ∧
  (potOk nO nL fO fL k A B l C D = false → e = .returned (.tuple #[.int .i64 0, .int .i64 1])) ∧ Kept w w'
set_option maxRecDepth 100000 in
set_option maxHeartbeats 8000000 in
theorem Potential_any (w : World) (v : Value) (nO nL : Nat) (fO fL : Nat → Int) (hR : RoadIn w v nO nL fO fL) (hnO : nO ≤ 1000000000) (hnL : nL ≤ 1000000000) (av : Option Addr) (k ac : Nat) (A B : Nat → Int) (hP : PairsAt w (.slice av k ac) k A B) (hac : k ≤ ac) (hk : k ≤ 1000000000) (bv : Option Addr) (l bc : Nat) (C D : Nat → Int) (hQ : PairsAt w (.slice bv l bc) l C D) (hbc : l ≤ bc) (hl : l ≤ 1000000000) :
    Calls Try.prog 43 #[v, .slice av k ac, .slice bv l bc] w (PotPost w nO nL fO fL k A B l C D) := by
  have hR0 := hR
  have hP0 := hP
  have hQ0 := hQ
  obtain ⟨x, y, rfl, ⟨aO, bO, oO, cO, rfl, _, _⟩, ⟨aL, bL, oL, cL, rfl, _, _⟩⟩ := hR
  have TW := Lib.hid (fun W (hW : RoadIn W (.agg #[.slice aO nO cO, .slice aL nL cL]) nO nL fO fL) (hP : PairsAt W (.slice av k ac) k A B) (hC : IntsAt W (.slice none 0 0) 0 (fun _ => 0)) => treeWith_any W _ _ _ nO nL fO fL hW hnO hnL k A B hP hk 0 (fun _ => 0) hC (by omega))
  obtain ⟨n0, HN0⟩ : ∃ n0, w.heap.size = n0 := ⟨_, rfl⟩
  obtain ⟨W1, hW1, hsz, q0, q1, hK⟩ := newbox2 w n0 HN0 (.slice aO nO cO) (.slice aL nL cL) 24
  have hR1 := hR0.kept hK
  have hP1 := hP0.kept hK
  have hQ1 := hQ0.kept hK
  have hC1 : IntsAt W1 (.slice none 0 0) 0 (fun _ => 0) := ⟨none, 0, 0, 0, rfl, fun h => by omega, fun i hi => by omega⟩
  clear hP hQ
  cases e1 : withOk nO nL fO fL k A B 0 (fun _ => 0) with
  | false =>
    have E1 := Lib.hid e1
    have hbad : Hid (potOk nO nL fO fL k A B l C D = false) := by show _ = _; unfold potOk; rw [e1]; rfl
    clear e1
    go_enter Try.func43, Try.ntmps43
    go_wp2_with (first | (go_at_call 52; refine (TW.out _ hR1 hP1 hC1).mono ?_; intro e w3 hpp; obtain ⟨rfl, hk3⟩ := WithPost.bad E1.out hpp.1))
    exact bodyPost_ret (v := .tuple #[.int .i64 0, .int .i64 1]) (by simp [results, Try.results43, go_sem]; try rfl) rfl ⟨fun h => (by rw [hbad.out] at h; cases h), fun _ => rfl, (hK.trans hk3).alloc _⟩
  | true =>
    have E1 := Lib.hid e1
    obtain ⟨p1, hk1, hk3, hm12, p5, p6⟩ := withOk_parts e1
    have ok := roadR_ok p1
    obtain ⟨R, HR⟩ : ∃ R, Hid (R = (roadR nO fO fL)) := ⟨_, rfl⟩
    have AH := Lib.hid (fun W tv (hW : TreeAt W tv (roadR nO fO fL)) (hQ : PairsAt W (.slice bv l bc) l C D) => areHands_any W tv _ (roadR nO fO fL) ok hW l C D hQ hl)
    cases e2 : handsOk (roadR nO fO fL) l C D with
    | false =>
      have hbad : Hid (potOk nO nL fO fL k A B l C D = false) := by show _ = _; unfold potOk; rw [e1, e2]; rfl
      rw [e2] at AH
      clear e1 e2 p5 p6
      go_enter Try.func43, Try.ntmps43
      go_wp2_with (first | (go_at_call 52; refine (TW.out _ hR1 hP1 hC1).mono ?_; intro e w3 hpp; obtain ⟨tv, rfl, hT3, hk3⟩ := WithPost.ok E1.out hpp.1; obtain ⟨b0, o0, c0, b1, o1, c1, b2, o2, c2, rfl, _, _, _⟩ := id (hT3.open ok); obtain ⟨W4, hW4, hsz4, u0, u1, u2, hK4⟩ := newbox3 w3 w3.heap.size rfl (.slice (some ⟨b0, o0, none⟩) (roadR nO fO fL).n c0) (.slice (some ⟨b1, o1, none⟩) (roadR nO fO fL).n c1) (.slice (some ⟨b2, o2, none⟩) (roadR nO fO fL).n c2) 88; have hT4 := hT3.kept hK4; have hK14 := hk3.trans hK4) | (go_at_call 66; refine (AH.out _ _ hT4 (hQ1.kept hK14)).mono ?_; rintro e w5 ⟨rfl, hk5⟩; obtain ⟨v0, v1, v2, _⟩ := keep3 u0 u1 u2 hk5))
      exact bodyPost_ret (v := .tuple #[.int .i64 0, .int .i64 1]) (by simp [results, Try.results43, go_sem]; try rfl) rfl ⟨fun h => (by rw [hbad.out] at h; cases h), fun _ => rfl, ((hK.trans hK14)).trans hk5⟩
    | true =>
      rw [e2] at AH
      by_cases e3 : k = l
      · subst e3
        have hgood : Hid (potOk nO nL fO fL k A B k C D = true) := by show _ = _; unfold potOk; rw [e1, e2, decide_eq_true rfl]; rfl
        have p7 : ∀ i, i < k → (roadR nO fO fL).isSp (C i) (D i) = true := by
          unfold handsOk at e2
          simp only [Bool.and_eq_true, allN_true] at e2
          exact e2.1
        have PT := Lib.hid (fun W tv (hW : TreeAt W tv (roadR nO fO fL)) (hh : SpsAt W (.slice av k ac) k (handsN A B)) (hg : SpsAt W (.slice bv k bc) k (handsN C D)) => potential_any W tv (roadR nO fO fL) ok k (by omega) av bv ac bc (handsN A B) (handsN C D) hW hh hac hg hbc (fun i hi => (isSp_spot (p5 i hi)).1) (fun i hi => (isSp_spot (p7 i hi)).1))
        have HSP := Lib.hid (fun W (hP : PairsAt W (.slice av k ac) k A B) => (hands_sps hP p5).1)
        have HSQ := Lib.hid (fun W (hP : PairsAt W (.slice bv k bc) k C D) => (hands_sps hP p7).1)
        obtain ⟨z, HZ⟩ : ∃ z, Hid (z = potP (roadR nO fO fL) k (handsN A B) (handsN C D)) := ⟨_, rfl⟩
        rw [← HZ.out] at PT
        have hPO : ∀ e w', PotPost w nO nL fO fL k A B k C D e w' ↔ ((potOk nO nL fO fL k A B k C D = true → e = .returned (.tuple #[.int .i64 (z : Int), .int .i64 0])) ∧ (potOk nO nL fO fL k A B k C D = false → e = .returned (.tuple #[.int .i64 0, .int .i64 1])) ∧ Kept w w') := fun e w' => by rw [HZ.out]; exact Iff.rfl
        have HPO := Lib.hid hPO
        clear e1 e2 p5 p6 p7 hPO
        go_enter Try.func43, Try.ntmps43
        go_wp2_with (first | (go_at_call 52; refine (TW.out _ hR1 hP1 hC1).mono ?_; intro e w3 hpp; obtain ⟨tv, rfl, hT3, hk3⟩ := WithPost.ok E1.out hpp.1; obtain ⟨b0, o0, c0, b1, o1, c1, b2, o2, c2, rfl, _, _, _⟩ := id (hT3.open ok); obtain ⟨W4, hW4, hsz4, u0, u1, u2, hK4⟩ := newbox3 w3 w3.heap.size rfl (.slice (some ⟨b0, o0, none⟩) (roadR nO fO fL).n c0) (.slice (some ⟨b1, o1, none⟩) (roadR nO fO fL).n c1) (.slice (some ⟨b2, o2, none⟩) (roadR nO fO fL).n c2) 88; have hT4 := hT3.kept hK4; have hK14 := hk3.trans hK4) | (go_at_call 66; refine (AH.out _ _ hT4 (hQ1.kept hK14)).mono ?_; rintro e w5 ⟨rfl, hk5⟩; obtain ⟨v0, v1, v2, _⟩ := keep3 u0 u1 u2 hk5) | (go_at_call 67; refine (PT.out _ _ (hT4.kept hk5) (HSP.out _ (hP1.kept (hK14.trans hk5))) (HSQ.out _ (hQ1.kept (hK14.trans hk5)))).mono ?_; rintro e w6 ⟨rfl, hk6⟩))
        exact bodyPost_ret (v := .tuple #[.int .i64 (z : Int), .int .i64 0]) (by simp [results, Try.results43, go_sem]; try rfl) rfl ((HPO.out _ _).2 ⟨fun _ => rfl, fun h => (by rw [hgood.out] at h; cases h), ((hK.trans hK14).trans hk5).trans hk6⟩)
      · have hbad : Hid (potOk nO nL fO fL k A B l C D = false) := by show _ = _; unfold potOk; rw [e1, e2, decide_eq_false e3]; rfl
        have e4 : ¬ (k : Int) = (l : Int) := by omega
        clear e1 e2 p5 p6
        go_enter Try.func43, Try.ntmps43
        go_wp2_with (first | (go_at_call 52; refine (TW.out _ hR1 hP1 hC1).mono ?_; intro e w3 hpp; obtain ⟨tv, rfl, hT3, hk3⟩ := WithPost.ok E1.out hpp.1; obtain ⟨b0, o0, c0, b1, o1, c1, b2, o2, c2, rfl, _, _, _⟩ := id (hT3.open ok); obtain ⟨W4, hW4, hsz4, u0, u1, u2, hK4⟩ := newbox3 w3 w3.heap.size rfl (.slice (some ⟨b0, o0, none⟩) (roadR nO fO fL).n c0) (.slice (some ⟨b1, o1, none⟩) (roadR nO fO fL).n c1) (.slice (some ⟨b2, o2, none⟩) (roadR nO fO fL).n c2) 88; have hT4 := hT3.kept hK4; have hK14 := hk3.trans hK4) | (go_at_call 66; refine (AH.out _ _ hT4 (hQ1.kept hK14)).mono ?_; rintro e w5 ⟨rfl, hk5⟩; obtain ⟨v0, v1, v2, _⟩ := keep3 u0 u1 u2 hk5))
        exact bodyPost_ret (v := .tuple #[.int .i64 0, .int .i64 1]) (by simp [results, Try.results43, go_sem]; try rfl) rfl ⟨fun h => (by rw [hbad.out] at h; cases h), fun _ => rfl, ((hK.trans hK14)).trans hk5⟩
end Go.Proofs.Ytlgpclnmonpkjaa
