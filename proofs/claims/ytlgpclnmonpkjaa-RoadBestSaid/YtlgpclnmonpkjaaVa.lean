/-
  Package road: Serve.
-/
import Derived.Test.YtlgpclnmonpkjaaTz
namespace Go.Proofs.Ytlgpclnmonpkjaa
open Go.RowKit Go.Deep

/-- farriers and calls as numbers from 0 on -/
def handsN (A B : Nat → Int) : Nat → Sp := fun i => ((A i).toNat, (B i).toNat)
def callsN (C : Nat → Int) : Nat → Nat := fun i => (C i).toNat
theorem hands_sps {w : World} {v : Value} {R : Road} {k : Nat} {A B : Nat → Int} (h : PairsAt w v k A B) (hv : ∀ i, i < k → R.isSp (A i) (B i) = true) : SpsAt w v k (handsN A B) ∧ ∀ i, i < k → R.spot (handsN A B i) := by
  refine ⟨?_, fun i hi => (isSp_spot (hv i hi)).1⟩
  obtain ⟨a, b, o, cap, e, ha, hc⟩ := h
  refine ⟨a, b, o, cap, e, ha, fun i hi => ?_⟩
  obtain ⟨_, h1, _, h3⟩ := isSp_spot (hv i hi)
  obtain ⟨c1, c2⟩ := hc i hi
  refine ⟨c1.trans ?_, c2.trans ?_⟩
  · show some (Value.int .i64 (A i)) = some (Value.int .i64 (((A i).toNat : Nat) : Int)); rw [show (((A i).toNat : Nat) : Int) = A i by omega]
  · show some (Value.int .i64 (B i)) = some (Value.int .i64 (((B i).toNat : Nat) : Int)); rw [show (((B i).toNat : Nat) : Int) = B i by omega]
theorem calls_ints {w : World} {v : Value} {n m : Nat} {C : Nat → Int} (h : IntsAt w v m C) (hv : ∀ i, i < m → 0 ≤ C i ∧ C i < n) : IntsAt w v m (fun i => ((callsN C i : Nat) : Int)) ∧ ∀ i, i < m → callsN C i < n :=
  ⟨h.congr (fun i hi => by have := hv i hi; show Value.int .i64 (C i) = Value.int .i64 (((C i).toNat : Nat) : Int); rw [show (((C i).toNat : Nat) : Int) = C i by omega]), fun i hi => by have := hv i hi; show (C i).toNat < n; omega⟩
theorem sumN_succ (f : Nat → Nat) (n : Nat) : sumN f (n + 1) = sumN f n + f n := rfl
def ServedPost (w : World) (nO nL : Nat) (fO fL : Nat → Int) (k : Nat) (A B : Nat → Int) (m : Nat) (C : Nat → Int) (e : Ending) (w' : World) : Prop :=
  (withOk nO nL fO fL k A B m C = true → ∃ v, e = .returned (.tuple #[v, .int .i64 ((sumN (servC (roadR nO fO fL) k (callsN C) (handsN A B)) m : Nat) : Int), .int .i64 0]) ∧ SpsAt w' v k (servH (roadR nO fO fL) k (callsN C) (handsN A B) m)) ∧
  (withOk nO nL fO fL k A B m C = false → e = .returned (.tuple #[.slice none 0 0, .int .i64 0, .int .i64 1])) ∧ Kept w w'
set_option maxRecDepth 100000 in
set_option maxHeartbeats 4000000 in
theorem Serve_any (w : World) (v hv cv : Value) (nO nL : Nat) (fO fL : Nat → Int) (hR : RoadIn w v nO nL fO fL) (hnO : nO ≤ 1000000000) (hnL : nL ≤ 1000000000) (k : Nat) (A B : Nat → Int) (hP : PairsAt w hv k A B) (hk : k ≤ 1000000000) (m : Nat) (C : Nat → Int) (hC : IntsAt w cv m C) (hm : m ≤ 1000000000) :
    Calls Try.prog 29 #[v, hv, cv] w (ServedPost w nO nL fO fL k A B m C) := by
  have hR0 := hR
  have hP0 := hP
  have hC0 := hC
  obtain ⟨x, y, rfl, ⟨aO, bO, oO, cO, rfl, _, _⟩, ⟨aL, bL, oL, cL, rfl, _, _⟩⟩ := hR
  obtain ⟨ha, hha, hhc, rfl⟩ : ∃ a n c, hv = .slice a n c := by obtain ⟨a, _, _, cap, e, _⟩ := hP; exact ⟨a, k, cap, e⟩
  obtain ⟨ca, cca, ccc, rfl⟩ : ∃ a n c, cv = .slice a n c := by obtain ⟨a, _, _, cap, e, _⟩ := hC; exact ⟨a, m, cap, e⟩
  have TW := Lib.hid (fun W (hW : RoadIn W (.agg #[.slice aO nO cO, .slice aL nL cL]) nO nL fO fL) (hP : PairsAt W (.slice ha hha hhc) k A B) (hC : IntsAt W (.slice ca cca ccc) m C) => treeWith_any W _ _ _ nO nL fO fL hW hnO hnL k A B hP hk m C hC hm)
  obtain ⟨n0, HN0⟩ : ∃ n0, w.heap.size = n0 := ⟨_, rfl⟩
  obtain ⟨W1, hW1, hsz, q0, q1, hK⟩ := newbox2 w n0 HN0 (.slice aO nO cO) (.slice aL nL cL) 24
  have hR1 := hR0.kept hK
  have hP1 := hP0.kept hK
  have hC1 := hC0.kept hK
  cases e1 : withOk nO nL fO fL k A B m C with
  | false =>
    have E1 := Lib.hid e1
    clear e1
    go_enter Try.func29, Try.ntmps29
    go_wp2_with (first | (go_at_call 52; refine (TW.out _ hR1 hP1 hC1).mono ?_; intro e w3 hpp; obtain ⟨rfl, hk3⟩ := WithPost.bad E1.out hpp.1))
    exact bodyPost_ret (v := .tuple #[.slice none 0 0, .int .i64 0, .int .i64 1]) (by simp [results, Try.results29, go_sem]; try rfl) rfl ⟨fun h => (by rw [E1.out] at h; cases h), fun _ => rfl, (hK.trans hk3).alloc _⟩
  | true =>
    have E1 := Lib.hid e1
    obtain ⟨p1, hk1, hk3, hm12, p5, p6⟩ := withOk_parts e1
    have ok := roadR_ok p1
    obtain ⟨hS, hsp⟩ := hands_sps hP0 p5
    obtain ⟨hI, hcp⟩ := calls_ints hC0 p6
    have SV := Lib.hid (fun W tv (hW : TreeAt W tv (roadR nO fO fL)) (hh : SpsAt W (.slice ha hha hhc) k (handsN A B)) (hc : IntsAt W (.slice ca cca ccc) m (fun i => ((callsN C i : Nat) : Int))) => serve_any W tv _ _ (roadR nO fO fL) ok hW k m (handsN A B) (callsN C) hh hc hk1 (by omega) (by omega) hsp hcp)
    have hle := fun i hi => servC_le ok hk1 hcp hsp i (m := m) hi
    have HLE := Lib.hid hle
    obtain ⟨f, HF⟩ : ∃ f, Hid (f = servC (roadR nO fO fL) k (callsN C) (handsN A B)) := ⟨_, rfl⟩
    unfold ServePost at SV
    rw [← HF.out] at SV HLE
    have hpost : ∀ e w', ServedPost w nO nL fO fL k A B m C e w' ↔ (∃ v, e = .returned (.tuple #[v, .int .i64 ((sumN f m : Nat) : Int), .int .i64 0]) ∧ SpsAt w' v k (servH (roadR nO fO fL) k (callsN C) (handsN A B) m)) ∧ Kept w w' := fun e w' => by
      unfold ServedPost
      rw [E1.out, HF.out]
      simp
    have HPO := Lib.hid hpost
    have hS1 := hS.kept hK
    have hI1 := hI.kept hK
    clear e1 p5 p6 hle hpost hsp hcp
    go_enter Try.func29, Try.ntmps29
    go_wp2_with (first | (go_at_call 52; refine (TW.out _ hR1 hP1 hC1).mono ?_; intro e w3 hpp; obtain ⟨tv, rfl, hT3, hk3'⟩ := WithPost.ok E1.out hpp.1; obtain ⟨b0, o0, c0, b1, o1, c1, b2, o2, c2, rfl, _, _, _⟩ := id (hT3.open ok); obtain ⟨W4, hW4, hsz4, u0, u1, u2, hK4⟩ := newbox3 w3 w3.heap.size rfl (.slice (some ⟨b0, o0, none⟩) (roadR nO fO fL).n c0) (.slice (some ⟨b1, o1, none⟩) (roadR nO fO fL).n c1) (.slice (some ⟨b2, o2, none⟩) (roadR nO fO fL).n c2) 88) | (go_at_call 56; refine (SV.out _ _ (hT3.kept (by repeat (first | assumption | exact Kept.refl _ | apply Kept.drew | apply Kept.drewN | apply Kept.alloc | refine Kept.trans ?_ (by assumption)))) (hS1.kept (show Kept W1 _ from hk3'.trans hK4)) (hI1.kept (show Kept W1 _ from hk3'.trans hK4))).mono ?_; rintro e w5 ⟨sv, cr, rfl, hS5, hr5, hcr, hk5⟩; obtain ⟨sa, sb, so, sc, rfl, _, _⟩ := id hS5))
    have hKa := (hK.trans (hk3'.trans hK4)).trans hk5
    clear hK4 hW4 hsz4 hK hW1 hsz
    go_loopg [13, 35] m (fun g s13 s35 wr => ∃ i : Nat, i ≤ m ∧ g = m - i ∧ s35 = .int .i64 i ∧ s13 = .int .i64 ((sumN f i : Nat) : Int) ∧ Kept w5 wr)
    case atStart => exact ⟨0, Nat.zero_le _, rfl, rfl, rfl, Kept.refl _⟩
    case round =>
      obtain ⟨i, hi, rfl, rfl, rfl, hKi⟩ := hrel
      by_cases hlt : i < m
      · have h1 := (hKi.row hr5).cell hlt
        have n1 : (i : Int) < (m : Int) := by omega
        have n2 : (0 : Int) ≤ (i : Int) := by omega
        have hs1 := sumN_le f (360 * k) (i + 1) (fun j hj => HLE.out j (by omega))
        rw [sumN_succ] at hs1
        have hb : 360 * k * (i + 1) ≤ 360 * 3 * 12 := Nat.mul_le_mul (by omega) (by omega)
        have s1 : IntKind.i64.wrap (((sumN f i : Nat) : Int) + ((f i : Nat) : Int)) = ((sumN f i : Nat) : Int) + ((f i : Nat) : Int) := IntWalk.i64_in _ (by omega)
        go_wp2_with fail
        go_roundg (m - (i + 1))
        case measure => omega
        case rel => exact ⟨i + 1, by omega, rfl, by go_num, by rw [sumN_succ, Int.natCast_add], hKi⟩
      · obtain rfl : i = m := by omega
        go_wp2_with fail
        exact bodyPost_ret (v := .tuple #[.slice sa k sc, .int .i64 ((sumN f i : Nat) : Int), .int .i64 0]) (by simp [results, Try.results29, go_sem]; try rfl) rfl ((HPO.out _ _).2 ⟨⟨_, rfl, hS5.kept hKi⟩, hKa.trans hKi⟩)
end Go.Proofs.Ytlgpclnmonpkjaa
