/-
  Package road: pairings and the sum of all distances in plain words; apart; the reference's Pairs.
-/
import Derived.Test.YtlgpclnmonpkjaaTr
import Derived.Test.YtlgpclnmonpkjaaWe
namespace Go.Proofs.Ytlgpclnmonpkjaa
open Go.RowKit Go.Deep

def apI (R : Road) (H : Nat → Sp) (i : Nat) : Nat → Nat
  | 0 => 0
  | j + 1 => apI R H i j + R.dist (H i) (H j)
def apN (R : Road) (H : Nat → Sp) : Nat → Nat
  | 0 => 0
  | i + 1 => apN R H i + apI R H i i
/-- the least of the first n, or 1048576 -/
def mnB (f : Nat → Nat) : Nat → Nat
  | 0 => 1048576
  | i + 1 => min (mnB f i) (f i)
def skF (B : Nat → Sp) (i : Nat) : Nat → Sp := fun t => if t < i then B t else B (t + 1)
/-- the least sum of distances of a pairing -/
def prP (R : Road) : Nat → (Nat → Sp) → (Nat → Sp) → Nat
  | 0, _, _ => 0
  | k + 1, A, B => mnB (fun i => R.dist (A 0) (B i) + prP R k (fun t => A (t + 1)) (skF B i)) (k + 1)
theorem mnB_le (f : Nat → Nat) : ∀ n i, i < n → mnB f n ≤ f i := by
  intro n
  induction n with
  | zero => intro i hi; omega
  | succ n ih =>
    intro i hi
    simp only [mnB]
    by_cases e : i = n
    · subst e; omega
    · have := ih i (by omega); omega
theorem mnB_some (f : Nat → Nat) (h : f 0 ≤ 1048576) : mnB f 1 = f 0 := by simp only [mnB]; omega
theorem skF_spot {R : Road} {B : Nat → Sp} {k i : Nat} (h : ∀ t, t < k + 1 → R.spot (B t)) : ∀ t, t < k → R.spot (skF B i t) := fun t ht => by
  unfold skF
  split
  · exact h t (by omega)
  · exact h (t + 1) (by omega)
theorem prP_le {R : Road} (ok : R.Ok) : ∀ k A B, (∀ t, t < k → R.spot (A t)) → (∀ t, t < k → R.spot (B t)) → prP R k A B ≤ 360 * k := by
  intro k
  induction k with
  | zero => intro A B _ _; simp [prP]
  | succ k ih =>
    intro A B hA hB
    simp only [prP]
    have h1 := mnB_le (fun i => R.dist (A 0) (B i) + prP R k (fun t => A (t + 1)) (skF B i)) (k + 1) 0 (by omega)
    have h2 := ih (fun t => A (t + 1)) (skF B 0) (fun t ht => hA (t + 1) (by omega)) (skF_spot hB)
    have h3 := Road.dist_le ok (hA 0 (by omega)) (hB 0 (by omega))
    (try dsimp only at h1)
    omega
theorem apI_le {R : Road} (ok : R.Ok) {H : Nat → Sp} {k : Nat} (h : ∀ t, t < k → R.spot (H t)) (i : Nat) (hi : i < k) : ∀ j, j ≤ i → apI R H i j ≤ 360 * j := by
  intro j
  induction j with
  | zero => intro _; simp [apI]
  | succ j ih =>
    intro hj
    have h1 := ih (by omega)
    have h2 := Road.dist_le ok (h i hi) (h j (by omega))
    simp only [apI]
    omega
theorem apN_le {R : Road} (ok : R.Ok) {H : Nat → Sp} {k : Nat} (h : ∀ t, t < k → R.spot (H t)) (hk : k ≤ 100) : ∀ i, i ≤ k → apN R H i ≤ 36000 * i := by
  intro i
  induction i with
  | zero => intro _; simp [apN]
  | succ i ih =>
    intro hi
    have h1 := ih (by omega)
    have h2 := apI_le ok h i (by omega) i (Nat.le_refl _)
    simp only [apN]
    omega
set_option maxRecDepth 100000 in
set_option maxHeartbeats 4000000 in
theorem apart_any (w : World) (v : Value) (R : Road) (ok : R.Ok) (hT : TreeAt w v R) (av : Option Addr) (k hcap : Nat) (H : Nat → Sp) (hS : SpsAt w (.slice av k hcap) k H) (hkc : k ≤ hcap) (hk : k ≤ 100) (hH : ∀ t, t < k → R.spot (H t)) :
    Calls Try.prog 80 #[v, .slice av k hcap] w fun e w' => e = .returned (.int .i64 ((apN R H k : Nat) : Int)) ∧ Kept w w' := by
  have hT0 := hT
  obtain ⟨b0, o0, c0, b1, o1, c1, b2, o2, c2, rfl, _, _, _⟩ := hT.open ok
  obtain ⟨a, hb, ho, hcap', e, ha, hc⟩ := hS
  cases e
  have DI := Lib.hid (fun W (p u q x : Nat) (hW : TreeAt W (Value.agg #[.slice (some ⟨b0, o0, none⟩) R.n c0, .slice (some ⟨b1, o1, none⟩) R.n c1, .slice (some ⟨b2, o2, none⟩) R.n c2]) R) (hs : R.spot (p, u)) (ht : R.spot (q, x)) => distance_any W _ R ok hW (p, u) (q, x) hs ht)
  unfold SpV at DI
  simp only at DI
  obtain ⟨n0, HN0⟩ : ∃ n0, w.heap.size = n0 := ⟨_, rfl⟩
  obtain ⟨W1, hW1, hsz, q0, q1, q2, hK⟩ := newbox3 w n0 HN0 (.slice (some ⟨b0, o0, none⟩) R.n c0) (.slice (some ⟨b1, o1, none⟩) R.n c1) (.slice (some ⟨b2, o2, none⟩) R.n c2) 88
  have HC := Lib.hid (fun i hi => And.intro (hK.cellSome (hc i hi).1) (hK.cellSome (hc i hi).2))
  have HB := Lib.hid (fun i (hi : i ≤ k) => apN_le ok hH hk i hi)
  have HI := Lib.hid (fun i (hi : i < k) j (hj : j ≤ i) => apI_le ok hH i hi j hj)
  have HS := Lib.hid hH
  have hT1 := hT0.kept hK
  clear hc hT0 hT hH
  go_enter Try.func80, Try.ntmps80
  go_wp2_with fail
  clear hW1 hsz HN0
  go_loopg [5, 12] k (fun g s5 s12 wr => ∃ i : Nat, i ≤ k ∧ g = k - i ∧ s12 = .int .i64 i ∧ s5 = .int .i64 ((apN R H i : Nat) : Int) ∧ Kept W1 wr)
  case atStart => exact ⟨0, Nat.zero_le _, rfl, rfl, rfl, Kept.refl _⟩
  case round =>
    obtain ⟨i, hle, rfl, rfl, rfl, hK2⟩ := hrel
    by_cases hlt : i < k
    · obtain rfl := ha (by omega)
      obtain ⟨c1', c2'⟩ := HC.out i hlt
      have h1 := hK2.cellSome c1'
      have h2 := hK2.cellSome c2'
      obtain ⟨z0, z1, z2, _⟩ := keep3 q0 q1 q2 hK2
      have n1 : (i : Int) < (k : Int) := by omega
      have n2 : (0 : Int) ≤ (i : Int) := by omega
      have n5 : (i : Int) ≤ (hcap : Int) := by omega
      have HSI := Lib.hid (HS.out i hlt)
      obtain ⟨p, HP⟩ : ∃ p : Nat, Hid (p = (H i).1) := ⟨_, rfl⟩
      obtain ⟨u, HU⟩ : ∃ u : Nat, Hid (u = (H i).2) := ⟨_, rfl⟩
      rw [← HP.out] at h1
      rw [← HU.out] at h2
      have HPU : Hid (H i = (p, u)) := by show _ = _; rw [HP.out, HU.out]
      rw [HPU.out] at HSI
      obtain ⟨sm, HSM⟩ : ∃ sm : Nat, Hid (sm = apN R H i) := ⟨_, rfl⟩
      have HSB : sm ≤ 36000 * i := by rw [HSM.out]; exact HB.out i hle
      rw [← HSM.out]
      obtain ⟨W3, hW3, hsz3, y0, y1, hK3⟩ := newbox2 wr wr.heap.size rfl (.int .i64 p) (.int .i64 u) 26
      obtain ⟨v0, v1, v2, _⟩ := keep3 z0 z1 z2 hK3
      have hK13 := hK2.trans hK3
      clear h1 h2 c1' c2' z0 z1 z2
      have h1 : wr.cell? ⟨hb, ho + i * 2, none⟩ = some (.int .i64 p) := by rw [HP.out]; exact hK2.cellSome (HC.out i hlt).1
      have h2 : wr.cell? ⟨hb, ho + i * 2 + 1, none⟩ = some (.int .i64 u) := by rw [HU.out]; exact hK2.cellSome (HC.out i hlt).2
      obtain ⟨nr, HNR⟩ : ∃ nr, wr.heap.size = nr := ⟨_, rfl⟩
      rw [HNR] at y0 y1
      go_wp2_with fail
      clear hW3 hsz3 h1 h2
      go_loopg [5, 21] i (fun g s5 s21 wi => ∃ j : Nat, j ≤ i ∧ g = i - j ∧ s21 = .int .i64 j ∧ s5 = .int .i64 ((sm + apI R H i j : Nat) : Int) ∧ Kept W3 wi)
      case atStart => exact ⟨0, Nat.zero_le _, rfl, rfl, rfl, Kept.refl _⟩
      case round =>
        obtain ⟨j, hle2, rfl, rfl, rfl, hK4⟩ := hrel
        by_cases hlt2 : j < i
        · obtain ⟨c1', c2'⟩ := HC.out j (by omega)
          have h1 := (hK13.trans hK4).cellSome c1'
          have h2 := (hK13.trans hK4).cellSome c2'
          obtain ⟨x0, x1, x2, _⟩ := keep3 v0 v1 v2 hK4
          obtain ⟨k0, k1, _⟩ := keep2 y0 y1 hK4
          have n3 : (j : Int) < (i : Int) := by omega
          have n4 : (0 : Int) ≤ (j : Int) := by omega
          have HSJ := Lib.hid (HS.out j (by omega))
          obtain ⟨q, HQ⟩ : ∃ p : Nat, Hid (p = (H j).1) := ⟨_, rfl⟩
          obtain ⟨x, HX⟩ : ∃ u : Nat, Hid (u = (H j).2) := ⟨_, rfl⟩
          rw [← HQ.out] at h1
          rw [← HX.out] at h2
          have HQX : Hid (H j = (q, x)) := by show _ = _; rw [HQ.out, HX.out]
          rw [HQX.out] at HSJ
          obtain ⟨d, HD⟩ : ∃ d, Hid (d = R.dist (p, u) (q, x)) := ⟨_, rfl⟩
          obtain ⟨ai, HAI⟩ : ∃ ai, Hid (ai = apI R H i j) := ⟨_, rfl⟩
          have HNX : Hid (apI R H i (j + 1) = ai + d) := by show _ = _; rw [HAI.out, HD.out]; simp only [apI]; rw [HPU.out, HQX.out]
          have b1 : ai ≤ 360 * j := by rw [HAI.out]; exact HI.out i hlt j hle2
          have b2 : d ≤ 360 := by rw [HD.out]; exact Road.dist_le ok HSI.out HSJ.out
          obtain ⟨W5, hW5, hsz5, g0, g1, hK5⟩ := newbox2 wr wr.heap.size rfl (.int .i64 q) (.int .i64 x) 26
          obtain ⟨l0, l1, l2, _⟩ := keep3 x0 x1 x2 hK5
          obtain ⟨m0, m1, _⟩ := keep2 k0 k1 hK5
          have hT5 := hT1.kept ((hK13.trans hK4).trans hK5)
          have DI2 := Lib.hid (DI.out W5 p u q x hT5 HSI.out HSJ.out)
          rw [← HD.out] at DI2
          rw [← HAI.out]
          clear DI HC c1' c2' hT1 hT5 HB HI HS
          go_wp2_with (first | (go_at_call 48; refine DI2.out.mono ?_; rintro e w7 ⟨rfl, hk7⟩))
          go_roundg (i - (j + 1))
          case measure => omega
          case rel => exact ⟨j + 1, by omega, rfl, by go_num, by rw [HNX.out]; first | rfl | go_num | (congr 1; omega), (hK4.trans hK5).trans hk7⟩
        · obtain rfl : j = i := by omega
          have HNX : Hid (apN R H (j + 1) = sm + apI R H j j) := by show _ = _; simp only [apN]; rw [HSM.out]
          go_wp2_with fail
          go_roundg (k - (j + 1))
          case measure => omega
          case rel => exact ⟨j + 1, by omega, rfl, by go_num, by rw [HNX.out], hK13.trans hK4⟩
    · obtain rfl : i = k := by omega
      go_wp2_with fail
      go_ret
      exact ⟨rfl, hK.trans hK2⟩
set_option maxRecDepth 100000 in
set_option maxHeartbeats 4000000 in
theorem rPairs_any (w : World) (v hv : Value) (R : Road) (ok : R.Ok) (hT : RefAt w v R) (k : Nat) (H : Nat → Sp) (hS : SpsAt w hv k H) (hk : k ≤ 100) (hH : ∀ t, t < k → R.spot (H t)) :
    Calls Try.prog 69 #[v, hv] w fun e w' => e = .returned (.int .i64 ((apN R H k : Nat) : Int)) ∧ Kept w w' := by
  have hT0 := hT
  obtain ⟨b0, o0, c0, b1, o1, c1, rfl, _, _⟩ := hT.open ok
  obtain ⟨a, hb, ho, hcap, rfl, ha, hc⟩ := hS
  have DI := Lib.hid (fun W (p u q x : Nat) (hW : RefAt W (.agg #[.slice (some ⟨b0, o0, none⟩) R.n c0, .slice (some ⟨b1, o1, none⟩) R.n c1]) R) (hs : R.spot (p, u)) (ht : R.spot (q, x)) => rDistance_any W _ R ok hW (p, u) (q, x) hs ht)
  unfold SpV at DI
  simp only at DI
  obtain ⟨n0, HN0⟩ : ∃ n0, w.heap.size = n0 := ⟨_, rfl⟩
  obtain ⟨W1, hW1, hsz, q0, q1, hK⟩ := newbox2 w n0 HN0 (.slice (some ⟨b0, o0, none⟩) R.n c0) (.slice (some ⟨b1, o1, none⟩) R.n c1) 24
  have HC := Lib.hid (fun i hi => And.intro (hK.cellSome (hc i hi).1) (hK.cellSome (hc i hi).2))
  have HB := Lib.hid (fun i (hi : i ≤ k) => apN_le ok hH hk i hi)
  have HI := Lib.hid (fun i (hi : i < k) j (hj : j ≤ i) => apI_le ok hH i hi j hj)
  have HS := Lib.hid hH
  have hT1 := hT0.kept hK
  clear hc hT0 hT hH
  go_enter Try.func69, Try.ntmps69
  go_wp2_with fail
  clear hW1 hsz HN0
  go_loopg [5, 6] k (fun g s5 s6 wr => ∃ i : Nat, i ≤ k ∧ g = k - i ∧ s6 = .int .i64 i ∧ s5 = .int .i64 ((apN R H i : Nat) : Int) ∧ Kept W1 wr)
  case atStart => exact ⟨0, Nat.zero_le _, rfl, rfl, rfl, Kept.refl _⟩
  case round =>
    obtain ⟨i, hle, rfl, rfl, rfl, hK2⟩ := hrel
    by_cases hlt : i < k
    · obtain rfl := ha (by omega)
      have n1 : (i : Int) < (k : Int) := by omega
      have n2 : (0 : Int) ≤ (i : Int) := by omega
      have HSI := Lib.hid (HS.out i hlt)
      obtain ⟨p, HP⟩ : ∃ p : Nat, Hid (p = (H i).1) := ⟨_, rfl⟩
      obtain ⟨u, HU⟩ : ∃ u : Nat, Hid (u = (H i).2) := ⟨_, rfl⟩
      have HPU : Hid (H i = (p, u)) := by show _ = _; rw [HP.out, HU.out]
      rw [HPU.out] at HSI
      obtain ⟨sm, HSM⟩ : ∃ sm : Nat, Hid (sm = apN R H i) := ⟨_, rfl⟩
      have HSB : sm ≤ 36000 * i := by rw [HSM.out]; exact HB.out i hle
      rw [← HSM.out]
      go_wp2_with fail
      go_loopg [5, 7] i (fun g s5 s7 wi => ∃ j : Nat, j ≤ i ∧ g = i - j ∧ s7 = .int .i64 j ∧ s5 = .int .i64 ((sm + apI R H i j : Nat) : Int) ∧ Kept W1 wi)
      case atStart => exact ⟨0, Nat.zero_le _, rfl, rfl, rfl, hK2⟩
      case round =>
        clear hK2
        obtain ⟨j, hle2, rfl, rfl, rfl, hK4⟩ := hrel
        by_cases hlt2 : j < i
        · obtain ⟨c1', c2'⟩ := HC.out j (by omega)
          have h1 := hK4.cellSome c1'
          have h2 := hK4.cellSome c2'
          have h3 : wr.cell? ⟨hb, ho + i * 2, none⟩ = some (.int .i64 (p : Int)) := by rw [HP.out]; exact hK4.cellSome (HC.out i hlt).1
          have h4 : wr.cell? ⟨hb, ho + i * 2 + 1, none⟩ = some (.int .i64 (u : Int)) := by rw [HU.out]; exact hK4.cellSome (HC.out i hlt).2
          obtain ⟨x0, x1, _⟩ := keep2 q0 q1 hK4
          have n3 : (j : Int) < (i : Int) := by omega
          have n4 : (0 : Int) ≤ (j : Int) := by omega
          have n6 : (j : Int) < (k : Int) := by omega
          have HSJ := Lib.hid (HS.out j (by omega))
          obtain ⟨q, HQ⟩ : ∃ p : Nat, Hid (p = (H j).1) := ⟨_, rfl⟩
          obtain ⟨x, HX⟩ : ∃ u : Nat, Hid (u = (H j).2) := ⟨_, rfl⟩
          rw [← HQ.out] at h1
          rw [← HX.out] at h2
          have HQX : Hid (H j = (q, x)) := by show _ = _; rw [HQ.out, HX.out]
          rw [HQX.out] at HSJ
          obtain ⟨d, HD⟩ : ∃ d, Hid (d = R.dist (p, u) (q, x)) := ⟨_, rfl⟩
          obtain ⟨ai, HAI⟩ : ∃ ai, Hid (ai = apI R H i j) := ⟨_, rfl⟩
          have HNX : Hid (apI R H i (j + 1) = ai + d) := by show _ = _; rw [HAI.out, HD.out]; simp only [apI]; rw [HPU.out, HQX.out]
          have e1 : ai ≤ 360 * j := by rw [HAI.out]; exact HI.out i hlt j hle2
          have e2 : d ≤ 360 := by rw [HD.out]; exact Road.dist_le ok HSI.out HSJ.out
          have hTr := hT1.kept hK4
          have DI2 := Lib.hid (fun W (hW : RefAt W (.agg #[.slice (some ⟨b0, o0, none⟩) R.n c0, .slice (some ⟨b1, o1, none⟩) R.n c1]) R) => DI.out W p u q x hW HSI.out HSJ.out)
          rw [← HD.out] at DI2
          rw [← HAI.out]
          obtain ⟨tt, HTT⟩ : ∃ tt, Hid (tt = sm + ai) := ⟨_, rfl⟩
          have e3 : tt ≤ 36000 * i + 360 * j := by rw [HTT.out]; omega
          rw [← HTT.out]
          have s1 : IntKind.i64.wrap ((tt : Int) + (d : Int)) = (tt : Int) + (d : Int) := IntWalk.i64_in _ (by omega)
          have s2 : IntKind.i64.wrap ((j : Int) + 1) = (j : Int) + 1 := IntWalk.i64_in _ (by omega)
          obtain ⟨wr1, HW1⟩ : ∃ W, Hid (W = wr) := ⟨_, rfl⟩
          clear DI HC c1' c2' hT1 HB HI HS
          go_upto_region 8 with fail
          go_region_held3 (fun w' => w'.cell? ⟨n0, 0, none⟩ = some (.slice (some ⟨b0, o0, none⟩) R.n c0) ∧ w'.cell? ⟨n0, 1, none⟩ = some (.slice (some ⟨b1, o1, none⟩) R.n c1) ∧ w'.cell? ⟨hb, ho + i * 2, none⟩ = some (.int .i64 (p : Int)) ∧ w'.cell? ⟨hb, ho + i * 2 + 1, none⟩ = some (.int .i64 (u : Int)) ∧ w'.cell? ⟨hb, ho + j * 2, none⟩ = some (.int .i64 (q : Int)) ∧ w'.cell? ⟨hb, ho + j * 2 + 1, none⟩ = some (.int .i64 (x : Int)) ∧ Kept wr w')
            (exact keep6 x0 x1 h3 h4 h1 h2 (by repeat (first | assumption | exact Kept.refl _ | apply Kept.drew | apply Kept.drewN | apply Kept.alloc | refine Kept.trans ?_ (by assumption))))
            (first | (go_at_call 20; refine (DI2.out _ (hTr.kept (show Kept wr _ from (by repeat (first | assumption | exact Kept.refl _ | apply Kept.drew | apply Kept.drewN | apply Kept.alloc | refine Kept.trans ?_ (by assumption)))))).mono ?_; rintro e wd ⟨rfl, hkd⟩))
          all_goals
            go_wp2_with fail
            go_roundg (i - (j + 1))
            case measure => omega
            case rel => exact ⟨j + 1, by omega, rfl, by go_num, by rw [HNX.out]; first | rfl | (rw [HTT.out]; go_num) | (rw [HTT.out]; congr 1; omega), hK4.trans (show Kept wr _ from (by repeat (first | assumption | exact Kept.refl _ | apply Kept.drew | apply Kept.drewN | apply Kept.alloc | refine Kept.trans ?_ (by assumption))))⟩
        · obtain rfl : j = i := by omega
          have HNX : Hid (apN R H (j + 1) = sm + apI R H j j) := by show _ = _; simp only [apN]; rw [HSM.out]
          go_wp2_with fail
          go_roundg (k - (j + 1))
          case measure => omega
          case rel => exact ⟨j + 1, by omega, rfl, by go_num, by rw [HNX.out], hK4⟩
    · obtain rfl : i = k := by omega
      go_wp2_with fail
      go_ret
      exact ⟨rfl, hK.trans hK2⟩
end Go.Proofs.Ytlgpclnmonpkjaa
