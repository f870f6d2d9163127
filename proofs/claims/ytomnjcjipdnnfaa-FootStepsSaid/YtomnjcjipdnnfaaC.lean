/-
  Outlines: what is checked, and Hausdorff as the package exports it.
-/
import Derived.Test.YtomnjcjipdnnfaaB
namespace Go.Proofs.Ytomnjcjipdnnfaa
open Go.RowKit Go.Deep

/-- a slice of outlines -/
def OutsAt (w : World) (v : Value) (q : Nat) (len : Nat → Nat) (X Y : Nat → Nat → Int) : Prop := ∃ (va : Nat → Option Addr) (vc : Nat → Nat), CellsAt w v q (fun i => .slice (va i) (len i) (vc i)) ∧ ∀ i, i < q → PairsAt w (.slice (va i) (len i) (vc i)) (len i) (X i) (Y i)
theorem OutsAt.kept {w w' : World} {v : Value} {q : Nat} {len : Nat → Nat} {X Y : Nat → Nat → Int} (h : OutsAt w v q len X Y) (k : Kept w w') : OutsAt w' v q len X Y := by
  obtain ⟨va, vc, h1, h2⟩ := h
  exact ⟨va, vc, h1.kept k, fun i hi => (h2 i hi).kept k⟩
def checkC (limit : Int) (q : Nat) (len : Nat → Nat) (X Y : Nat → Nat → Int) : Int :=
  if allN (fun i => decide (len i ≤ 30)) q then (if allN (fun i => formB (len i) (X i) (Y i)) q then (if limit < 0 then 1 else 0) else 2) else 3
set_option maxRecDepth 100000 in
set_option maxHeartbeats 2000000 in
theorem check_any (w : World) (limit : Int) (ov : Value) (q : Nat) (len : Nat → Nat) (X Y : Nat → Nat → Int) (hO : OutsAt w ov q len X Y) (hq : q ≤ 1000) (hlen : ∀ i, i < q → len i ≤ 1000000) :
    Calls Try.prog 45 #[.int .i64 limit, ov] w fun e w' => e = .returned (.int .i64 (checkC limit q len X Y)) ∧ Kept w w' := by
  obtain ⟨va, vc, ⟨a, b, o, cap, rfl, ha, hc⟩, hP⟩ := hO
  obtain ⟨C, HCC⟩ : ∃ C, Hid (C = checkC limit q len X Y) := ⟨_, rfl⟩
  rw [← HCC.out]
  have HC := Lib.hid hc
  have HP := Lib.hid hP
  clear hc hP
  go_enter Try.func45, Try.ntmps45
  go_wp2_with fail
  go_loopg [6, 11] q (fun g s6 s11 wr => ∃ k : Nat, k ≤ q ∧ g = q - k ∧ s11 = .int .i64 k ∧ Hid (allN (fun i => decide (len i ≤ 30)) k = true) ∧ w = wr)
  case atStart => exact ⟨0, Nat.zero_le _, rfl, rfl, rfl, rfl⟩
  case round =>
    obtain ⟨k, hk, rfl, rfl, hH, rfl⟩ := hrel
    by_cases hlt : k < q
    · obtain rfl := ha (by omega)
      have t0 := HC.out k hlt
      have hl := hlen k hlt
      by_cases h30 : (30 : Int) < (len k : Int)
      · have hcode : Hid (C = 3) := by
          show _ = _
          rw [HCC.out]; unfold checkC
          rw [allN_false (p := fun i => decide (len i ≤ 30)) hlt (by simp; omega)]; rfl
        go_wp2_with fail
        go_ret
        exact ⟨by rw [hcode.out]; rfl, Kept.refl _⟩
      · have hS : Hid (allN (fun i => decide (len i ≤ 30)) (k + 1) = true) := allN_step hH.out (by simp; omega)
        go_wp2_with fail
        go_roundg (q - (k + 1))
        case measure => omega
        case rel => exact ⟨k + 1, by omega, rfl, by go_num, hS, rfl⟩
    · obtain rfl : k = q := by omega
      go_wp2_with fail
      go_loopg [8, 21] k (fun g s8 s21 wi => ∃ t : Nat, t ≤ k ∧ g = k - t ∧ s21 = .int .i64 t ∧ Hid (allN (fun i => formB (len i) (X i) (Y i)) t = true) ∧ Kept w wi)
      case atStart => exact ⟨0, Nat.zero_le _, rfl, rfl, rfl, Kept.refl _⟩
      case round =>
        obtain ⟨t, ht, rfl, rfl, hF, hK⟩ := hrel
        by_cases hlt2 : t < k
        · obtain rfl := ha (by omega)
          have t0 := hK.cellSome (HC.out t hlt2)
          have hl := hlen t hlt2
          have hPt := (HP.out t hlt2).kept hK
          cases e1 : formB (len t) (X t) (Y t)
          · have hcode : Hid (C = 2) := by
              show _ = _
              rw [HCC.out]; unfold checkC
              rw [hH.out, allN_false (p := fun i => formB (len i) (X i) (Y i)) hlt2 e1]; rfl
            go_wp2_with fail
            refine (formed_at _ (len t) _ (X t) (Y t) hPt hl false e1).mono ?_
            rintro e w3 ⟨rfl, hk3⟩
            go_wp2_with fail
            go_ret
            exact ⟨by rw [hcode.out]; rfl, hK.trans hk3⟩
          · have hS : Hid (allN (fun i => formB (len i) (X i) (Y i)) (t + 1) = true) := allN_step hF.out e1
            go_wp2_with fail
            refine (formed_at _ (len t) _ (X t) (Y t) hPt hl true e1).mono ?_
            rintro e w3 ⟨rfl, hk3⟩
            go_wp2_with fail
            go_roundg (k - (t + 1))
            case measure => omega
            case rel => exact ⟨t + 1, by omega, rfl, by go_num, hS, hK.trans hk3⟩
        · obtain rfl : t = k := by omega
          by_cases hl0 : limit < 0
          · have hcode : Hid (C = 1) := by
              show _ = _
              rw [HCC.out]; unfold checkC
              rw [hH.out, hF.out, if_pos rfl, if_pos rfl, if_pos hl0]
            go_wp2_with fail
            go_ret
            exact ⟨by rw [hcode.out]; rfl, hK⟩
          · have hcode : Hid (C = 0) := by
              show _ = _
              rw [HCC.out]; unfold checkC
              rw [hH.out, hF.out, if_pos rfl, if_pos rfl, if_neg hl0]
            go_wp2_with fail
            go_ret
            exact ⟨by rw [hcode.out]; rfl, hK⟩
theorem outs2 {w : World} {a a2 : Option Addr} {l cap l2 cap2 : Nat} {X Y X2 Y2 : Nat → Int} (h : PairsAt w (.slice a l cap) l X Y) (h2 : PairsAt w (.slice a2 l2 cap2) l2 X2 Y2) (t : TypeId) :
    OutsAt (w.alloc (.cells #[.slice a l cap, .slice a2 l2 cap2] t)) (.slice (some ⟨w.heap.size, 0, none⟩) 2 2) 2 (fun i => if i = 0 then l else l2) (fun i => if i = 0 then X else X2) (fun i => if i = 0 then Y else Y2) := by
  refine ⟨fun i => if i = 0 then a else a2, fun i => if i = 0 then cap else cap2, ⟨_, w.heap.size, 0, 2, rfl, fun _ => rfl, fun i hi => ?_⟩, fun i hi => ?_⟩
  · have : i = 0 ∨ i = 1 := by omega
    rcases this with rfl | rfl <;> (unfold World.cell?; dsimp only; rw [blk_alloc_new]; rfl)
  · have : i = 0 ∨ i = 1 := by omega
    rcases this with rfl | rfl
    · exact h.kept ((Kept.refl w).alloc _)
    · exact h2.kept ((Kept.refl w).alloc _)
/-- the code of two outlines and a limit -/
def code2 (limit : Int) (m : Nat) (X Y : Nat → Int) (n : Nat) (U V : Nat → Int) : Int :=
  if m ≤ 30 ∧ n ≤ 30 then (if formB m X Y = true ∧ formB n U V = true then (if limit < 0 then 1 else 0) else 2) else 3
theorem checkC2 {limit : Int} {m n : Nat} {X Y U V : Nat → Int} : checkC limit 2 (fun i => if i = 0 then m else n) (fun i => if i = 0 then X else U) (fun i => if i = 0 then Y else V) = code2 limit m X Y n U V := by
  unfold checkC code2
  simp only [allN, Bool.true_and, if_true, Nat.succ_ne_self, if_false, Bool.and_eq_true, decide_eq_true_eq]
theorem code2_ok {limit : Int} {m n : Nat} {X Y U V : Nat → Int} (h : code2 limit m X Y n U V = 0) : m ≤ 30 ∧ n ≤ 30 ∧ formB m X Y = true ∧ formB n U V = true ∧ 0 ≤ limit := by
  unfold code2 at h
  by_cases h1 : m ≤ 30 ∧ n ≤ 30
  · rw [if_pos h1] at h
    by_cases h2 : formB m X Y = true ∧ formB n U V = true
    · rw [if_pos h2] at h
      by_cases h3 : limit < 0
      · rw [if_pos h3] at h; omega
      · exact ⟨h1.1, h1.2, h2.1, h2.2, by omega⟩
    · rw [if_neg h2] at h; omega
  · rw [if_neg h1] at h; omega
theorem code2_zero {m n : Nat} {X Y U V : Nat → Int} (h1 : m ≤ 30) (h2 : n ≤ 30) (h3 : formB m X Y = true) (h4 : formB n U V = true) : code2 0 m X Y n U V = 0 := by
  unfold code2
  rw [if_pos ⟨h1, h2⟩, if_pos ⟨h3, h4⟩, if_neg (by omega)]
def HausFn (w : World) (m : Nat) (X Y : Nat → Int) (n : Nat) (U V : Nat → Int) (e : Ending) (w' : World) : Prop :=
  Kept w w' ∧ (code2 0 m X Y n U V = 0 → e = .returned (.tuple #[.int .i64 (haus m X Y n U V), .int .i64 0])) ∧ (code2 0 m X Y n U V ≠ 0 → e = .returned (.tuple #[.int .i64 0, .int .i64 (code2 0 m X Y n U V)]))
set_option maxRecDepth 100000 in
set_option maxHeartbeats 2000000 in
theorem Hausdorff_any (w : World) (m n : Nat) (av bv : Value) (X Y U V : Nat → Int) (hA : PairsAt w av m X Y) (hB : PairsAt w bv n U V) (hm2 : m ≤ 1000000) (hn2 : n ≤ 1000000) :
    Calls Try.prog 16 #[av, bv] w (HausFn w m X Y n U V) := by
  have hA' := hA
  have hB' := hB
  obtain ⟨a1, b1, o1, cap1, rfl, ha1, hc1⟩ := hA
  obtain ⟨a2, b2, o2, cap2, rfl, ha2, hc2⟩ := hB
  have hO := outs2 hA' hB' 22
  have hk0 : Kept w (w.alloc (.cells #[.slice a1 m cap1, .slice a2 n cap2] 22)) := (Kept.refl w).alloc _
  clear hc1 hc2 ha1 ha2
  go_enter Try.func16, Try.ntmps16
  go_wp2_with fail
  refine (check_any _ 0 _ 2 _ _ _ hO (by omega) (fun i _ => by show (if i = 0 then m else n) ≤ 1000000; split <;> omega)).mono ?_
  rw [checkC2]
  rintro e w1 ⟨rfl, hk1⟩
  have hK1 := hk0.trans hk1
  by_cases hc0 : code2 0 m X Y n U V = 0
  · obtain ⟨h1, h2, h3, h4, _⟩ := code2_ok hc0
    obtain ⟨r1, p1⟩ := formB_in h3
    obtain ⟨r2, p2⟩ := formB_in h4
    have HC0 := Lib.hid hc0
    rw [HC0.out]
    have hA1 := hA'.kept hK1
    have hB1 := hB'.kept hK1
    have HR1 := Lib.hid r1
    have HR2 := Lib.hid r2
    clear hc0 h3 h4 r1 r2
    go_wp2_with fail
    refine (hausdorff_any _ m n _ _ X Y U V hA1 hB1 HR1.out HR2.out p1 p2 hm2 hn2).mono ?_
    rintro e w2 ⟨rfl, hk2⟩
    go_wp2_with fail
    go_ret2
    exact ⟨hK1.trans hk2, (fun _ => rfl), (fun h => absurd HC0.out h)⟩
  · have HC0 := Lib.hid hc0
    obtain ⟨cc, HCC⟩ : ∃ cc, Hid (cc = code2 0 m X Y n U V) := ⟨_, rfl⟩
    rw [← HCC.out] at hc0 ⊢
    have c2 : (cc != 0) = true := by simpa using hc0
    clear hc0
    go_wp2_with fail
    go_ret2
    exact ⟨hK1, (fun h => absurd h HC0.out), (fun _ => by rw [← HCC.out]; rfl)⟩
end Go.Proofs.Ytomnjcjipdnnfaa
