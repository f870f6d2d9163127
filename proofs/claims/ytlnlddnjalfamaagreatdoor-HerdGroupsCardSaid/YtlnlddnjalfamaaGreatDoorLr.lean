/-
  The reference's Triples.
-/
import Derived.Test.YtlnlddnjalfamaaGreatDoorJj
namespace Go.Proofs.YtlnlddnjalfamaaGreatDoor
open Go.RowKit Go.Deep

/-- do three horses all get along? -/
def t3 (F : Nat → Nat → Bool) (i j k : Nat) : Bool := F i j && F i k && F j k
/-- triples i > j > k with this, i < n -/
def T3 (F : Nat → Nat → Bool) (n : Nat) : Nat := sumN (fun i => sumN (fun j => sumN (fun k => one (t3 F i j k)) j) i) n
theorem sumN_restrict (f : Nat → Nat) (j : Nat) : ∀ n, j ≤ n → sumN f j = sumN (fun k => one (decide (k < j)) * f k) n := by
  intro n hn
  obtain ⟨d, rfl⟩ : ∃ d, n = j + d := ⟨n - j, by omega⟩
  clear hn
  induction d with
  | zero => exact sumN_congr fun k hk => by simp [one, show k < j from hk]
  | succ d ih =>
    rw [ih, ← Nat.add_assoc]
    simp only [sumN]
    simp [one, show ¬ j + d < j by omega]
theorem T3_sum {F : Nat → Nat → Bool} {n : Nat} (hs : ∀ i j, i < n → j < n → i ≠ j → F i j = F j i) : T3 F n = S3 (fun i j k => one (risB i j k && (F i j && F i k && F j k))) n := by
  have e1 : T3 F n = S3 (fun i j k => one (risB k j i && t3 F i j k)) n := by
    unfold T3 S3
    refine sumN_congr fun i hi => ?_
    rw [sumN_restrict _ i n (by omega)]
    refine sumN_congr fun j hj => ?_
    rw [sumN_restrict _ j n (by omega), ← sumN_mul]
    refine sumN_congr fun k hk => ?_
    unfold risB
    by_cases h1 : j < i <;> by_cases h2 : k < j <;> simp [one, h1, h2]
  have e2 : S3 (fun i j k => one (risB k j i && t3 F i j k)) n = S3 (fun i j k => one (risB i j k && t3 F k j i)) n := by
    have a1 := S3_12 (fun i j k => one (risB k i j && t3 F j i k)) n
    have a2 := S3_23 (fun i j k => one (risB j i k && t3 F k i j)) n
    have a3 := S3_12 (fun i j k => one (risB i j k && t3 F k j i)) n
    exact a1.trans (a2.trans a3)
  rw [e1, e2]
  refine S3_congr fun i j k hi hj hk => ?_
  unfold t3
  cases e : risB i j k with
  | false => rfl
  | true =>
    unfold risB at e
    simp only [Bool.and_eq_true, decide_eq_true_eq] at e
    rw [hs k j hk hj (by omega), hs k i hk hi (by omega), hs j i hj hi (by omega)]
    cases F i j <;> cases F i k <;> cases F j k <;> rfl
theorem sumN_bd (f : Nat → Nat) (n B : Nat) (h : ∀ i, i < n → f i ≤ B) : sumN f n ≤ B * n := sumN_le f B n h
set_option maxRecDepth 100000 in
set_option maxHeartbeats 8000000 in
theorem refTriples_any (w : World) (v : Value) (n : Nat) (F : Nat → Nat → Bool) (hG : GridAt w v n F) (hn : n ≤ 9) :
    Calls Tryz.prog 16 #[v] w fun e w' => e = .returned (.tuple #[.int .i64 ((T3 F n : Nat) : Int), .int .i64 ((T3 (fun i j => !F i j) n : Nat) : Int)]) ∧ w = w' := by
  obtain ⟨g, gcap, R, rfl, hG⟩ := hG
  have hone : ∀ b, one b ≤ 1 := fun b => by cases b <;> decide
  have hk9 : ∀ (K : Nat → Nat → Bool) (i j k : Nat), k ≤ 9 → sumN (fun k => one (t3 K i j k)) k ≤ 9 := fun K i j k hk => Nat.le_trans (sumN_le _ 1 k fun _ _ => hone _) (by omega)
  have hj9 : ∀ (K : Nat → Nat → Bool) (i j : Nat), j ≤ 9 → sumN (fun j => sumN (fun k => one (t3 K i j k)) j) j ≤ 81 := fun K i j hj => Nat.le_trans (sumN_le _ 9 j fun t ht => hk9 K i t t (by omega)) (by omega)
  have hi9 : ∀ (K : Nat → Nat → Bool) (i : Nat), i ≤ 9 → T3 K i ≤ 729 := fun K i hi => Nat.le_trans (sumN_le _ 81 i fun t ht => hj9 K t t (by omega)) (by omega)
  have HK9 := Lib.hid hk9
  have HJ9 := Lib.hid hj9
  have HI9 := Lib.hid hi9
  obtain ⟨G, HGN⟩ : ∃ G : Nat → Nat → Bool, Hid (G = fun i j => !F i j) := ⟨_, rfl⟩
  have hGF : Hid (∀ i j, G i j = !F i j) := fun i j => by rw [HGN.out]
  rw [← HGN.out]
  clear hone hk9 hj9 hi9 HGN
  go_enter Tryz.func16, Tryz.ntmps16
  go_wp2_with fail
  go_loopg [4, 5, 6] n (fun q s4 s5 s6 wr => ∃ i : Nat, i ≤ n ∧ q = n - i ∧ s6 = .int .i64 i ∧ s4 = .int .i64 ((T3 F i : Nat) : Int) ∧ s5 = .int .i64 ((T3 G i : Nat) : Int) ∧ w = wr)
  case atStart => exact ⟨0, Nat.zero_le _, rfl, by first | rfl | go_num, by first | rfl | go_num, by first | rfl | go_num, rfl⟩
  case round =>
    obtain ⟨i, hi, rfl, rfl, rfl, rfl, rfl⟩ := hrel
    by_cases hlt : i < n
    · have s1 : (i : Int) < (n : Int) := by omega
      have bF := HI9.out F i (by omega)
      have bG := HI9.out G i (by omega)
      have nF : Hid (T3 F (i + 1) = T3 F i + sumN (fun j => sumN (fun k => one (t3 F i j k)) j) i) := rfl
      have nG : Hid (T3 G (i + 1) = T3 G i + sumN (fun j => sumN (fun k => one (t3 G i j k)) j) i) := rfl
      obtain ⟨a, HA⟩ : ∃ x, Hid (x = T3 F i) := ⟨_, rfl⟩
      obtain ⟨b, HB⟩ : ∃ x, Hid (x = T3 G i) := ⟨_, rfl⟩
      rw [← HA.out] at bF nF ⊢
      rw [← HB.out] at bG nG ⊢
      clear HA HB
      go_wp2_with fail
      go_loopg [4, 5, 7] i (fun q s4 s5 s7 wr => ∃ j : Nat, j ≤ i ∧ q = i - j ∧ s7 = .int .i64 j ∧ s4 = .int .i64 ((a + sumN (fun j => sumN (fun k => one (t3 F i j k)) j) j : Nat) : Int) ∧ s5 = .int .i64 ((b + sumN (fun j => sumN (fun k => one (t3 G i j k)) j) j : Nat) : Int) ∧ w = wr)
      case atStart => exact ⟨0, Nat.zero_le _, rfl, by first | rfl | go_num, by first | rfl | go_num, by first | rfl | go_num, rfl⟩
      case round =>
        obtain ⟨j, hj, rfl, rfl, rfl, rfl, rfl⟩ := hrel
        by_cases hlt2 : j < i
        · have s2 : (j : Int) < (i : Int) := by omega
          have cF := HJ9.out F i j (by omega)
          have cG := HJ9.out G i j (by omega)
          have mF : Hid (sumN (fun j => sumN (fun k => one (t3 F i j k)) j) (j + 1) = sumN (fun j => sumN (fun k => one (t3 F i j k)) j) j + sumN (fun k => one (t3 F i j k)) j) := rfl
          have mG : Hid (sumN (fun j => sumN (fun k => one (t3 G i j k)) j) (j + 1) = sumN (fun j => sumN (fun k => one (t3 G i j k)) j) j + sumN (fun k => one (t3 G i j k)) j) := rfl
          obtain ⟨c, HC⟩ : ∃ x, Hid (x = a + sumN (fun j => sumN (fun k => one (t3 F i j k)) j) j) := ⟨_, rfl⟩
          obtain ⟨d, HD⟩ : ∃ x, Hid (x = b + sumN (fun j => sumN (fun k => one (t3 G i j k)) j) j) := ⟨_, rfl⟩
          have bc : c ≤ 810 := by rw [HC.out]; omega
          have bd : d ≤ 810 := by rw [HD.out]; omega
          have uF : Hid (a + sumN (fun j => sumN (fun k => one (t3 F i j k)) j) (j + 1) = c + sumN (fun k => one (t3 F i j k)) j) := by
            show _ = _
            rw [mF.out, HC.out, Nat.add_assoc]
          have uG : Hid (b + sumN (fun j => sumN (fun k => one (t3 G i j k)) j) (j + 1) = d + sumN (fun k => one (t3 G i j k)) j) := by
            show _ = _
            rw [mG.out, HD.out, Nat.add_assoc]
          rw [← HC.out, ← HD.out]
          have v0 := hG.sl i hlt
          have v1 := hG.sl j (by omega)
          have y0 := (hG.rw i hlt).cell (i := j) (by omega)
          have a0 : (0 : Int) ≤ (i : Int) := by omega
          have a1 : (0 : Int) ≤ (j : Int) := by omega
          have s3 : (j : Int) < (n : Int) := by omega
          obtain ⟨b1, HB1⟩ : ∃ x, Hid (x = F i j) := ⟨_, rfl⟩
          rw [← HB1.out] at y0
          simp only [slV] at v0 v1
          clear cF cG mF mG HC HD
          go_wp2_with fail
          go_loopg [4, 5, 8] j (fun q s4 s5 s8 wr => ∃ k : Nat, k ≤ j ∧ q = j - k ∧ s8 = .int .i64 k ∧ s4 = .int .i64 ((c + sumN (fun k => one (t3 F i j k)) k : Nat) : Int) ∧ s5 = .int .i64 ((d + sumN (fun k => one (t3 G i j k)) k : Nat) : Int) ∧ w = wr)
          case atStart => exact ⟨0, Nat.zero_le _, rfl, by first | rfl | go_num, by first | rfl | go_num, by first | rfl | go_num, rfl⟩
          case round =>
            obtain ⟨k, hk, rfl, rfl, rfl, rfl, rfl⟩ := hrel
            by_cases hlt3 : k < j
            · have s4 : (k : Int) < (j : Int) := by omega
              have s5 : (k : Int) < (n : Int) := by omega
              have a2 : (0 : Int) ≤ (k : Int) := by omega
              have dF := HK9.out F i j k (by omega)
              have dG := HK9.out G i j k (by omega)
              have y1 := (hG.rw i hlt).cell (i := k) (by omega)
              have y2 := (hG.rw j (by omega)).cell (i := k) (by omega)
              have oF : Hid (sumN (fun k => one (t3 F i j k)) (k + 1) = sumN (fun k => one (t3 F i j k)) k + one (t3 F i j k)) := rfl
              have oG : Hid (sumN (fun k => one (t3 G i j k)) (k + 1) = sumN (fun k => one (t3 G i j k)) k + one (t3 G i j k)) := rfl
              have tF : Hid (t3 F i j k = (F i j && F i k && F j k)) := rfl
              have tG : Hid (t3 G i j k = (!F i j && !F i k && !F j k)) := by
                show (G i j && G i k && G j k) = _
                rw [hGF.out, hGF.out, hGF.out]
              rw [← HB1.out] at tF tG
              obtain ⟨b2, HB2⟩ : ∃ x, Hid (x = F i k) := ⟨_, rfl⟩
              obtain ⟨b3, HB3⟩ : ∃ x, Hid (x = F j k) := ⟨_, rfl⟩
              rw [← HB2.out] at y1 tF tG
              rw [← HB3.out] at y2 tF tG
              obtain ⟨e, HE⟩ : ∃ x, Hid (x = c + sumN (fun k => one (t3 F i j k)) k) := ⟨_, rfl⟩
              obtain ⟨f, HF⟩ : ∃ x, Hid (x = d + sumN (fun k => one (t3 G i j k)) k) := ⟨_, rfl⟩
              have be : e ≤ 900 := by rw [HE.out]; omega
              have bf : f ≤ 900 := by rw [HF.out]; omega
              have pF : Hid (c + sumN (fun k => one (t3 F i j k)) (k + 1) = e + one (t3 F i j k)) := by show _ = _; rw [oF.out, HE.out, Nat.add_assoc]
              have pG : Hid (d + sumN (fun k => one (t3 G i j k)) (k + 1) = f + one (t3 G i j k)) := by show _ = _; rw [oG.out, HF.out, Nat.add_assoc]
              rw [tF.out] at pF
              rw [tG.out] at pG
              rw [← HE.out, ← HF.out]
              generalize R i = ri at *
              generalize R j = rj at *
              clear oF oG tF tG HB2 HB3 HE HF dF dG uF uG
              cases b1 <;> cases b2 <;> cases b3 <;>
                (go_wp2_with fail
                 go_roundg (j - (k + 1))
                 case measure => omega
                 case rel => exact ⟨k + 1, by omega, rfl, by first | rfl | go_num, by rw [pF.out]; first | rfl | go_num, by rw [pG.out]; first | rfl | go_num, rfl⟩)
            · obtain rfl : k = j := by omega
              rw [← uF.out, ← uG.out]
              go_wp2_with fail
              go_roundg (i - (k + 1))
              case measure => omega
              case rel => exact ⟨k + 1, by omega, rfl, by first | rfl | go_num, rfl, rfl, rfl⟩
        · obtain rfl : j = i := by omega
          rw [← nF.out, ← nG.out]
          go_wp2_with fail
          go_roundg (n - (j + 1))
          case measure => omega
          case rel => exact ⟨j + 1, by omega, rfl, by first | rfl | go_num, rfl, rfl, rfl⟩
    · obtain rfl : i = n := by omega
      go_wp2_with fail
      go_ret2
      exact ⟨rfl, rfl⟩
end Go.Proofs.YtlnlddnjalfamaaGreatDoor
