/-
  The program's matrices, more: pivot, eliminate.
-/
import Derived.Test.YtlnpipkhofhlnaaL
import Derived.StillTailTactics
namespace Go.Proofs.Ytlnpipkhofhlnaa
open Go.RowKit Go.Deep

/-- the first row from k on with a number other than 0 in column k, or -1 -/
def pivI (n : Nat) (M : Nat → Nat → Int) (k : Nat) : Int := if least (fun d => M (k + d) k != 0) (n - k) < n - k then ((k + least (fun d => M (k + d) k != 0) (n - k) : Nat) : Int) else -1

set_option maxHeartbeats 1000000 in
theorem pivot_any (w : World) (n b : Nat) (br : Nat → Nat) (M : Nat → Nat → Int) (k : Nat) (base : Nat) (hM : MatOwn base w n b br M) (hk : k ≤ n) (hn : n ≤ 1000) :
    Calls Try.prog 70 #[.slice (some ⟨b, 0, none⟩) n n, .int .i64 k] w fun e w' => e = .returned (.int .i64 (pivI n M k)) ∧ w = w' := by
  go_enter Try.func70, Try.ntmps70
  go_wp2_with fail
  go_loopg [5] (n - k) (fun g i wr => ∃ d : Nat, d ≤ n - k ∧ g = n - k - d ∧ i = .int .i64 ((k + d : Nat) : Int) ∧ Hid (least (fun d => M (k + d) k != 0) d = d) ∧ w = wr)
  case atStart => exact ⟨0, Nat.zero_le _, rfl, rfl, rfl, rfl⟩
  case round =>
    obtain ⟨d, hd, rfl, rfl, hH, rfl⟩ := hrel
    by_cases hlt : d < n - k
    · have t1 := hM.top.cell (i := k + d) (by omega)
      have t2 := (hM.row (k + d) (by omega)).cell (i := k) (by omega)
      have s1 : ((k + d : Nat) : Int) < (n : Int) := by omega
      have s2 : (k : Int) < (n : Int) := by omega
      obtain ⟨q, HQ⟩ : ∃ q, Hid (q = k + d) := ⟨_, rfl⟩
      rw [← HQ.out] at t1 t2 s1 ⊢
      cases e1 : (M q k != 0)
      · go_wp2_with fail
        go_roundg (n - k - (d + 1))
        case measure => omega
        case rel => exact ⟨d + 1, by omega, rfl, by rw [HQ.out]; go_num, least_step hH.out (by rw [← HQ.out]; exact e1), rfl⟩
      · have hfin : pivI n M k = (q : Int) := by
          have := least_hit (p := fun d => M (k + d) k != 0) hH.out (by rw [← HQ.out]; exact e1) hlt
          unfold pivI; rw [this, if_pos hlt, HQ.out]
        have HF := Lib.hid hfin
        clear hfin
        go_wp2_with fail
        go_ret
        exact ⟨ret_int HF.out.symm, rfl⟩
    · have hfin : pivI n M k = -1 := by
        unfold pivI
        have e : n - k = d := by omega
        rw [e, hH.out, if_neg (by omega)]
      have HF := Lib.hid hfin
      have s1 : ¬ ((k + d : Nat) : Int) < (n : Int) := by omega
      clear hfin
      go_wp2_with fail
      go_ret
      exact ⟨ret_int HF.out.symm, rfl⟩

/-- one entry of an elimination, as the program computes it -/
def elimV (x a b c last : Int) : Int := wrap64 ((wrap64 (wrap64 (x * a) - wrap64 (b * c))).tdiv last)
/-- the elimination, when it has come to row I and column J -/
def elimP (M : Nat → Nat → Int) (k : Nat) (last : Int) (I J : Nat) (i j : Nat) : Int := if k < i ∧ k < j ∧ (i < I ∨ (i = I ∧ j < J)) then elimV (M i j) (M k k) (M i k) (M k j) last else M i j
def elimM (M : Nat → Nat → Int) (k : Nat) (last : Int) (i j : Nat) : Int := if k < i ∧ k < j then elimV (M i j) (M k k) (M i k) (M k j) last else M i j
theorem elimP_same {M : Nat → Nat → Int} {k I J I' J' i j : Nat} {last : Int} (h : (k < i ∧ k < j ∧ (i < I ∨ (i = I ∧ j < J))) ↔ (k < i ∧ k < j ∧ (i < I' ∨ (i = I' ∧ j < J')))) : elimP M k last I J i j = elimP M k last I' J' i j := by
  unfold elimP
  by_cases e : k < i ∧ k < j ∧ (i < I ∨ (i = I ∧ j < J))
  · rw [if_pos e, if_pos (h.1 e)]
  · rw [if_neg e, if_neg (fun e2 => e (h.2 e2))]
theorem elimP_all {M : Nat → Nat → Int} {k I i j : Nat} {last : Int} (h : i < I) : elimP M k last I 0 i j = elimM M k last i j := by
  unfold elimP elimM
  by_cases e : k < i ∧ k < j
  · rw [if_pos e, if_pos ⟨e.1, e.2, Or.inl h⟩]
  · rw [if_neg e, if_neg (fun e2 => e ⟨e2.1, e2.2.1⟩)]
theorem MatOwn.put {base : Nat} {w : World} {n b : Nat} {br : Nat → Nat} {M : Nat → Nat → Int} (h : MatOwn base w n b br M) {i j : Nat} (hi : i < n) (x : Int) : MatOwn base (w.setCell ⟨br i, j, none⟩ (.int .i64 x)) n b br (fun i' j' => if i' = i ∧ j' = j then x else M i' j') := by
  refine ⟨h.top.setOther (Ne.symm (h.ne i hi)) _, fun i' hi' => ?_, h.b0, h.br0, h.ne, h.rr⟩
  by_cases e : i' = i
  · subst e
    refine ((h.row i' hi').set j _).congr (fun j' _ => ?_)
    by_cases e2 : j' = j
    · simp [e2]
    · simp [e2]
  · refine ((h.row i' hi').setOther (a := ⟨br i, j, none⟩) (h.rr i' i hi' hi e) _).congr (fun j' _ => ?_)
    simp [e]

set_option maxRecDepth 100000 in
set_option maxHeartbeats 2000000 in
theorem eliminate_any (w : World) (n b : Nat) (br : Nat → Nat) (M : Nat → Nat → Int) (k : Nat) (last : Int) (base : Nat) (hM : MatOwn base w n b br M) (hk : k < n) (hn : n ≤ 1000) (hl : last ≠ 0) :
    Calls Try.prog 71 #[.slice (some ⟨b, 0, none⟩) n n, .int .i64 k, .int .i64 last] w fun e w' => e = .returned (.tuple #[]) ∧ KeptX (fun x => base ≤ x) w w' ∧ MatOwn base w' n b br (elimM M k last) := by
  have hl0 : (last == 0) = false := by simpa using hl
  go_enter Try.func71, Try.ntmps71
  go_wp2_with fail
  go_loopg [6, 7] (n - (k + 1)) (fun g s6 s7 wr => ∃ i : Nat, k < i ∧ i ≤ n ∧ g = n - i ∧ s6 = .int .i64 i ∧ KeptX (fun x => base ≤ x) w wr ∧ MatOwn base wr n b br (elimP M k last i 0))
  case atStart => exact ⟨k + 1, by omega, by omega, by omega, by go_num, KeptX.refl _ _, hM.congr (fun i j _ _ => by unfold elimP; rw [if_neg (by omega)])⟩
  case round =>
    obtain ⟨i, hki, hin, rfl, rfl, hK, hO⟩ := hrel
    by_cases hlt : i < n
    · have s1 : (i : Int) < (n : Int) := by omega
      go_wp2_with fail
      go_loopg [7] (n - (k + 1)) (fun g jj wi => ∃ j : Nat, k < j ∧ j ≤ n ∧ g = n - j ∧ jj = .int .i64 j ∧ KeptX (fun x => base ≤ x) w wi ∧ MatOwn base wi n b br (elimP M k last i j))
      case atStart => exact ⟨k + 1, by omega, by omega, by omega, by go_num, hK, hO.congr (fun i' j' _ _ => elimP_same (by omega))⟩
      case round =>
        clear hK hO
        obtain ⟨j, hkj, hjn, rfl, rfl, hK, hO⟩ := hrel
        by_cases hlt2 : j < n
        · have s2 : (j : Int) < (n : Int) := by omega
          have t1 := hO.top.cell hlt
          have t2 := hO.top.cell hk
          have r1 := (hO.row i hlt).cell hlt2
          have r2 := (hO.row i hlt).cell hk
          have r3 := (hO.row k hk).cell hk
          have r4 := (hO.row k hk).cell hlt2
          have f1 := (hO.row i hlt).frozen j
          rw [show elimP M k last i j i j = M i j by unfold elimP; rw [if_neg (by omega)]] at r1
          rw [show elimP M k last i j i k = M i k by unfold elimP; rw [if_neg (by omega)]] at r2
          rw [show elimP M k last i j k k = M k k by unfold elimP; rw [if_neg (by omega)]] at r3
          rw [show elimP M k last i j k j = M k j by unfold elimP; rw [if_neg (by omega)]] at r4
          have sk : (k : Int) < (n : Int) := by omega
          go_wp2_with fail
          refine wp_region_still_tail 39 (by kernel_rfl) (by kernel_rfl) ?_
          change wpStill _ _ (World.drew _) (fun a' => wpList _ _ _ _ a' (World.drew _)) _ _
          simp only [List.take_succ_cons, List.take_zero, List.drop_succ_cons, List.drop_zero]
          repeat still_step
          refine wpStill_nil ?_
          have q1 : wr.drew.cell? ⟨br i, j, none⟩ = some (.int .i64 (M i j)) := r1
          have q2 : wr.drew.frozen? ⟨br i, j, none⟩ = false := f1
          have hK2 : KeptX (fun x => base ≤ x) w (wr.drew.setCell ⟨br i, j, none⟩ (.int .i64 (elimV (M i j) (M k k) (M i k) (M k j) last))) := hK.drew.setCell (p := ⟨br i, j, none⟩) (Or.inl (hO.br0 i hlt)) _
          have hO2 : MatOwn base (wr.drew.setCell ⟨br i, j, none⟩ (.int .i64 (elimV (M i j) (M k k) (M i k) (M k j) last))) n b br (elimP M k last i (j + 1)) := (MatOwn.put (hO.kept (Kept.refl _).drew) hlt _).congr (fun i' j' _ _ => by
            by_cases e : i' = i ∧ j' = j
            · rw [if_pos e]; unfold elimP; rw [if_pos (by omega), e.1, e.2]
            · rw [if_neg e]; unfold elimP
              by_cases e2 : k < i' ∧ k < j' ∧ (i' < i ∨ (i' = i ∧ j' < j))
              · rw [if_pos e2, if_pos (by omega)]
              · rw [if_neg e2, if_neg (by omega)])
          have HK2 := Lib.hid hK2
          clear hK hO t1 t2 r1 r2 r3 r4 f1 hK2
          generalize wr.drew = w2 at *
          go_wp2_with fail
          go_roundg (n - (j + 1))
          case measure => omega
          case rel => exact ⟨j + 1, by omega, by omega, rfl, by go_num, HK2.out, hO2⟩
        · have s2 : ¬ (j : Int) < (n : Int) := by omega
          go_wp2_with fail
          go_roundg (n - (i + 1))
          case measure => omega
          case rel => exact ⟨i + 1, by omega, by omega, rfl, by go_num, hK, hO.congr (fun i' j' _ hj' => elimP_same (by omega))⟩
    · have s1 : ¬ (i : Int) < (n : Int) := by omega
      go_wp2_with fail
      go_end0
      exact ⟨rfl, hK, hO.congr (fun i' j' hi' hj' => elimP_all (by omega))⟩
end Go.Proofs.Ytlnpipkhofhlnaa
