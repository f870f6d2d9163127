/-
  The program's yards, more: the matrix of a yard, count.
-/
import Derived.Test.YtlnpipkhofhlnaaN
namespace Go.Proofs.Ytlnpipkhofhlnaa
open Go.RowKit Go.Deep

def lapM (D : Nat → Nat) (J : Nat → Nat → Nat) (i j : Nat) : Int := if i = j then (D (i + 1) : Int) else -(J (i + 1) (j + 1) : Int)

set_option maxRecDepth 100000 in
set_option maxHeartbeats 4000000 in
theorem laplacian_any (w : World) (n m bd bj : Nat) (br D : Nat → Nat) (J : Nat → Nat → Nat) (hY : YardAt w n bd bj br D J) (hn : n ≤ 8) (hn1 : 1 ≤ n) (hJ : ∀ i j, i < n → j < n → J i j ≤ 40) :
    Calls Try.prog 43 #[YardV n m bd bj] w (ClonePost w (n - 1) (lapM D J)) := by
  obtain ⟨k, rfl⟩ : ∃ k, n = k + 1 := ⟨n - 1, by omega⟩
  simp only [Nat.add_sub_cancel]
  have hmk := fun W => mkMat (k : Int) k rfl (by omega) W
  have hmr := fun W => mkRow64 (k : Int) k rfl (by omega) W
  have hbx := YBox.new w (k + 1) m bd bj 78
  have hkB : Kept w (w.alloc (.cells #[.int .i64 (k + 1 : Nat), .int .i64 m, .slice (some ⟨bd, 0, none⟩) (k + 1) (k + 1), .slice (some ⟨bj, 0, none⟩) (k + 1) (k + 1)] 78)) := (Kept.refl w).alloc _
  unfold YardV
  go_enter Try.func43, Try.ntmps43
  go_wp2_with fail
  have hsz : (w.alloc (.cells #[.int .i64 (k + 1 : Nat), .int .i64 m, .slice (some ⟨bd, 0, none⟩) (k + 1) (k + 1), .slice (some ⟨bj, 0, none⟩) (k + 1) (k + 1)] 78)).heap.size = w.heap.size + 1 := nblk_alloc _ _
  have ht0 := World.rowIs_made (w.alloc (.cells #[.int .i64 (k + 1 : Nat), .int .i64 m, .slice (some ⟨bd, 0, none⟩) (k + 1) (k + 1), .slice (some ⟨bj, 0, none⟩) (k + 1) (k + 1)] 78)) (.slice none 0 0) k 97
  rw [hsz] at ht0
  have hk0 := hkB.alloc (.cells (madeCells #[.slice none 0 0] k) 97)
  have hB0 := hbx.kept ((Kept.refl _).alloc (.cells (madeCells #[.slice none 0 0] k) 97))
  clear hbx hkB hsz
  go_loopg [12] k (fun g i wr => ∃ (t : Nat) (rb : Nat → Nat), t ≤ k ∧ g = k - t ∧ i = .int .i64 t ∧ Kept w wr ∧ YBox wr w.heap.size (k + 1) m bd bj ∧ wr.rowIs (w.heap.size + 1) 97 k (fun i => if i < t then .slice (some ⟨rb i, 0, none⟩) k k else .slice none 0 0) ∧
    (∀ i, i < t → wr.rowIs (rb i) 2 k (fun j => .int .i64 (lapM D J i j))) ∧ (∀ i, i < t → w.heap.size + 1 < rb i) ∧ (∀ i j, i < t → j < t → i ≠ j → rb i ≠ rb j))
  case atStart => exact ⟨0, fun _ => 0, Nat.zero_le _, rfl, rfl, hk0, hB0, ht0.congr (fun i _ => by simp), fun i hi => absurd hi (by omega), fun i hi => absurd hi (by omega), fun i j hi => absurd hi (by omega)⟩
  case round =>
    obtain ⟨t, rb, htk, rfl, rfl, hK, hBx, hT, hR, hB, hrr⟩ := hrel
    clear hk0 ht0 hB0 hmk
    by_cases hlt : t < k
    · obtain ⟨c0, c1, c2, c3⟩ := hBx
      have hT1 := hT.cell hlt
      rw [if_neg (by omega)] at hT1
      have t1a : ∀ o, (wr.alloc o).cell? ⟨w.heap.size + 1, t, none⟩ = some (.slice none 0 0) := fun o => ((Kept.refl wr).alloc o).cellSome hT1
      have t2a : ∀ o, (wr.alloc o).frozen? ⟨w.heap.size + 1, t, none⟩ = false := fun o => (hT.alloc o).frozen t
      have ht0 : (0 : Int) ≤ (t : Int) := by omega
      have ht1 : (t : Int) < (k : Int) := by omega
      go_upto_region 6 with fail
      have hwr : w.heap.size + 1 < wr.heap.size := hT.lt
      have hnew := (World.rowIs_made wr (.int .i64 0) k 2).setOther (a := ⟨w.heap.size + 1, t, none⟩) (show wr.heap.size ≠ w.heap.size + 1 by omega) (.slice (some ⟨wr.heap.size, 0, none⟩) k k)
      have hT1 := ((hT.alloc (.cells (madeCells #[.int .i64 0] k) 2)).set t (.slice (some ⟨wr.heap.size, 0, none⟩) k k)).congr (g := fun i => if i < t + 1 then .slice (some ⟨(if i = t then wr.heap.size else rb i), 0, none⟩) k k else .slice none 0 0) (fun i _ => by
        by_cases e : i = t
        · subst e; simp
        · simp only [if_neg e]
          by_cases h : i < t
          · rw [if_pos h, if_pos (by omega)]
          · rw [if_neg h, if_neg (by omega)])
      have hR1 : ∀ i, i < t → ((wr.alloc (.cells (madeCells #[.int .i64 0] k) 2)).setCell ⟨w.heap.size + 1, t, none⟩ (.slice (some ⟨wr.heap.size, 0, none⟩) k k)).rowIs (rb i) 2 k (fun j => .int .i64 (lapM D J i j)) := fun i hi => ((hR i hi).alloc _).setOther (show rb i ≠ w.heap.size + 1 by have := hB i hi; omega) _
      have hK1 : Kept w ((wr.alloc (.cells (madeCells #[.int .i64 0] k) 2)).setCell ⟨w.heap.size + 1, t, none⟩ (.slice (some ⟨wr.heap.size, 0, none⟩) k k)) := (hK.alloc _).setCell (by show w.heap.size ≤ w.heap.size + 1; omega) _
      have hBx1 : YBox ((wr.alloc (.cells (madeCells #[.int .i64 0] k) 2)).setCell ⟨w.heap.size + 1, t, none⟩ (.slice (some ⟨wr.heap.size, 0, none⟩) k k)) w.heap.size (k + 1) m bd bj := YBox.set4 (YBox.kept ⟨c0, c1, c2, c3⟩ ((Kept.refl _).alloc _)) (by omega) _ _
      have hlr : ∀ i, i < t → rb i < wr.heap.size := fun i hi => (hR i hi).lt
      obtain ⟨g, HG⟩ : ∃ g, Hid (g = wr.heap.size) := ⟨_, rfl⟩
      rw [← HG.out] at hnew hT1 hR1 hK1 hlr hwr hBx1 ⊢
      generalize (wr.alloc (.cells (madeCells #[.int .i64 0] k) 2)).setCell ⟨w.heap.size + 1, t, none⟩ (.slice (some ⟨g, 0, none⟩) k k) = W1 at *
      clear HG t1a t2a hT hR c0 c1 c2 c3
      have hT2 := hT1.cell hlt
      rw [if_pos (by omega), if_pos rfl] at hT2
      go_wp2_with fail
      go_loopg [27] k (fun q jj wi => ∃ j : Nat, j ≤ k ∧ q = k - j ∧ jj = .int .i64 j ∧ KeptX (fun i => i = g) W1 wi ∧ wi.rowIs g 2 k (fun j' => .int .i64 (if j' < j then -(J (t + 1) (j' + 1) : Int) else 0)))
      case atStart => exact ⟨0, Nat.zero_le _, rfl, rfl, KeptX.refl _ _, hnew.congr (fun i _ => by simp)⟩
      case round =>
        obtain ⟨j, hjk, rfl, rfl, hX, hN⟩ := hrel
        have hg1 : ¬ w.heap.size + 1 = g := by omega
        have hT3 := hX.cellSome hT2 hg1
        by_cases hlt2 : j < k
        · have hYw := hY.kept hK1
          have y1 := hX.cellSome hBx1.c3 (show ¬ w.heap.size = g by omega)
          have hbjlt : bj < w.heap.size := hY.top.lt
          have hbrlt := (hY.row (t + 1) (by omega)).lt
          have y2 := hX.cellSome (hYw.top.cell (i := t + 1) (by omega)) (show ¬ bj = g by omega)
          have y3 := hX.cellSome ((hYw.row (t + 1) (by omega)).cell (i := j + 1) (by omega)) (show ¬ br (t + 1) = g by omega)
          have hn1 := hN.cell hlt2
          rw [if_neg (by omega)] at hn1
          have hn2 := hN.frozen j
          have hjj := hJ (t + 1) (j + 1) (by omega) (by omega)
          have hj0 : (0 : Int) ≤ (j : Int) := by omega
          have hj1 : (j : Int) < (k : Int) := by omega
          have w1 : IntKind.i64.wrap ((t : Int) + 1) = (t : Int) + 1 := IntWalk.i64_in _ (by omega)
          have w2 : IntKind.i64.wrap ((j : Int) + 1) = (j : Int) + 1 := IntWalk.i64_in _ (by omega)
          have w3 : IntKind.i64.wrap (-(J (t + 1) (j + 1) : Int)) = -(J (t + 1) (j + 1) : Int) := IntWalk.i64_in _ (by omega)
          have n1 : ((t : Int) + 1).toNat = t + 1 := by omega
          have n2 : ((j : Int) + 1).toNat = j + 1 := by omega
          have b1 : (0 : Int) ≤ (t : Int) + 1 := by omega
          have b2 : (t : Int) + 1 < ((k + 1 : Nat) : Int) := by omega
          have b3 : (0 : Int) ≤ (j : Int) + 1 := by omega
          have b4 : (j : Int) + 1 < ((k + 1 : Nat) : Int) := by omega
          go_wp2_with fail
          go_region
          go_wp2_with fail
          go_roundg (k - (j + 1))
          case measure => omega
          case rel =>
            refine ⟨j + 1, by omega, rfl, by go_num, (by repeat (first | exact hX | apply KeptX.setIn | apply KeptX.drew)), ?_⟩
            refine World.rowIs.congr (World.rowIs.drew (hN.set j (.int .i64 (-(J (t + 1) (j + 1) : Int))))) (fun j' _ => ?_)
            by_cases e : j' = j
            · subst e; simp
            · rw [if_neg e]
              by_cases h : j' < j
              · rw [if_pos h, if_pos (show j' < j + 1 by omega)]
              · rw [if_neg h, if_neg (show ¬ j' < j + 1 by omega)]
        · obtain rfl : j = k := by omega
          have hYw := hY.kept hK1
          have y1 := hX.cellSome hBx1.c2 (show ¬ w.heap.size = g by omega)
          have hbdlt : bd < w.heap.size := hY.deg.lt
          have y2 := hX.cellSome (hYw.deg.cell (i := t + 1) (by omega)) (show ¬ bd = g by omega)
          have hn1 := hN.cell hlt
          rw [if_pos hlt] at hn1
          have hn2 := hN.frozen t
          have w1 : IntKind.i64.wrap ((t : Int) + 1) = (t : Int) + 1 := IntWalk.i64_in _ (by omega)
          have n1 : ((t : Int) + 1).toNat = t + 1 := by omega
          have b1 : (0 : Int) ≤ (t : Int) + 1 := by omega
          have b2 : (t : Int) + 1 < ((j + 1 : Nat) : Int) := by omega
          go_wp2_with fail
          go_region
          go_wp2_with fail
          go_roundg (j - (t + 1))
          case measure => omega
          case rel =>
            have hX3 : KeptX (fun i => i = g) W1 (wr.setCell ⟨g, t, none⟩ (.int .i64 (D (t + 1) : Int))).drew := (hX.setIn _ _).drew
            refine ⟨t + 1, fun i => if i = t then g else rb i, by omega, rfl, by go_num, Kept.step hK1 hX3 (fun i hi => by omega), ⟨hX3.cellSome hBx1.c0 (show ¬ w.heap.size = g by omega), hX3.cellSome hBx1.c1 (show ¬ w.heap.size = g by omega), hX3.cellSome hBx1.c2 (show ¬ w.heap.size = g by omega), hX3.cellSome hBx1.c3 (show ¬ w.heap.size = g by omega)⟩, hX3.row hT1 (by omega), fun i hi => ?_, fun i hi => ?_, fun i j' hi hj hij => ?_⟩
            · by_cases e : i = t
              · subst e
                simp only [if_true]
                refine World.rowIs.congr (World.rowIs.drew (hN.set i (.int .i64 (D (i + 1) : Int)))) (fun j' hj' => ?_)
                unfold lapM
                by_cases e : j' = i
                · subst e; simp
                · rw [if_neg e, if_pos hj', if_neg (Ne.symm e)]
              · simp only [if_neg e]; exact hX3.row (hR1 i (by omega)) (by have := hlr i (by omega); omega)
            · by_cases e : i = t
              · simp only [if_pos e]; exact hwr
              · simp only [if_neg e]; exact hB i (by omega)
            · by_cases e : i = t
              · by_cases e2 : j' = t
                · omega
                · simp only [if_pos e, if_neg e2]; have := hlr j' (by omega); omega
              · by_cases e2 : j' = t
                · simp only [if_neg e, if_pos e2]; have := hlr i (by omega); omega
                · simp only [if_neg e, if_neg e2]; exact hrr i j' (by omega) (by omega) hij
    · obtain rfl : t = k := by omega
      go_wp2_with fail
      go_ret
      exact ⟨w.heap.size + 1, rb, rfl, hK, hT.congr (fun i hi => by rw [if_pos hi]), hR, by omega, fun i hi => by have := hB i hi; omega, fun i hi => by have := hB i hi; omega, hrr⟩
end Go.Proofs.Ytlnpipkhofhlnaa
