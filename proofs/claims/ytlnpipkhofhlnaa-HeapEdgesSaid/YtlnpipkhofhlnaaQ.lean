/-
  The program's yards, more: count, recurrent.
-/
import Derived.Test.YtlnpipkhofhlnaaP
import Derived.Test.YtlnpipkhofhlnaaE
namespace Go.Proofs.Ytlnpipkhofhlnaa
open Go.RowKit Go.Deep

def countI (n : Nat) (D : Nat → Nat) (J : Nat → Nat → Nat) : Int := detI (n - 1) (lapM D J)
set_option maxHeartbeats 1000000 in
theorem count_any (w : World) (n m bd bj : Nat) (br D : Nat → Nat) (J : Nat → Nat → Nat) (hY : YardAt w n bd bj br D J) (hn : n ≤ 8) (hn1 : 1 ≤ n) (hJ : ∀ i j, i < n → j < n → J i j ≤ 40) :
    Calls Try.prog 61 #[YardV n m bd bj] w fun e w' => e = .returned (.int .i64 (countI n D J)) ∧ Kept w w' := by
  have hK0 : Kept w (w.alloc (.cells #[.int .i64 n, .int .i64 m, .slice (some ⟨bd, 0, none⟩) n n, .slice (some ⟨bj, 0, none⟩) n n] 78)) := (Kept.refl w).alloc _
  unfold YardV
  go_enter Try.func61, Try.ntmps61
  go_wp2_with fail
  refine (laplacian_any _ n m bd bj br D J (hY.kept hK0) hn hn1 hJ).mono ?_
  rintro e w1 ⟨b, rb, rfl, hk1, hO⟩
  go_wp2_with fail
  refine (determinant_any _ _ (n - 1) (lapM D J) hO.read (by omega)).mono ?_
  rintro e w2 ⟨rfl, hk2⟩
  go_wp2_with fail
  go_ret
  exact ⟨rfl, (hK0.trans hk1).trans hk2⟩

/-- how many bars are added at each vertex -/
def moreN (c : Int) : Int := (1020 + c - 1) / c * c
theorem moreN_bd {c : Int} (h1 : 1 ≤ c) : 1020 ≤ moreN c ∧ moreN c ≤ 1020 + c := by
  unfold moreN
  have h2 := Int.ediv_mul_le (1020 + c - 1) (show c ≠ 0 by omega)
  have h3 := Int.lt_ediv_add_one_mul_self (1020 + c - 1) (show 0 < c by omega)
  rw [Int.add_mul] at h3
  omega
def RecPost (w : World) (n : Nat) (D : Nat → Nat) (J : Nat → Nat → Nat) (h : Nat → Int) (e : Ending) (w' : World) : Prop :=
  ∃ (r : Nat) (f x : Nat → Int), e = .returned (.slice (some ⟨r, 1, none⟩) (n - 1) (n - 1)) ∧ Kept w w' ∧ w.heap.size ≤ r ∧ w'.rowIs r 3 n (fun u => .int .i64 (f u)) ∧ Odo n D J h x ∧ (∀ u, u < n → f u = fin n D J h x u) ∧ ∀ u, u < n → 0 ≤ f u

set_option maxRecDepth 100000 in
set_option maxHeartbeats 2000000 in
theorem recurrent_any (w : World) (n m bd bj : Nat) (br D : Nat → Nat) (J : Nat → Nat → Nat) (lv : Value) (hp : Nat → Int) (c : Int) (y : Nat → Int) (hY : YardAt w n bd bj br D J) (ok : YardOk n D J) (hL : IntsAt w lv (n - 1) hp)
    (hh : ∀ i, i < n - 1 → -1020 ≤ hp i ∧ hp i ≤ 1020) (hc : countI n D J = c) (hc1 : 1 ≤ c) (hc2 : c ≤ 1000000) (hy : Stab n D J (atV (fun i => hp i + moreN c)) y) (hyB : ∀ v, v < n → y v ≤ 1700000000000000) :
    Calls Try.prog 41 #[YardV n m bd bj, lv] w (RecPost w n D J (atV (fun i => hp i + moreN c))) := by
  have hn2 := ok.n2
  have hn8 := ok.n8
  obtain ⟨a, b, o, cap, rfl, ha, hcl⟩ := hL
  obtain ⟨N, rfl⟩ : ∃ N, n = N + 1 := ⟨n - 1, by omega⟩
  simp only [Nat.add_sub_cancel] at ha hcl hh ⊢
  obtain rfl := ha (by omega)
  have hbx := YBox.new w (N + 1) m bd bj 78
  have hmk := fun w => mkInts (N : Int) N rfl (by omega) w
  have hK0 : Kept w (w.alloc (.cells #[.int .i64 (N + 1 : Nat), .int .i64 m, .slice (some ⟨bd, 0, none⟩) (N + 1) (N + 1), .slice (some ⟨bj, 0, none⟩) (N + 1) (N + 1)] 78)) := (Kept.refl w).alloc _
  have hmore := moreN_bd hc1
  obtain ⟨mo, HMO⟩ : ∃ mo, Hid (mo = moreN c) := ⟨_, rfl⟩
  rw [← HMO.out] at hmore hy ⊢
  have HC := Lib.hid hc
  clear hc
  unfold YardV
  go_enter Try.func41, Try.ntmps41
  go_wp2_with fail
  have hcnt := count_any _ (N + 1) m bd bj br D J (hY.kept hK0) hn8 (by omega) ok.J40
  rw [HC.out] at hcnt
  refine hcnt.mono ?_
  clear hcnt
  rintro e w1 ⟨rfl, hk1⟩
  obtain ⟨c0, c1, c2, c3⟩ := hbx.kept hk1
  have hK1 := hK0.trans hk1
  have hq0 : 0 ≤ (1020 + c - 1) / c := Int.ediv_nonneg (by omega) (by omega)
  have hq1 : (1020 + c - 1) / c ≤ 1020 + c - 1 := Int.ediv_le_self _ (by omega)
  clear hbx hk1 hK0
  have hmo2 : (1020 + c - 1) / c * c = mo := HMO.out.symm
  have hmb : 1020 ≤ (1020 + c - 1) / c * c ∧ (1020 + c - 1) / c * c ≤ 1020 + c := by rw [hmo2]; exact hmore
  have HM2 := Lib.hid hmo2
  clear hmo2
  go_wp2_with fail
  rw [HM2.out]
  have hR0 := World.rowIs_made w1 (.int .i64 0) N 3
  have hK2 : Kept w (w1.alloc (.cells (madeCells #[.int .i64 0] N) 3)) := hK1.alloc _
  have hB2 : YBox (w1.alloc (.cells (madeCells #[.int .i64 0] N) 3)) w.heap.size (N + 1) m bd bj := YBox.kept ⟨c0, c1, c2, c3⟩ ((Kept.refl _).alloc _)
  have hs1 := Kept.size hK1
  have hs0 : w.heap.size < w1.heap.size := World.block_lt_of_cell? _ _ c0
  obtain ⟨g, HG⟩ : ∃ g, Hid (g = w1.heap.size) := ⟨_, rfl⟩
  rw [← HG.out] at hR0 hs1 hs0 ⊢
  clear hmk hmb c0 c1 c2 c3 hK1 hq0 hq1 HG
  go_loopg [8, 25] N (fun q s8 i wr => ∃ k : Nat, k ≤ N ∧ q = N - k ∧ i = .int .i64 k ∧ Kept w wr ∧ YBox wr w.heap.size (N + 1) m bd bj ∧ wr.rowIs g 3 N (fun i => .int .i64 (if i < k then hp i + mo else 0)))
  case atStart => exact ⟨0, Nat.zero_le _, rfl, rfl, hK2, hB2, hR0.congr (fun i _ => by simp)⟩
  case round =>
    obtain ⟨k, hk, rfl, rfl, hK, hB, hR⟩ := hrel
    clear hK2 hB2 hR0
    by_cases hlt : k < N
    · have h1 := hK.cellSome (hcl k hlt)
      have h5 := hR.cell hlt
      have h6 := hR.frozen k
      have h7 := hh k hlt
      go_wp2_with fail
      go_roundg (N - (k+1))
      case measure => omega
      case rel =>
        refine ⟨k + 1, by omega, rfl, by go_num, hK.setCell (show w.heap.size ≤ g by omega) _, hB.set4 (by omega) _ _, (hR.set k _).congr (fun j hj => ?_)⟩
        by_cases e : j = k
        · subst e; simp
        · rw [if_neg e]
          by_cases h : j < k
          · rw [if_pos h, if_pos (show j < k + 1 by omega)]
          · rw [if_neg h, if_neg (show ¬ j < k + 1 by omega)]
    · obtain rfl : k = N := by omega
      obtain ⟨c0, c1, c2, c3⟩ := hB
      have hF : IntsAt wr (.slice (some ⟨g, 0, none⟩) k k) k (fun i => hp i + mo) := (CellsAt.of_row hR).congr (fun i hi => by rw [if_pos hi])
      go_wp2_with fail
      refine (settle_any _ (k + 1) m bd bj br D J _ (fun i => hp i + mo) y (hY.kept hK) ok hF (fun i hi => by have := hh i hi; omega) hy hyB).mono ?_
      rintro e w2 ⟨r, t, f, x, rfl, hk2, hr1, ht1, hrt, hRr, hTt, hodo, hf, hf0⟩
      go_wp2_with fail
      go_ret
      have := Kept.size hK
      exact ⟨r, f, x, rfl, hK.trans hk2, by omega, hRr, hodo, hf, hf0⟩
end Go.Proofs.Ytlnpipkhofhlnaa
