/-
  The program's next: the next list of digits.
-/
import Derived.Test.YtlnpipkhofhlnaaLs
namespace Go.Proofs.Ytlnpipkhofhlnaa
open Go.RowKit Go.Deep

def NextPost (w : World) (N : Nat) (D : Nat → Nat) (r : Nat) (f : Nat → Nat) (e : Ending) (w' : World) : Prop :=
  KeptX (fun k => k = r) w w' ∧ ((∃ i, i < N ∧ (∀ j, j < i → f j + 1 = D j) ∧ f i + 1 < D i ∧ e = .returned (.bool true) ∧ w'.rowIs r 3 N (fun j => .int .i64 ((if j < i then 0 else if j = i then f i + 1 else f j : Nat) : Int)))
    ∨ ((∀ j, j < N → f j + 1 = D j) ∧ e = .returned (.bool false) ∧ w'.rowIs r 3 N (fun _ => .int .i64 0)))
set_option maxRecDepth 100000 in
set_option maxHeartbeats 4000000 in
theorem next_any (w : World) (n m bd bj : Nat) (br D : Nat → Nat) (J : Nat → Nat → Nat) (r : Nat) (f : Nat → Nat) (hY : YardAt w n bd bj br D J) (ok : YardOk n D J) (hbd : bd ≠ r) (hr : w.rowIs r 3 (n - 1) (fun i => .int .i64 ((f i : Nat) : Int))) (hf : ∀ i, i < n - 1 → f i < degT D i) :
    Calls Try.prog 53 #[YardV n m bd bj, .slice (some ⟨r, 0, none⟩) (n - 1) (n - 1)] w (NextPost w (n - 1) (degT D) r f) := by
  have hn2 := ok.n2
  have hn8 := ok.n8
  obtain ⟨N, rfl⟩ : ∃ N, n = N + 1 := ⟨n - 1, by omega⟩
  simp only [Nat.add_sub_cancel] at hr hf ⊢
  have hD : ∀ i, i < N → degT D i ≤ 20 := fun i hi => ok.D20 (i + 1) (by omega)
  have HD := Lib.hid hD
  have HF := Lib.hid hf
  have hrl := hr.lt
  obtain ⟨c0, c1, c2, c3⟩ : YBox (w.alloc (.cells #[.int .i64 ((N : Int) + 1), .int .i64 m, .slice (some ⟨bd, 0, none⟩) (N + 1) (N + 1), .slice (some ⟨bj, 0, none⟩) (N + 1) (N + 1)] 78)) w.heap.size (N + 1) m bd bj := YBox.new w (N + 1) m bd bj 78
  have hK0 : KeptX (fun k => k = r) w (w.alloc (.cells #[.int .i64 ((N : Int) + 1), .int .i64 m, .slice (some ⟨bd, 0, none⟩) (N + 1) (N + 1), .slice (some ⟨bj, 0, none⟩) (N + 1) (N + 1)] 78)) := (KeptX.refl _ w).alloc _
  have hR0 := Kept.row ((Kept.refl w).alloc (.cells #[.int .i64 ((N : Int) + 1), .int .i64 m, .slice (some ⟨bd, 0, none⟩) (N + 1) (N + 1), .slice (some ⟨bj, 0, none⟩) (N + 1) (N + 1)] 78)) hr
  have hbw : w.heap.size ≠ r := by omega
  clear hD hf hr
  unfold YardV
  go_enter Try.func53, Try.ntmps53
  go_wp2_with fail
  generalize w.alloc (.cells #[.int .i64 ((N : Int) + 1), .int .i64 m, .slice (some ⟨bd, 0, none⟩) (N + 1) (N + 1), .slice (some ⟨bj, 0, none⟩) (N + 1) (N + 1)] 78) = W at *
  go_loopg [8] N (fun g s8 wr => ∃ k : Nat, k ≤ N ∧ g = N - k ∧ s8 = .int .i64 (k : Int) ∧ Hid (∀ j, j < k → f j + 1 = degT D j) ∧ KeptX (fun k => k = r) w wr ∧ wr.cell? ⟨w.heap.size, 2, none⟩ = some (.slice (some ⟨bd, 0, none⟩) (N + 1) (N + 1)) ∧ wr.rowIs r 3 N (fun j => .int .i64 ((if j < k then 0 else f j : Nat) : Int)))
  case atStart => exact ⟨0, Nat.zero_le _, rfl, rfl, (fun j hj => absurd hj (by omega)), hK0, c2, hR0.congr (fun i _ => by simp)⟩
  case round =>
    obtain ⟨k, hk, rfl, rfl, hH, hK, d2, hR⟩ := hrel
    clear hK0 hR0
    by_cases hlt : k < N
    · have t1 := hR.cell hlt
      have t2 := hR.frozen k
      simp only [Nat.lt_irrefl, if_false] at t1
      have hdeg := hK.row hY.deg hbd
      have t3 := hdeg.cell (i := k + 1) (by omega)
      have hfk := HF.out k hlt
      have hdk := HD.out k hlt
      have hdef : D (k + 1) = degT D k := rfl
      rw [hdef] at t3
      obtain ⟨fk, HFK⟩ : ∃ fk, Hid (fk = f k) := ⟨_, rfl⟩
      rw [← HFK.out] at t1 hfk
      obtain ⟨dk, HDK⟩ : ∃ dk, Hid (dk = degT D k) := ⟨_, rfl⟩
      rw [← HDK.out] at t3 hfk hdk
      have s2 : (k : Int) < (N : Int) := by omega
      have s3 : (0 : Int) ≤ (k : Int) := by omega
      have s4 : IntKind.i64.wrap ((fk : Int) + 1) = (fk : Int) + 1 := IntWalk.i64_in _ (by omega)
      have s5 : IntKind.i64.wrap ((k : Int) + 1) = (k : Int) + 1 := IntWalk.i64_in _ (by omega)
      have s6 : ((k : Int) + 1).toNat = k + 1 := by omega
      have s7 : (k : Int) + 1 < (N : Int) + 1 := by omega
      have hKs : KeptX (fun k => k = r) w (wr.setCell ⟨r, k, none⟩ (.int .i64 ((fk : Int) + 1))) := hK.setIn k _
      have hRs : (wr.setCell ⟨r, k, none⟩ (.int .i64 ((fk : Int) + 1))).rowIs r 3 N (fun j => .int .i64 ((if j < k then 0 else if j = k then fk + 1 else f j : Nat) : Int)) := (hR.set k (.int .i64 ((fk : Int) + 1))).congr (fun j _ => by
        by_cases e : j = k
        · subst e; simp
        · simp [e])
      have e2 : (wr.setCell ⟨r, k, none⟩ (.int .i64 ((fk : Int) + 1))).cell? ⟨w.heap.size, 2, none⟩ = some (.slice (some ⟨bd, 0, none⟩) (N + 1) (N + 1)) := by
        rw [World.cell?_setCell_other _ _ _ _ (by intro e; exact hbw (congrArg Addr.block e).symm)]; exact d2
      have t4 := hRs.cell hlt
      simp only [Nat.lt_irrefl, if_false, if_true] at t4
      have t4' : (wr.setCell ⟨r, k, none⟩ (.int .i64 ((fk : Int) + 1))).cell? ⟨r, k, none⟩ = some (.int .i64 ((fk : Int) + 1)) := t4
      have t5 := (hKs.row hY.deg hbd).cell (i := k + 1) (by omega)
      rw [hdef, ← HDK.out] at t5
      clear hdef hdeg t4 t3
      go_wp2_with fail
      clear t1 t2 hK hR d2
      generalize wr.setCell ⟨r, k, none⟩ (.int .i64 ((fk : Int) + 1)) = W2 at *
      have t6 := hRs.frozen k
      by_cases hst : fk + 1 < dk
      · have g1 : (fk : Int) + 1 < (dk : Int) := by omega
        go_quiet (fail)
        go_wp2_with fail
        go_ret
        refine ⟨hKs.drewN _, .inl ⟨k, hlt, hH.out, by rw [← HFK.out, ← HDK.out]; exact hst, rfl, ?_⟩⟩
        rw [← HFK.out]
        exact (Kept.row ((Kept.refl W2).drewN _) hRs)
      · have g1 : ¬ (fk : Int) + 1 < (dk : Int) := by omega
        have hfe : fk + 1 = dk := by omega
        go_quiet (fail)
        go_wp2_with fail
        have hK3 : KeptX (fun k => k = r) w ((W2.drewN nq).setCell ⟨r, k, none⟩ (.int .i64 0)) := (hKs.drewN _).setIn k _
        have hR3 : ((W2.drewN nq).setCell ⟨r, k, none⟩ (.int .i64 0)).rowIs r 3 N (fun j => .int .i64 ((if j < k + 1 then 0 else f j : Nat) : Int)) := ((Kept.row ((Kept.refl W2).drewN nq) hRs).set k (.int .i64 0)).congr (fun j _ => by
          by_cases e : j = k
          · subst e; simp
          · by_cases e2 : j < k
            · rw [if_neg e, if_pos e2, if_pos (show j < k + 1 by omega)]
            · rw [if_neg e, if_neg e2, if_neg (show ¬ j < k + 1 by omega), if_neg e])
        have e3 : ((W2.drewN nq).setCell ⟨r, k, none⟩ (.int .i64 0)).cell? ⟨w.heap.size, 2, none⟩ = some (.slice (some ⟨bd, 0, none⟩) (N + 1) (N + 1)) := by
          rw [World.cell?_setCell_other _ _ _ _ (by intro e; exact hbw (congrArg Addr.block e).symm)]; exact e2
        clear hKs hRs e2 t4' t5 t6
        go_roundg (N - (k + 1))
        case measure => omega
        case rel => exact ⟨k + 1, by omega, rfl, by go_num, (fun j hj => by
          by_cases e : j = k
          · subst e; rw [← HFK.out, ← HDK.out]; exact hfe
          · exact hH.out j (by omega)), hK3, e3, hR3⟩
    · obtain rfl : k = N := by omega
      go_wp2_with fail
      go_ret
      exact ⟨hK, .inr ⟨hH.out, rfl, hR.congr (fun j hj => by rw [if_pos hj]; rfl)⟩⟩
end Go.Proofs.Ytlnpipkhofhlnaa
