/-
  Package herd: Group; pairs.
-/
import Derived.Test.YtlnlddnjalfamaaGreatDoorHi
import Derived.Test.YtlnlddnjalfamaaGreatDoorHg
namespace Go.Proofs.YtlnlddnjalfamaaGreatDoor
open Go.RowKit Go.Deep

theorem best_lt (H : Nat → Nat) {n : Nat} (hn : n ≤ 14) : best H n < 65536 := by
  rw [← mostM_best hn]
  exact mostM_lt _
/-- what Group returns -/
def GroupAns (w : World) (n : Int) (A B : Nat → Int) (m : Nat) (e : Ending) (w' : World) : Prop :=
  Kept w w' ∧ if goodH n A B m then ∃ v : Value, e = .returned (.tuple #[v, .int .i64 0]) ∧ NatsAt w' v (horsesL (best (alongH A B m) n.toNat) 9) else e = .returned (.tuple #[.slice none 0 0, .int .i64 1])
set_option maxRecDepth 100000 in
set_option maxHeartbeats 4000000 in
theorem Group_any (w : World) (n : Int) (v : Value) (m : Nat) (A B : Nat → Int) (hP : PairsAt w v m A B) (hm : m ≤ 1000000) :
    Calls Tryz.prog 10 #[.int .i64 n, v] w (GroupAns w n A B m) := by
  have HO := Lib.hid (herdOf_any w n v m A B hP hm)
  obtain ⟨gb, HGB⟩ : ∃ gb, Hid (gb = goodH n A B m) := ⟨_, rfl⟩
  unfold HerdOfPost at HO
  unfold GroupAns
  rw [← HGB.out] at HO ⊢
  cases gb with
  | false =>
    go_enter Tryz.func10, Tryz.ntmps10
    go_wp2_with (first | (go_at_call 41; refine HO.out.mono ?_; rintro e w2 ⟨hk2, he⟩; rw [if_neg (by simp)] at he; subst he))
    go_ret2
    exact ⟨hk2, rfl⟩
  | true =>
    have hg := HGB.out.symm
    unfold goodH at hg
    simp only [Bool.and_eq_true, decide_eq_true_eq] at hg
    obtain ⟨N, rfl⟩ : ∃ N : Nat, n = N := ⟨n.toNat, by omega⟩
    have hlts := alongH_lt (n := N) (k := m) (by omega) hg.2
    obtain ⟨s, HS⟩ : ∃ s, Hid (s = best (alongH A B m) N) := ⟨_, rfl⟩
    have hs : s < 65536 := by rw [HS.out]; exact best_lt _ (by omega)
    have GA := Lib.hid (fun (W : World) (g : Nat) (hG : W.rowIs g 84 N (fun i => setV (alongH A B m i))) => greatest_any W g N N (alongH A B m) hG hlts (by omega) (by omega))
    have HA := Lib.hid (fun (W : World) => horses_any W s hs)
    rw [← HS.out] at GA
    simp only [Int.toNat_natCast] at HO ⊢
    rw [← HS.out]
    clear hg hlts HGB HS
    go_enter Tryz.func10, Tryz.ntmps10
    go_wp2_with (first | (go_at_call 41; refine HO.out.mono ?_; rintro e w2 ⟨hk2, he⟩; rw [if_pos trivial] at he; obtain ⟨g, rfl, hgs, hG⟩ := he) | (go_at_call 42; refine (GA.out _ g hG).mono ?_; rintro e w3 ⟨rfl, hk3⟩) | (go_at_call 43; refine (HA.out _).mono ?_; rintro e w4 ⟨v4, rfl, hO4, hk4⟩))
    go_ret2
    exact ⟨(hk2.trans hk3).trans hk4, _, rfl, NatsAt.of_own hO4⟩
end Go.Proofs.YtlnlddnjalfamaaGreatDoor
