/-
  Nothing and Burn, as the package exports them.
-/
import Derived.Test.YtlnpipkhofhlnaaU
namespace Go.Proofs.Ytlnpipkhofhlnaa
open Go.RowKit Go.Deep

def NothingFn (w : World) (n : Int) (A B : Nat → Int) (m : Nat) (c : Int) (e : Ending) (w' : World) : Prop :=
  Kept w w' ∧ (goodB n A B m = false → e = .returned (.tuple #[.slice none 0 0, .int .i64 1])) ∧
  (goodB n A B m = true → ∃ (r : Nat) (f x : Nat → Int), e = .returned (.tuple #[.slice (some ⟨r, 1, none⟩) (n.toNat - 1) (n.toNat - 1), .int .i64 0]) ∧ w.heap.size ≤ r ∧ w'.rowIs r 3 n.toNat (fun u => .int .i64 (f u)) ∧
    Odo n.toNat (degN A B m) (btwN A B m) (atV (fun _ => 0 + moreN c)) x ∧ (∀ u, u < n.toNat → f u = fin n.toNat (degN A B m) (btwN A B m) (atV (fun _ => 0 + moreN c)) x u) ∧ ∀ u, u < n.toNat → 0 ≤ f u)

set_option maxRecDepth 100000 in
set_option maxHeartbeats 2000000 in
theorem Nothing_any (w : World) (n : Int) (ev : Value) (A B : Nat → Int) (m : Nat) (c : Int) (hE : PairsAt w ev m A B) (hm : m ≤ 1000000) (hc : goodB n A B m = true → countI n.toNat (degN A B m) (btwN A B m) = c ∧ 1 ≤ c ∧ c ≤ 100000) :
    Calls Try.prog 39 #[.int .i64 n, ev] w (NothingFn w n A B m c) := by
  obtain ⟨ea, eb, eo, ecap, rfl, hea, hec⟩ := hE
  have hE' : PairsAt w (.slice ea m ecap) m A B := ⟨ea, eb, eo, ecap, rfl, hea, hec⟩
  clear hec hea
  go_enter Try.func39, Try.ntmps39
  go_wp2_with fail
  refine (yardOf_any _ n _ _ A B m 0 0 (fun _ => 0) (fun _ _ => 0) hE' (noLists _ _ _) hm (by omega)).mono ?_
  rintro e w1 ⟨hK1, hpost⟩
  cases hg : goodB n A B m
  · rw [hg, if_neg (by simp)] at hpost
    have HG := Lib.hid hg
    subst hpost
    clear hg hc
    unfold zeroYard
    go_wp2_with fail
    go_ret2
    exact ⟨hK1.alloc _, (fun _ => rfl), (fun h => by rw [HG.out] at h; cases h)⟩
  · rw [hg, if_pos rfl, if_pos (show allN _ 0 = true from rfl)] at hpost
    obtain ⟨ok, ⟨p, hpk⟩, hm20, _⟩ := good_ok hg
    obtain ⟨hcc, hc1, hc2⟩ := hc hg
    have HG := Lib.hid hg
    obtain ⟨N, rfl⟩ : ∃ N : Nat, n = (N : Int) := ⟨n.toNat, by have := ok.n2; omega⟩
    simp only [Int.toNat_natCast] at ok hpost hpk hcc
    obtain ⟨bd, bj, br, rfl, hO⟩ := hpost
    have hn2 := ok.n2
    have hn8 := ok.n8
    have hmore := moreN_bd hc1
    obtain ⟨y, hy, hyB⟩ := hpk.stab (D := degN A B m) (h := atV (fun _ => 0 + moreN c)) (K := 101020) ok (by omega) (fun v hv => by
      unfold atV
      by_cases e : v = 0
      · rw [if_pos e]; omega
      · rw [if_neg e]; show 0 + moreN c ≤ 101020; omega)
    have HC := Lib.hid hcc
    have hmk := fun W => mkInts ((N : Int) - 1) (N - 1) (by omega) (by omega) W
    clear hg hc hcc
    unfold YardV
    go_wp2_with fail
    have hkA := hK1.alloc (.cells #[.int .i64 N, .int .i64 m, .slice (some ⟨bd, 0, none⟩) N N, .slice (some ⟨bj, 0, none⟩) N N] 78)
    have hYA := hO.yard.kept ((Kept.refl w1).alloc (.cells #[.int .i64 N, .int .i64 m, .slice (some ⟨bd, 0, none⟩) N N, .slice (some ⟨bj, 0, none⟩) N N] 78))
    obtain ⟨c0, c1, c2, c3⟩ := YBox.new w1 N m bd bj 78
    have hsw := Kept.size hK1
    obtain ⟨g, HGG⟩ : ∃ g, Hid (g = w1.heap.size) := ⟨_, rfl⟩
    rw [← HGG.out] at c0 c1 c2 c3 hsw ⊢
    generalize w1.alloc (.cells #[.int .i64 N, .int .i64 m, .slice (some ⟨bd, 0, none⟩) N N, .slice (some ⟨bj, 0, none⟩) N N] 78) = W at *
    have d0 : ∀ o, (W.alloc o).cell? ⟨g, 0, none⟩ = some (.int .i64 N) := fun o => ((Kept.refl W).alloc o).cellSome c0
    have d1 : ∀ o, (W.alloc o).cell? ⟨g, 1, none⟩ = some (.int .i64 m) := fun o => ((Kept.refl W).alloc o).cellSome c1
    have d2 : ∀ o, (W.alloc o).cell? ⟨g, 2, none⟩ = some (.slice (some ⟨bd, 0, none⟩) N N) := fun o => ((Kept.refl W).alloc o).cellSome c2
    have d3 : ∀ o, (W.alloc o).cell? ⟨g, 3, none⟩ = some (.slice (some ⟨bj, 0, none⟩) N N) := fun o => ((Kept.refl W).alloc o).cellSome c3
    have HYB : Hid (∀ v, v < N → y v ≤ 1700000000000000) := fun v hv => Int.le_trans (hyB v hv) (by decide)
    clear hyB
    have hz1 : IntKind.i64.wrap ((N : Int) - 1) = (N : Int) - 1 := IntWalk.i64_in _ (by omega)
    go_wp2_with fail
    go_region_with (first | (go_at_call 41; refine (recurrent_any _ N m bd bj br (degN A B m) (btwN A B m) _ (fun _ => 0) c y ?_ ok ?_ (fun i _ => by omega) HC.out hc1 (by omega) hy HYB.out).mono ?_; (exact hYA.kept (by repeat (first | assumption | exact Kept.refl _ | apply Kept.drew | apply Kept.drewN | apply Kept.alloc | refine Kept.trans ?_ (by assumption)))); (exact CellsAt.of_row (World.rowIs.drew (row_at W _ _ _ _ rfl))); rintro e w2 ⟨r, f, x, rfl, hk2, hr0, hR, hodo, hf, hf0⟩))
    all_goals
      go_wp2_with fail
      go_ret2
      have hKw : Kept w w2 := (by repeat (first | assumption | exact Kept.refl _ | apply Kept.drew | apply Kept.drewN | apply Kept.alloc | refine Kept.trans ?_ (by assumption)))
      have hWs := Kept.size hkA
      refine ⟨hKw, (fun h => by rw [HG.out] at h; cases h), (fun _ => ⟨r, f, x, by rw [Int.toNat_natCast]; rfl, ?_, by rw [Int.toNat_natCast]; exact hR, by rw [Int.toNat_natCast]; exact hodo, by rw [Int.toNat_natCast]; exact hf, by rw [Int.toNat_natCast]; exact hf0⟩)⟩
      simp at hr0
      omega
end Go.Proofs.Ytlnpipkhofhlnaa
