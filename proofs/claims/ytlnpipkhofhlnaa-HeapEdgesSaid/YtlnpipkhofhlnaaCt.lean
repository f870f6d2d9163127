/-
  Count, as the package exports it.
-/
import Derived.Test.YtlnpipkhofhlnaaU
import Derived.Test.YtlnpipkhofhlnaaCb
namespace Go.Proofs.Ytlnpipkhofhlnaa
open Go.RowKit Go.Deep

def CountFn (w : World) (n : Int) (A B : Nat → Int) (m : Nat) (e : Ending) (w' : World) : Prop :=
  Kept w w' ∧ (goodB n A B m = false → e = .returned (.tuple #[.int .i64 0, .int .i64 1])) ∧ (goodB n A B m = true → e = .returned (.tuple #[.int .i64 (countI n.toNat (degN A B m) (btwN A B m)), .int .i64 0]))
set_option maxRecDepth 100000 in
set_option maxHeartbeats 2000000 in
theorem Count_any (w : World) (n : Int) (ev : Value) (A B : Nat → Int) (m : Nat) (hE : PairsAt w ev m A B) (hm : m ≤ 1000000) :
    Calls Try.prog 36 #[.int .i64 n, ev] w (CountFn w n A B m) := by
  obtain ⟨ea, eb, eo, ecap, rfl, hea, hec⟩ := hE
  have hE' : PairsAt w (.slice ea m ecap) m A B := ⟨ea, eb, eo, ecap, rfl, hea, hec⟩
  clear hec hea
  go_enter Try.func36, Try.ntmps36
  go_wp2_with fail
  refine (yardOf_any _ n _ _ A B m 0 0 (fun _ => 0) (fun _ _ => 0) hE' (noLists _ _ _) hm (by omega)).mono ?_
  rintro e w1 ⟨hK1, hpost⟩
  cases hg : goodB n A B m
  · rw [hg, if_neg (by simp)] at hpost
    have HG := Lib.hid hg
    subst hpost
    clear hg
    unfold zeroYard
    go_wp2_with fail
    go_ret2
    exact ⟨hK1.alloc _, (fun _ => rfl), (fun h => by rw [HG.out] at h; cases h)⟩
  · rw [hg, if_pos rfl, if_pos (show allN _ 0 = true from rfl)] at hpost
    obtain ⟨ok, _, _, _⟩ := good_ok hg
    have HG := Lib.hid hg
    obtain ⟨N, rfl⟩ : ∃ N : Nat, n = (N : Int) := ⟨n.toNat, by have := ok.n2; omega⟩
    simp only [Int.toNat_natCast] at ok hpost
    obtain ⟨bd, bj, br, rfl, hO⟩ := hpost
    have hn2 := ok.n2
    have hn8 := ok.n8
    obtain ⟨c, HC⟩ : ∃ c, Hid (c = countI N (degN A B m) (btwN A B m)) := ⟨_, rfl⟩
    clear hg
    unfold YardV
    go_wp2_with fail
    have hkA := hK1.alloc (.cells #[.int .i64 N, .int .i64 m, .slice (some ⟨bd, 0, none⟩) N N, .slice (some ⟨bj, 0, none⟩) N N] 78)
    have hYA := hO.yard.kept ((Kept.refl w1).alloc (.cells #[.int .i64 N, .int .i64 m, .slice (some ⟨bd, 0, none⟩) N N, .slice (some ⟨bj, 0, none⟩) N N] 78))
    obtain ⟨c0, c1, c2, c3⟩ := YBox.new w1 N m bd bj 78
    generalize w1.alloc (.cells #[.int .i64 N, .int .i64 m, .slice (some ⟨bd, 0, none⟩) N N, .slice (some ⟨bj, 0, none⟩) N N] 78) = W at *
    refine (count_any _ N m bd bj br (degN A B m) (btwN A B m) hYA hn8 (by omega) ok.J40).mono ?_
    rw [← HC.out]
    rintro e w2 ⟨rfl, hk2⟩
    go_wp2_with fail
    go_ret2
    exact ⟨hkA.trans hk2, (fun h => by rw [HG.out] at h; cases h), (fun _ => by rw [Int.toNat_natCast, ← HC.out]; rfl)⟩
end Go.Proofs.Ytlnpipkhofhlnaa
