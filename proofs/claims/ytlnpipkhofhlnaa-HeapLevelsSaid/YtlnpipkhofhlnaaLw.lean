/-
  The law HeapLevels, walked.
-/
import Derived.Test.YtlnpipkhofhlnaaLi
import Derived.Test.YtlnpipkhofhlnaaLe
import Derived.Test.YtlnpipkhofhlnaaLp
import Derived.Test.YtlnpipkhofhlnaaLr
namespace Go.Proofs.Ytlnpipkhofhlnaa
open Go.RowKit Go.Deep

set_option maxRecDepth 100000 in
set_option maxHeartbeats 4000000 in
theorem levelss_any (w : World) (n : Int) (a : Option Addr) (l cap : Nat) (A B : Nat → Int) (hE : PairsAt w (.slice a l cap) l A B) (hl : l ≤ cap) (hnil : a = none → cap = 0) (hcap : cap ≤ maxLen) :
    Calls Try.prog 4 #[.agg #[.int .i64 n, .slice a l cap]] w (LivesPost w) := by
  obtain ⟨k, hk⟩ : ∃ k, k = min l 21 := ⟨_, rfl⟩
  have hk21 : k ≤ 21 := by omega
  have hK0 : Kept w (w.alloc (.cells #[.int .i64 n, .slice a l cap] 24)) := (Kept.refl w).alloc _
  go_enter Try.func4, Try.ntmps4
  go_wp2_with fail
  refine (few_any _ n a l cap k A B hk (hE.kept hK0) hl hnil hcap).mono ?_
  rintro e w1 ⟨ea, ecap, rfl, hE1, hk1⟩
  have hK1 := hK0.trans hk1
  clear hK0 hk1 hk
  go_wp2_with fail
  refine (isyard_any _ n _ A B k hE1 (by omega)).mono ?_
  rintro e w2 ⟨rfl, hk2⟩
  have hK2 := hK1.trans hk2
  have hE2 := hE1.kept hk2
  clear hK1 hE1 hk2
  have HLEV := Lib.hid (fun (w2 : World) (h : PairsAt w2 (.slice ea k ecap) k A B) => Levels_any w2 n (.slice ea k ecap) A B k h (by omega))
  cases hg : goodB n A B k
  · have HG := Lib.hid hg
    clear hg
    go_wp2_with fail
    refine (HLEV.out _ hE2).mono ?_
    rintro e w3 ⟨hk3, h1, -, -⟩
    have he := h1 HG.out
    subst he
    go_wp2_with fail
    refine (lives_any _).mono ?_
    rintro e w4 ⟨rfl, hk4⟩
    go_wp2_with fail
    go_ret
    exact ⟨rfl, (hK2.trans hk3).trans hk4⟩
  · obtain ⟨ok, ⟨p, hpk⟩, hm20, hEd⟩ := good_ok hg
    have hds := deg_sum hEd
    have HG := Lib.hid hg
    obtain ⟨N, rfl⟩ : ∃ N : Nat, n = (N : Int) := ⟨n.toNat, by have := ok.n2; omega⟩
    simp only [Int.toNat_natCast] at ok hpk hds
    have hn2 := ok.n2
    have hn8 := ok.n8
    have HST := Lib.hid (fun (w2 : World) (h : PairsAt w2 (.slice ea k ecap) k A B) => stable_ref w2 N k (.slice ea k ecap) A B h hm20 (by omega) hn8)
    have HLR := Lib.hid (fun (w2 : World) (h : PairsAt w2 (.slice ea k ecap) k A B) (hP : prodN (degT (degN A B k)) (N - 1) ≤ 100000) => levels_ref w2 N k ea ecap A B h ok hpk hds hm20 hP)
    obtain ⟨P, HP⟩ : ∃ P, Hid (P = prodN (degT (degN A B k)) (N - 1)) := ⟨_, rfl⟩
    have hHP : Hid (prodN (degT (degN A B k)) ((N : Int).toNat - 1) = P) := by rw [HP.out]; rfl
    clear hg ok hpk hds hEd
    go_wp2_with fail
    refine (HST.out _ hE2).mono ?_
    rw [← HP.out]
    rintro e w3 ⟨rfl, rfl⟩
    by_cases h20 : 20000 < P
    · have g1 : (P : Int) > 20000 := by omega
      go_wp2_with fail
      refine (HLEV.out _ hE2).mono ?_
      rintro e w3 ⟨hk3, -, h2, -⟩
      have he := h2 HG.out (by rw [hHP.out]; exact h20)
      subst he
      go_wp2_with fail
      refine (lives_any _).mono ?_
      rintro e w4 ⟨rfl, hk4⟩
      go_wp2_with fail
      go_ret
      exact ⟨rfl, (hK2.trans hk3).trans hk4⟩
    · have g1 : ¬ (P : Int) > 20000 := by omega
      by_cases h3 : 3000 < P
      · have g2 : (P : Int) > 3000 := by omega
        go_wp2_with fail
        refine (lives_any _).mono ?_
        rintro e w4 ⟨rfl, hk4⟩
        go_wp2_with fail
        go_ret
        exact ⟨rfl, hK2.trans hk4⟩
      · have g2 : ¬ (P : Int) > 3000 := by omega
        go_wp2_with fail
        refine (HLEV.out _ hE2).mono ?_
        rintro e w3 ⟨hk3, -, -, h2⟩
        obtain ⟨r, he, hrow⟩ := h2 HG.out (by rw [hHP.out]; omega)
        have HHI : Hid (IntsAt w3 (.slice (some ⟨r, 0, none⟩) (topL (degN A B k) k (N - 1) + 1) (topL (degN A B k) k (N - 1) + 1)) (topL (degN A B k) k (N - 1) + 1) (fun t => ((hist (degN A B k) (btwN A B k) k (N - 1) (prodN (degT (degN A B k)) (N - 1)) t : Nat) : Int))) := CellsAt.of_row hrow
        have htl : topL (degN A B k) k (N - 1) ≤ 200 := by
          obtain ⟨ok, _⟩ := good_ok HG.out
          simp only [Int.toNat_natCast] at ok
          have := lev_bd (m := k) (N := N - 1) (by rw [show N - 1 + 1 = N by omega]; exact ok) (by omega)
          unfold topL; omega
        rw [show (N : Int).toNat = N from rfl] at he
        obtain ⟨tl, HTL⟩ : ∃ tl, Hid (tl = topL (degN A B k) k (N - 1)) := ⟨_, rfl⟩
        rw [← HTL.out] at he htl HHI
        subst he
        have hE3 := hE2.kept hk3
        clear hrow
        go_wp2_with fail
        refine (HLR.out _ hE3 (by rw [← HP.out]; omega)).mono ?_
        rintro e w5 ⟨v5, rfl, hk5, hv5⟩
        rw [← HTL.out] at hv5
        obtain ⟨a5, b5, o5, cap5, rfl, hv5a, hv5c⟩ := hv5
        have hv5 : IntsAt w5 (.slice a5 (tl + 1) cap5) (tl + 1) (fun t => ((hist (degN A B k) (btwN A B k) k (N - 1) (prodN (degT (degN A B k)) (N - 1)) t : Nat) : Int)) := ⟨a5, b5, o5, cap5, rfl, hv5a, hv5c⟩
        have hh := HHI.out.kept hk5
        clear hv5a hv5c HHI
        go_wp2_with fail
        refine (same_yes _ _ _ (tl + 1) _ _ hh hv5 (by omega) (fun _ _ => rfl)).mono ?_
        rintro e w8 ⟨rfl, hk8⟩
        go_wp2_with fail
        refine (lives_any _).mono ?_
        rintro e w9 ⟨rfl, hk9⟩
        go_wp2_with fail
        go_ret
        exact ⟨rfl, (((hK2.trans hk3).trans hk5).trans hk8).trans hk9⟩
end Go.Proofs.Ytlnpipkhofhlnaa
