/-
  The document's example, three vertices: what its numbers are. No memory here.
-/
import Derived.Test.YtlnpipkhofhlnaaU
import Derived.Test.YtlnpipkhofhlnaaLa
namespace Go.Proofs.Ytlnpipkhofhlnaa
open Go.RowKit Go.Deep

def eA : Nat → Int := fun i => if i = 2 then 1 else 0
def eB : Nat → Int := fun i => if i = 0 then 1 else 2
theorem tri_good : goodB 3 eA eB 3 = true := by decide +kernel
theorem tri_count : countI 3 (degN eA eB 3) (btwN eA eB 3) = 3 := by decide +kernel
theorem tri_deg : degN eA eB 3 0 = 2 ∧ degN eA eB 3 1 = 2 ∧ degN eA eB 3 2 = 2 := by decide +kernel
theorem tri_btw : btwN eA eB 3 0 0 = 0 ∧ btwN eA eB 3 0 1 = 1 ∧ btwN eA eB 3 0 2 = 1 ∧ btwN eA eB 3 1 0 = 1 ∧ btwN eA eB 3 1 1 = 0 ∧ btwN eA eB 3 1 2 = 1 ∧ btwN eA eB 3 2 0 = 1 ∧ btwN eA eB 3 2 1 = 1 ∧ btwN eA eB 3 2 2 = 0 := by decide +kernel
theorem tri_fin (h y : Nat → Int) : fin 3 (degN eA eB 3) (btwN eA eB 3) h y 1 = h 1 + y 0 + y 2 - 2 * y 1 ∧ fin 3 (degN eA eB 3) (btwN eA eB 3) h y 2 = h 2 + y 0 + y 1 - 2 * y 2 := by
  obtain ⟨d0, d1, d2⟩ := tri_deg
  obtain ⟨b00, b01, b02, b10, b11, b12, b20, b21, b22⟩ := tri_btw
  constructor
  · simp only [fin, sumZ, d1, b01, b11, b21]; omega
  · simp only [fin, sumZ, d2, b02, b12, b22]; omega
theorem tri_settle {x f h : Nat → Int} (hh1 : h 1 = 2) (hh2 : h 2 = 0) (ho : Odo 3 (degN eA eB 3) (btwN eA eB 3) h x) (hf : ∀ u, u < 3 → f u = fin 3 (degN eA eB 3) (btwN eA eB 3) h x u) : x 1 = 1 ∧ x 2 = 0 ∧ f 1 = 0 ∧ f 2 = 1 := by
  obtain ⟨d0, d1, d2⟩ := tri_deg
  obtain ⟨⟨x0, xp, xs⟩, hmin⟩ := ho
  have s1 := xs 1 (by omega) (by omega)
  have s2 := xs 2 (by omega) (by omega)
  have f1 := hf 1 (by omega)
  have f2 := hf 2 (by omega)
  have p1 := xp 1 (by omega)
  have p2 := xp 2 (by omega)
  obtain ⟨e1, e2⟩ := tri_fin h x
  rw [e1, d1] at s1
  rw [e2, d2] at s2
  rw [e1] at f1
  rw [e2] at f2
  obtain ⟨z1, z2⟩ := tri_fin h (fun v => if v = 1 then 1 else 0)
  have hz : Stab 3 (degN eA eB 3) (btwN eA eB 3) h (fun v => if v = 1 then 1 else 0) := by
    refine ⟨by simp, fun v _ => by show 0 ≤ (if v = 1 then (1 : Int) else 0); split <;> omega, fun v h1 h2 => ?_⟩
    have : v = 1 ∨ v = 2 := by omega
    rcases this with rfl | rfl
    · rw [z1, d1]; simp; omega
    · rw [z2, d2]; simp; omega
  have m1 := hmin _ hz 1 (by omega)
  have m2 := hmin _ hz 2 (by omega)
  simp at m1 m2
  omega
theorem tri_nothing {x f h : Nat → Int} (hh1 : h 1 = 1020) (hh2 : h 2 = 1020) (ho : Odo 3 (degN eA eB 3) (btwN eA eB 3) h x) (hf : ∀ u, u < 3 → f u = fin 3 (degN eA eB 3) (btwN eA eB 3) h x u) : f 1 = 1 ∧ f 2 = 1 := by
  obtain ⟨d0, d1, d2⟩ := tri_deg
  obtain ⟨⟨x0, xp, xs⟩, hmin⟩ := ho
  have s1 := xs 1 (by omega) (by omega)
  have s2 := xs 2 (by omega) (by omega)
  have f1 := hf 1 (by omega)
  have f2 := hf 2 (by omega)
  obtain ⟨e1, e2⟩ := tri_fin h x
  rw [e1, d1] at s1
  rw [e2, d2] at s2
  rw [e1] at f1
  rw [e2] at f2
  obtain ⟨z1, z2⟩ := tri_fin h (fun v => if v = 0 then 0 else 1019)
  have hz : Stab 3 (degN eA eB 3) (btwN eA eB 3) h (fun v => if v = 0 then 0 else 1019) := by
    refine ⟨by simp, fun v _ => by show 0 ≤ (if v = 0 then (0 : Int) else 1019); split <;> omega, fun v h1 h2 => ?_⟩
    have : v = 1 ∨ v = 2 := by omega
    rcases this with rfl | rfl
    · rw [z1, d1]; simp; omega
    · rw [z2, d2]; simp; omega
  have m1 := hmin _ hz 1 (by omega)
  have m2 := hmin _ hz 2 (by omega)
  simp at m1 m2
  omega
theorem tri_burn : burnAll 3 (btwN eA eB 3) (fun i => if i = 0 then 1 else 0) = [1, 2] := by decide +kernel
theorem tri_stable : stableB (degN eA eB 3) (fun i => if i = 0 then 1 else 0) 3 = true := by decide +kernel
theorem tri_more : moreN 3 = 1020 := by decide +kernel
theorem tri_det : ∀ s, s < 4 → ∀ t, t < 4 → (bitL s 2).length = (bitL t 2).length → 0 ≤ detI (bitL s 2).length (subM 2 (lapM (degN eA eB 3) (btwN eA eB 3)) s t) ∧ detI (bitL s 2).length (subM 2 (lapM (degN eA eB 3) (btwN eA eB 3)) s t) ≤ big := by decide +kernel
theorem tri_div : yardDiv 3 eA eB 3 0 = 1 ∧ yardDiv 3 eA eB 3 1 = 1 ∧ yardDiv 3 eA eB 3 2 = 3 := by decide +kernel
theorem tri_ok : DivOk 3 eA eB 3 := ⟨fun s t hs ht => tri_det s hs t ht, fun k hk => by
  obtain ⟨a, b, c⟩ := tri_div
  have : k = 0 ∨ k = 1 ∨ k = 2 := by omega
  unfold big
  rcases this with rfl | rfl | rfl <;> omega⟩
theorem tri_fac : facL (yardDiv 3 eA eB 3) 2 = [3] := by
  obtain ⟨a, b, c⟩ := tri_div
  simp [facL, a, b, c]
end Go.Proofs.Ytlnpipkhofhlnaa
