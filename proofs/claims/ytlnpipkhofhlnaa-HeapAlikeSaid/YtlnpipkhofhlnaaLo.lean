/-
  Low, as the package exports it.
-/
import Derived.Test.YtlnpipkhofhlnaaGa
import Derived.Test.YtlnpipkhofhlnaaMi
namespace Go.Proofs.Ytlnpipkhofhlnaa
open Go.RowKit Go.Deep

/-- what the heaps lack to the greatest ones, raised -/
def lackF (n : Nat) (D : Nat → Nat) (J : Nat → Nat → Nat) (hp : Nat → Int) : Nat → Int := atV (fun i => topI D i - hp i + moreN (countI n D J))
def LowOk (w : World) (n : Nat) (D : Nat → Nat) (J : Nat → Nat → Nat) (h : Nat → Int) (e : Ending) (w' : World) : Prop :=
  ∃ (r : Nat) (f x : Nat → Int), e = .returned (.tuple #[.slice (some ⟨r, 0, none⟩) (n - 1) (n - 1), .int .i64 0]) ∧ w.heap.size ≤ r ∧ w'.rowIs r 3 (n - 1) (fun i => .int .i64 (topI D i - f (i + 1))) ∧ Odo n D J h x ∧ (∀ u, u < n → f u = fin n D J h x u) ∧ ∀ u, u < n → 0 ≤ f u
def LowFn (w : World) (n : Int) (A B : Nat → Int) (m l : Nat) (hp : Nat → Int) (e : Ending) (w' : World) : Prop :=
  Kept w w' ∧ (code1 n A B m (-1000) l hp = 0 → LowOk w n.toNat (degN A B m) (btwN A B m) (lackF n.toNat (degN A B m) (btwN A B m) hp) e w') ∧ (code1 n A B m (-1000) l hp ≠ 0 → e = .returned (.tuple #[.slice none 0 0, .int .i64 (code1 n A B m (-1000) l hp)]))

set_option maxRecDepth 100000 in
set_option maxHeartbeats 2000000 in
theorem Low_any (w : World) (n : Int) (ev hv : Value) (A B : Nat → Int) (m l : Nat) (hp : Nat → Int) (hE : PairsAt w ev m A B) (hH : IntsAt w hv l hp) (hm : m ≤ 1000000) :
    Calls Try.prog 15 #[.int .i64 n, ev, hv] w (LowFn w n A B m l hp) := by
  obtain ⟨ea, eb, eo, ecap, rfl, hea, hec⟩ := hE
  have hE' : PairsAt w (.slice ea m ecap) m A B := ⟨ea, eb, eo, ecap, rfl, hea, hec⟩
  have hH' := hH
  obtain ⟨a, b, o, cap, rfl, ha, hc⟩ := hH
  have hl1 := list1 hH' 25
  have hk0 : Kept w (w.alloc (.cells #[.slice a l cap] 25)) := (Kept.refl w).alloc _
  clear hec hc hea ha
  go_enter Try.func15, Try.ntmps15
  go_wp2_with fail
  refine (yardOf_any _ n _ _ A B m (-1000) 1 (fun _ => l) (fun _ => hp) (hE'.kept hk0) hl1 hm (by omega)).mono ?_
  rintro e w1 ⟨hk1, hpost⟩
  have hK1 := hk0.trans hk1
  cases hg : goodB n A B m
  · rw [hg, if_neg (by simp)] at hpost
    have hcode : Hid (code1 n A B m (-1000) l hp = 1) := code1_arg hg
    subst hpost
    clear hg hl1
    unfold zeroYard
    go_wp2_with fail
    go_ret2
    exact ⟨hK1.alloc _, (fun h => by rw [hcode.out] at h; cases h), (fun _ => by rw [hcode.out]; rfl)⟩
  · rw [hg, if_pos rfl] at hpost
    obtain ⟨ok, ⟨p, hpk⟩, hm20, _⟩ := good_ok hg
    have hcb := good_count hg
    obtain ⟨N, rfl⟩ : ∃ N : Nat, n = (N : Int) := ⟨n.toNat, by have := ok.n2; omega⟩
    unfold LowFn
    simp only [Int.toNat_natCast] at ok hpk hpost hcb ⊢
    cases hh : holdsB N (-1000) l hp
    · rw [if_neg (by simp [allN, hh])] at hpost
      have hcode : Hid (code1 (N : Int) A B m (-1000) l hp = 2) := code1_form hg hh
      subst hpost
      clear hg hl1 hh hcb
      unfold zeroYard
      go_wp2_with fail
      go_ret2
      exact ⟨hK1.alloc _, (fun h => by rw [hcode.out] at h; cases h), (fun _ => by rw [hcode.out]; rfl)⟩
    · rw [if_pos (by simp [allN, hh])] at hpost
      have hcode : Hid (code1 (N : Int) A B m (-1000) l hp = 0) := code1_ok hg hh
      obtain ⟨bd, bj, br, rfl, hO⟩ := hpost
      obtain ⟨hl, hr⟩ := holds_range2 hh
      have hn2 := ok.n2
      have hn8 := ok.n8
      obtain ⟨hc1, hc2⟩ := hcb
      have hmore := moreN_bd hc1
      obtain ⟨y, hy, hyB⟩ := hpk.stab (D := degN A B m) (h := lackF N (degN A B m) (btwN A B m) hp) (K := 252039) ok (by omega) (fun v hv => by
        unfold lackF atV
        by_cases e : v = 0
        · rw [if_pos e]; omega
        · rw [if_neg e]; have := (hr (v - 1) (by omega)).1; have := ok.D20 (v - 1 + 1) (by omega); show topI (degN A B m) (v - 1) - hp (v - 1) + moreN _ ≤ 252039; unfold topI; omega)
      have HL := Lib.hid hl
      have HR := Lib.hid hr
      have hH1 : IntsAt w1 (.slice a l cap) (N - 1) hp := by have := hH'.kept hK1; rw [HL.out] at this ⊢; exact this
      obtain ⟨c, HC⟩ : ∃ c, Hid (c = countI N (degN A B m) (btwN A B m)) := ⟨_, rfl⟩
      unfold lackF at hy ⊢
      rw [← HC.out] at hc1 hc2 hmore hy ⊢
      clear hg hl1 hh hl hr
      unfold YardV
      go_wp2_with fail
      have hkA := hK1.alloc (.cells #[.int .i64 N, .int .i64 m, .slice (some ⟨bd, 0, none⟩) N N, .slice (some ⟨bj, 0, none⟩) N N] 78)
      have hYA := hO.yard.kept ((Kept.refl w1).alloc (.cells #[.int .i64 N, .int .i64 m, .slice (some ⟨bd, 0, none⟩) N N, .slice (some ⟨bj, 0, none⟩) N N] 78))
      have hHA := hH1.kept ((Kept.refl w1).alloc (.cells #[.int .i64 N, .int .i64 m, .slice (some ⟨bd, 0, none⟩) N N, .slice (some ⟨bj, 0, none⟩) N N] 78))
      obtain ⟨c0, c1, c2, c3⟩ := YBox.new w1 N m bd bj 78
      have hsw := Kept.size hK1
      obtain ⟨g, HGG⟩ : ∃ g, Hid (g = w1.heap.size) := ⟨_, rfl⟩
      rw [← HGG.out] at c0 c1 c2 c3 hsw ⊢
      generalize w1.alloc (.cells #[.int .i64 N, .int .i64 m, .slice (some ⟨bd, 0, none⟩) N N, .slice (some ⟨bj, 0, none⟩) N N] 78) = W at *
      have HYB : Hid (∀ v, v < N → y v ≤ 1700000000000000) := fun v hv => Int.le_trans (hyB v hv) (by decide)
      clear hyB
      go_wp2_with fail
      refine (superstable_any _ N m bd bj br (degN A B m) (btwN A B m) _ hp c y hYA ok hHA (fun i hi => by have := HR.out i hi; omega) HC.out.symm hc1 (by omega) hy HYB.out).mono ?_
      rintro e w2 ⟨r, f, x, rfl, hk2, hr0, hR, hodo, hf, hf0⟩
      go_wp2_with fail
      go_ret2
      have hKw : Kept w w2 := hkA.trans hk2
      have hWs := Kept.size hkA
      rw [HC.out] at hodo hf
      exact ⟨hKw, (fun _ => ⟨r, f, x, rfl, by omega, hR, hodo, hf, hf0⟩), (fun h => absurd hcode.out h)⟩
end Go.Proofs.Ytlnpipkhofhlnaa
