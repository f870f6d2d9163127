/-
  Within, as the package exports it; an outline that begins at another point.
-/
import Derived.Test.YtomnjcjipdnnfaaI
import Derived.Laws.AppendOwnNone
import Derived.Laws.OwnMore
namespace Go.Proofs.Ytomnjcjipdnnfaa
open Go.RowKit Go.Deep

def WithinFn (w : World) (m : Nat) (X Y : Nat → Int) (n : Nat) (U V : Nat → Int) (limit : Int) (e : Ending) (w' : World) : Prop :=
  Kept w w' ∧ (code2 limit m X Y n U V = 0 → e = .returned (.tuple #[.bool (decide (fre m X Y n U V ≤ limit)), .int .i64 0])) ∧ (code2 limit m X Y n U V ≠ 0 → e = .returned (.tuple #[.bool false, .int .i64 (code2 limit m X Y n U V)]))
set_option maxRecDepth 100000 in
set_option maxHeartbeats 2000000 in
theorem Within_any (w : World) (m n : Nat) (av bv : Value) (X Y U V : Nat → Int) (limit : Int) (hA : PairsAt w av m X Y) (hB : PairsAt w bv n U V) (hm2 : m ≤ 1000000) (hn2 : n ≤ 1000000) :
    Calls Try.prog 28 #[av, bv, .int .i64 limit] w (WithinFn w m X Y n U V limit) := by
  have hA' := hA
  have hB' := hB
  obtain ⟨a1, b1, o1, cap1, rfl, ha1, hc1⟩ := hA
  obtain ⟨a2, b2, o2, cap2, rfl, ha2, hc2⟩ := hB
  have hO := outs2 hA' hB' 22
  have hk0 : Kept w (w.alloc (.cells #[.slice a1 m cap1, .slice a2 n cap2] 22)) := (Kept.refl w).alloc _
  clear hc1 hc2 ha1 ha2
  go_enter Try.func28, Try.ntmps28
  go_wp2_with fail
  refine (check_any _ limit _ 2 _ _ _ hO (by omega) (fun i _ => by show (if i = 0 then m else n) ≤ 1000000; split <;> omega)).mono ?_
  rw [checkC2]
  rintro e w1 ⟨rfl, hk1⟩
  have hK1 := hk0.trans hk1
  by_cases hc0 : code2 limit m X Y n U V = 0
  · obtain ⟨h1, h2, h3, h4, _⟩ := code2_ok hc0
    obtain ⟨r1, p1⟩ := formB_in h3
    obtain ⟨r2, p2⟩ := formB_in h4
    have HC0 := Lib.hid hc0
    rw [HC0.out]
    have hA1 := hA'.kept hK1
    have hB1 := hB'.kept hK1
    have HR1 := Lib.hid r1
    have HR2 := Lib.hid r2
    clear hc0 h3 h4 r1 r2
    go_wp2_with fail
    refine (between_any _ a1 a2 m cap1 n cap2).mono ?_
    rintro e w2 ⟨ba, bb, rfl, hk2, hBB⟩
    have hA2 := hA1.kept hk2
    have hB2 := hB1.kept hk2
    have HBB := Lib.hid hBB
    clear hBB
    unfold WalksV FarV
    go_wp2_with fail
    have HF := frechet_any _ m n ba bb a1 a2 cap1 cap2 X Y U V HBB.out hA2 hB2 HR1.out HR2.out p1 p2 (by omega) (by omega)
    unfold WalksV FarV at HF
    refine HF.mono ?_
    rintro e w3 ⟨rfl, hk3⟩
    clear HF
    obtain ⟨d, HD⟩ : ∃ d, Hid (d = fre m X Y n U V) := ⟨_, rfl⟩
    rw [← HD.out]
    go_wp2_with fail
    go_ret2
    exact ⟨(hK1.trans hk2).trans hk3, (fun _ => by rw [← HD.out]; rfl), (fun h => absurd HC0.out h)⟩
  · have HC0 := Lib.hid hc0
    obtain ⟨cc, HCC⟩ : ∃ cc, Hid (cc = code2 limit m X Y n U V) := ⟨_, rfl⟩
    rw [← HCC.out] at hc0 ⊢
    have c2 : (cc != 0) = true := by simpa using hc0
    clear hc0
    go_wp2_with fail
    go_ret2
    exact ⟨hK1, (fun h => absurd h HC0.out), (fun _ => by rw [← HCC.out]; rfl)⟩
end Go.Proofs.Ytomnjcjipdnnfaa
