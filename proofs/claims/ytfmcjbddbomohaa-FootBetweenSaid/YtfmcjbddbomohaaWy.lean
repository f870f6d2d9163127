/-
  Walk, as the package exports it: the first walk with the least greatest distance.
-/
import Derived.Test.YtfmcjbddbomohaaWk
namespace Go.Proofs.Ytfmcjbddbomohaa
open Go.RowKit Go.Deep

def rstW (m : Nat) (X Y : Nat → Int) (n : Nat) (U V : Nat → Int) : Nat → Nat → Int := rstB X Y U V (fre m X Y n U V) m n
theorem warp_bey (w : World) (m n gw gl ba bb : Nat) (a b : Option Addr) (cap cap2 : Nat) (X Y U V : Nat → Int) (limit : Int) (hG : BeyAt w gw gl m n ba bb limit) (hB : BothAt w ba bb a m cap b n cap2) (h1 : PairsAt w (.slice a m cap) m X Y) (h2 : PairsAt w (.slice b n cap2) n U V) (r1 : InR m X Y) (r2 : InR n U V) (hm : 1 ≤ m) (hn : 1 ≤ n) (hm2 : m ≤ 900) (hn2 : n ≤ 900) :
    Calls Try.prog 55 #[WalksV m n (FarB gw gl)] w (WarpPost w m n (rstB X Y U V limit m n)) := by
  refine warpB_any w m n gw gl _ (fun W hk => leastB_any W m n gw gl (F01 X Y U V limit) _ rfl (fun W2 hk2 i j hi hj => ?_) (fun i j hi hj => ?_) (fun i j hi hj => ?_) hm hn (by omega) (by omega)) hm hn (by omega) (by omega)
  · have hk3 := hk.trans hk2
    exact beyond1_any W2 m n i j gw gl ba bb a b cap cap2 X Y U V limit (hG.kept hk3) ⟨hk3.cellSome hB.1, hk3.cellSome hB.2⟩ (h1.kept hk3) (h2.kept hk3) r1 r2 hi hj
  · have h := F01_bd X Y U V limit i j
    omega
  · have h := rstB_bd (X := X) (Y := Y) (U := U) (V := V) (limit := limit) hi hj
    omega
def WalkFn (w : World) (m : Nat) (X Y : Nat → Int) (n : Nat) (U V : Nat → Int) (e : Ending) (w' : World) : Prop :=
  Kept w w' ∧ (code2 0 m X Y n U V = 0 → ∃ v, e = .returned (.tuple #[v, .int .i64 0]) ∧ WalkAt w' m n (rstW m X Y n U V) v) ∧ (code2 0 m X Y n U V ≠ 0 → e = .returned (.tuple #[.slice none 0 0, .int .i64 (code2 0 m X Y n U V)]))
set_option maxRecDepth 100000 in
set_option maxHeartbeats 4000000 in
theorem Walk_any (w : World) (m n : Nat) (av bv : Value) (X Y U V : Nat → Int) (hA : PairsAt w av m X Y) (hB : PairsAt w bv n U V) (hm2 : m ≤ 1000000) (hn2 : n ≤ 1000000) :
    Calls Try.prog 24 #[av, bv] w (WalkFn w m X Y n U V) := by
  have hA' := hA
  have hB' := hB
  obtain ⟨a1, b1, o1, cap1, rfl, ha1, hc1⟩ := hA
  obtain ⟨a2, b2, o2, cap2, rfl, ha2, hc2⟩ := hB
  have hO := outs2 hA' hB' 22
  have hk0 : Kept w (w.alloc (.cells #[.slice a1 m cap1, .slice a2 n cap2] 22)) := (Kept.refl w).alloc _
  clear hc1 hc2 ha1 ha2
  go_enter Try.func24, Try.ntmps24
  go_wp2_with fail
  refine (check_any _ 0 _ 2 _ _ _ hO (by omega) (fun i _ => by show (if i = 0 then m else n) ≤ 1000000; split <;> omega)).mono ?_
  rw [checkC2]
  rintro e w1 ⟨rfl, hk1⟩
  have hK1 := hk0.trans hk1
  by_cases hc0 : code2 0 m X Y n U V = 0
  · obtain ⟨h1, h2, h3, h4, _⟩ := code2_ok hc0
    obtain ⟨r1, p1⟩ := formB_in h3
    obtain ⟨r2, p2⟩ := formB_in h4
    have HC0 := Lib.hid hc0
    rw [HC0.out]
    have hA1 := hA'.kept hK1
    have hB1 := hB'.kept hK1
    have HR1 := Lib.hid r1
    have HR2 := Lib.hid r2
    clear hc0 h3 h4 r1 r2
    go_wp2_with fail
    refine (between_any _ a1 a2 m cap1 n cap2).mono ?_
    rintro e w2 ⟨ba, bb, rfl, hk2, hBB⟩
    have hK2 := hK1.trans hk2
    have hA2 := hA1.kept hk2
    have hB2 := hB1.kept hk2
    obtain ⟨d0, d1, d2⟩ := box3 w2 (.int .i64 m) (.int .i64 n) (FarV ba bb) 89
    have hk3 : Kept w2 (w2.alloc (.cells #[.int .i64 m, .int .i64 n, FarV ba bb] 89)) := (Kept.refl w2).alloc _
    unfold FarV at d0 d1 d2 hk3
    have HBB := Lib.hid hBB
    clear hBB
    unfold WalksV FarV
    go_wp2_with fail
    obtain ⟨g, HG⟩ : ∃ g, Hid (g = w2.heap.size) := ⟨_, rfl⟩
    rw [← HG.out] at d0 d1 d2 ⊢
    generalize w2.alloc (.cells #[.int .i64 m, .int .i64 n, .func (.func 71) #[] #[.pointer (some ⟨ba, 0, none⟩), .pointer (some ⟨bb, 0, none⟩)]] 89) = W3 at *
    obtain ⟨ff, HF⟩ : ∃ ff, Hid (ff = fre m X Y n U V) := ⟨_, rfl⟩
    have FRE := Lib.hid (fun (W : World) (hk : Kept W3 W) => frechet_any W m n ba bb a1 a2 cap1 cap2 X Y U V ⟨(hk3.trans hk).cellSome HBB.out.1, (hk3.trans hk).cellSome HBB.out.2⟩ (hA2.kept (hk3.trans hk)) (hB2.kept (hk3.trans hk)) HR1.out HR2.out p1 p2 (by omega) (by omega))
    have BEY := Lib.hid (fun (W : World) => beyond_any W m n ba bb ff)
    have WRP := Lib.hid (fun (W : World) (gw gl : Nat) (hk : Kept W3 W) (hG : BeyAt W gw gl m n ba bb ff) => warp_bey W m n gw gl ba bb a1 a2 cap1 cap2 X Y U V ff hG ⟨(hk3.trans hk).cellSome HBB.out.1, (hk3.trans hk).cellSome HBB.out.2⟩ (hA2.kept (hk3.trans hk)) (hB2.kept (hk3.trans hk)) HR1.out HR2.out p1 p2 (by omega) (by omega))
    unfold WalksV FarV at FRE
    rw [← HF.out] at FRE
    unfold WalksV FarV at BEY
    unfold WalksV FarB at WRP
    go_region_held3 (fun w' => w'.cell? ⟨g, 0, none⟩ = some (.int .i64 m) ∧ w'.cell? ⟨g, 1, none⟩ = some (.int .i64 n) ∧ w'.cell? ⟨g, 2, none⟩ = some (.func (.func 71) #[] #[.pointer (some ⟨ba, 0, none⟩), .pointer (some ⟨bb, 0, none⟩)]) ∧ Kept W3 w')
      (exact keep3 d0 d1 d2 (by repeat (first | assumption | exact Kept.refl _ | apply Kept.drew | apply Kept.drewN | apply Kept.alloc | refine Kept.trans ?_ (by assumption))))
      (first | (go_at_call 53; refine (FRE.out _ (by repeat (first | assumption | exact Kept.refl _ | apply Kept.drew | apply Kept.drewN | apply Kept.alloc | refine Kept.trans ?_ (by assumption)))).mono ?_; rintro e w4 ⟨rfl, hk4⟩) | (go_at_call 54; refine (BEY.out _).mono ?_; rintro e w5 ⟨gw, gl, rfl, hk5, hGB⟩; unfold WalksV FarB) | (go_at_call 55; refine (WRP.out _ gw gl (by repeat (first | assumption | exact Kept.refl _ | apply Kept.drew | apply Kept.drewN | apply Kept.alloc | refine Kept.trans ?_ (by assumption))) (hGB.kept (by repeat (first | assumption | exact Kept.refl _ | apply Kept.drew | apply Kept.drewN | apply Kept.alloc | refine Kept.trans ?_ (by assumption))))).mono ?_; rintro e w6 ⟨t, ra, rcap, rfl, hP6, hk6, hE6⟩; have HP6 := Lib.hid hP6; have HE6 := Lib.hid hE6; clear hP6 hE6))
    all_goals
      have hK6 : Kept W3 w6 := (by repeat (first | assumption | exact Kept.refl _ | apply Kept.drew | apply Kept.drewN | apply Kept.alloc | refine Kept.trans ?_ (by assumption)))
      go_wp2_with fail
      go_ret2
      exact ⟨(hK2.trans hk3).trans hK6, (fun _ => ⟨_, rfl, t, ra, rcap, rfl, by unfold rstW; rw [← HF.out]; exact HP6.out, by unfold rstW; rw [← HF.out]; exact HE6.out⟩), (fun h => absurd HC0.out h)⟩
  · have HC0 := Lib.hid hc0
    obtain ⟨cc, HCC⟩ : ∃ cc, Hid (cc = code2 0 m X Y n U V) := ⟨_, rfl⟩
    rw [← HCC.out] at hc0 ⊢
    have c2 : (cc != 0) = true := by simpa using hc0
    clear hc0
    go_wp2_with fail
    go_ret2
    exact ⟨hK1, (fun h => absurd h HC0.out), (fun _ => by rw [← HCC.out]; rfl)⟩
end Go.Proofs.Ytfmcjbddbomohaa
