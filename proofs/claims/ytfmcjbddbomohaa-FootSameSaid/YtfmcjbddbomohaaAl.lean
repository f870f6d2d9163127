/-
  The laws' alike and back.
-/
import Derived.Test.YtfmcjbddbomohaaGd
import Derived.Test.YtfmcjbddbomohaaWx
import Derived.Test.YtfmcjbddbomohaaLv
namespace Go.Proofs.Ytfmcjbddbomohaa
open Go.RowKit Go.Deep

theorem Warp_good (w : World) (m n : Nat) (av bv : Value) (X Y U V : Nat → Int) (h : Two w m n av bv X Y U V) :
    Calls Try.prog 29 #[av, bv] w fun e w' => ∃ v, e = .returned (.tuple #[.int .i64 (rstS X Y U V m n 0 0), v, .int .i64 0]) ∧ WalkAt w' m n (rstS X Y U V m n) v ∧ Kept w w' := by
  refine (Warp_any w m n av bv X Y U V h.a h.b (by have := h.m2; omega) (by have := h.n2; omega)).mono ?_
  rintro e w' ⟨hk, hr, _⟩
  obtain ⟨v, h1, h2⟩ := hr (by rw [code2_good h.i1 h.i2 h.m1 h.n1 h.m2 h.n2]; rfl)
  exact ⟨v, h1, h2, hk⟩
theorem two_bd {w : World} {m n : Nat} {av bv : Value} {X Y U V : Nat → Int} (h : Two w m n av bv X Y U V) : (0 ≤ haus m X Y n U V ∧ haus m X Y n U V ≤ 8000000) ∧ (0 ≤ fre m X Y n U V ∧ fre m X Y n U V ≤ 8000000) ∧ (0 ≤ rstS X Y U V m n 0 0 ∧ rstS X Y U V m n 0 0 ≤ 480000000) := by
  have h1 := h.m1
  have h2 := h.n1
  have h3 := h.m2
  have h4 := h.n2
  have hs := rstS_bd h.i1 h.i2 (show 0 < m by omega) (show 0 < n by omega)
  exact ⟨haus_bd h.i1 h.i2 h1 h2, fre_bd h.i1 h.i2 h1 h2, by omega⟩
set_option maxRecDepth 100000 in
set_option maxHeartbeats 4000000 in
theorem alike_any (w : World) (m n m2 n2 : Nat) (av bv cv dv : Value) (X Y U V X2 Y2 U2 V2 : Nat → Int) (times : Int) (h1 : Two w m n av bv X Y U V) (h2 : Two w m2 n2 cv dv X2 Y2 U2 V2)
    (hh : haus m X Y n U V * times = haus m2 X2 Y2 n2 U2 V2) (hf : fre m X Y n U V * times = fre m2 X2 Y2 n2 U2 V2) (hs : rstS X Y U V m n 0 0 * times = rstS X2 Y2 U2 V2 m2 n2 0 0) :
    Calls Try.prog 41 #[av, bv, cv, dv, .int .i64 times] w (LivesPost w) := by
  have b2 := two_bd h2
  obtain ⟨p, HP⟩ : ∃ p, Hid (p = haus m X Y n U V) := ⟨_, rfl⟩
  obtain ⟨q, HQ⟩ : ∃ q, Hid (q = fre m X Y n U V) := ⟨_, rfl⟩
  obtain ⟨r, HR⟩ : ∃ r, Hid (r = rstS X Y U V m n 0 0) := ⟨_, rfl⟩
  obtain ⟨p2, HP2⟩ : ∃ p, Hid (p = haus m2 X2 Y2 n2 U2 V2) := ⟨_, rfl⟩
  obtain ⟨q2, HQ2⟩ : ∃ q, Hid (q = fre m2 X2 Y2 n2 U2 V2) := ⟨_, rfl⟩
  obtain ⟨r2, HR2⟩ : ∃ r, Hid (r = rstS X2 Y2 U2 V2 m2 n2 0 0) := ⟨_, rfl⟩
  rw [← HP.out, ← HP2.out] at hh
  rw [← HQ.out, ← HQ2.out] at hf
  rw [← HR.out, ← HR2.out] at hs
  rw [← HP2.out, ← HQ2.out, ← HR2.out] at b2
  have w1 : IntKind.i64.wrap (p * times) = p2 := by rw [hh]; exact IntWalk.i64_in _ (by omega)
  have w2 : IntKind.i64.wrap (q * times) = q2 := by rw [hf]; exact IntWalk.i64_in _ (by omega)
  have w3 : IntKind.i64.wrap (r * times) = r2 := by rw [hs]; exact IntWalk.i64_in _ (by omega)
  clear hh hf hs b2
  go_enter Try.func41, Try.ntmps41
  go_wp2_with fail
  refine (Hausdorff_good _ m n _ _ X Y U V h1).mono ?_
  rw [← HP.out]
  rintro e w1' ⟨rfl, hk1⟩
  go_wp2_with fail
  refine (Hausdorff_good _ m2 n2 _ _ X2 Y2 U2 V2 (h2.kept hk1)).mono ?_
  rw [← HP2.out]
  rintro e w2' ⟨rfl, hk2⟩
  have hK2 := hk1.trans hk2
  clear hk1 hk2
  go_wp2_with fail
  refine (Frechet_good _ m n _ _ X Y U V (h1.kept hK2)).mono ?_
  rw [← HQ.out]
  rintro e w3' ⟨rfl, hk3⟩
  have hK3 := hK2.trans hk3
  clear hK2 hk3
  go_wp2_with fail
  refine (Frechet_good _ m2 n2 _ _ X2 Y2 U2 V2 (h2.kept hK3)).mono ?_
  rw [← HQ2.out]
  rintro e w4' ⟨rfl, hk4⟩
  have hK4 := hK3.trans hk4
  clear hK3 hk4
  go_wp2_with fail
  refine (Warp_good _ m n _ _ X Y U V (h1.kept hK4)).mono ?_
  rw [← HR.out]
  rintro e w5' ⟨v5, rfl, _, hk5⟩
  have hK5 := hK4.trans hk5
  clear hK4 hk5
  go_wp2_with fail
  refine (Warp_good _ m2 n2 _ _ X2 Y2 U2 V2 (h2.kept hK5)).mono ?_
  rw [← HR2.out]
  rintro e w6' ⟨v6, rfl, _, hk6⟩
  have hK6 := hK5.trans hk6
  clear hK5 hk6
  go_wp2_with fail
  go_ret
  exact ⟨rfl, hK6⟩
/-- read from the other end -/
def revF (n : Nat) (X : Nat → Int) : Nat → Int := fun i => X (n - 1 - i)
set_option maxRecDepth 100000 in
set_option maxHeartbeats 4000000 in
theorem back_any (w : World) (a : Option Addr) (n cap : Nat) (X Y : Nat → Int) (hA : PairsAt w (.slice a n cap) n X Y) (hn1 : 1 ≤ n) (hn : n ≤ 1000) :
    Calls Try.prog 42 #[.slice a n cap] w (OwnPost w n (revF n X) (revF n Y)) := by
  obtain ⟨_, b1, o1, _, e1, ha1, hc1⟩ := hA
  cases e1
  obtain rfl := ha1 (by omega)
  obtain ⟨i1, hi0, hz0, hz1, hz2⟩ := info_parts Try.infoPoint
  have HC := Lib.hid hc1
  have hO0 := own_zeroT w w.heap.size 78 2 (Nat.le_refl _)
  have hO1 : (w.alloc (.cells #[] 78)).ownsRow w.heap.size 78 2 (.slice (some ⟨w.heap.size, 0, none⟩) 0 0) 0 (pairs (revF n X) (revF n Y) 0) := hO0
  have hK0 : Kept w (w.alloc (.cells #[] 78)) := (Kept.refl w).alloc _
  clear hc1 ha1 hO0
  go_enter Try.func42, Try.ntmps42
  go_wp2_with fail
  generalize w.alloc (.cells #[] 78) = W0 at *
  go_loopg [3, 4] n (fun g s3 s4 wr => ∃ t : Nat, t ≤ n ∧ g = n - t ∧ s4 = .int .i64 ((n : Int) - 1 - t) ∧ Kept w wr ∧ wr.ownsRow w.heap.size 78 2 s3 t (pairs (revF n X) (revF n Y) t))
  case atStart => exact ⟨0, by omega, by omega, by go_num, hK0, hO1⟩
  case round =>
    obtain ⟨t, htn, rfl, rfl, hK, hO⟩ := hrel
    clear hK0 hO1
    obtain ⟨oa, ocap, rfl, _⟩ := own_form hO
    by_cases hlt : t < n
    · obtain ⟨c, hc⟩ : ∃ c, c = n - 1 - t := ⟨_, rfl⟩
      have hcn : c < n := by omega
      have ec : (n : Int) - 1 - (t : Int) = (c : Int) := by omega
      obtain ⟨c0, c1⟩ := HC.out c hcn
      have t0 := hK.cellSome c0
      have t1 := hK.cellSome c1
      have hrx : Hid (revF n X t = X c) := by show X (n - 1 - t) = X c; rw [hc]
      have hry : Hid (revF n Y t = Y c) := by show Y (n - 1 - t) = Y c; rw [hc]
      obtain ⟨x, HXX⟩ : ∃ x, Hid (x = X c) := ⟨_, rfl⟩
      obtain ⟨y, HYY⟩ : ∃ y, Hid (y = Y c) := ⟨_, rfl⟩
      rw [← HXX.out] at t0 hrx
      rw [← HYY.out] at t1 hry
      have s1 : (c : Int) < (n : Int) := by omega
      have s2 : (0 : Int) ≤ (c : Int) := by omega
      have s3 : IntKind.i64.wrap ((c : Int) - 1) = (c : Int) - 1 := IntWalk.i64_in _ (by omega)
      have ec2 : (c : Int) - 1 = (n : Int) - 1 - ((t + 1 : Nat) : Int) := by omega
      have EC2 := Lib.hid ec2
      rw [ec]
      have hb := box2 wr (.int .i64 x) (.int .i64 y) 78
      have hnews : ∀ (j : Nat) u, [Value.int .i64 x, .int .i64 y][j]? = some u → (wr.alloc (.cells #[.int .i64 x, .int .i64 y] 78)).cell? ((⟨wr.heap.size, 0, none⟩ : Addr).add j) = some u := fun j u h => by
        have : j = 0 ∨ j = 1 := by
          rcases Nat.lt_or_ge j 2 with e | e
          · omega
          · rw [List.getElem?_eq_none (by simp; omega)] at h; cases h
        rcases this with rfl | rfl
        · cases h; rw [add_at]; exact hb.1
        · cases h; rw [add_at]; exact hb.2
      have HN := Lib.hid hnews
      have HO := Lib.hid (hO.alloc (.cells #[.int .i64 x, .int .i64 y] 78))
      have hsz : w.heap.size ≤ (wr.alloc (.cells #[.int .i64 x, .int .i64 y] 78)).heap.size := Kept.size (hK.alloc _)
      have hcap : t + 1 ≤ 100000 := by omega
      clear c0 c1 hnews hb hO ec ec2 hc
      go_wp2_with (first | (at_builtin; refine wpList_append_own _ rfl _ _ 22 rfl w.heap.size 78 i1 (.agg #[.int .i64 0, .int .i64 0]) 2 16 Try.underlying22 hi0 hz0 hz1 hz2 rfl (by decide) _ _ _ rfl HO.out ⟨wr.heap.size, 0, none⟩ 1 1 [.int .i64 x, .int .i64 y] rfl rfl HN.out (by simp [Value.oneCell']) ?c3 ?c4 hsz ?_))
      case c3 => unfold maxLen; omega
      case c4 => omega
      intro v' w2 hO3 hgr _
      have hK2 : Kept w w2 := (hK.alloc _).step (grew_X hgr HO.out) (fun i hi => hi)
      have hO4 : w2.ownsRow w.heap.size 78 2 v' (t + 1) (pairs (revF n X) (revF n Y) (t + 1)) := by rw [pairs_snoc, hrx.out, hry.out]; exact hO3
      clear HO HN hgr hO3 hK t0 t1
      go_wp2_with fail
      go_roundg (n - (t + 1))
      case measure => omega
      case rel => exact ⟨t + 1, by omega, rfl, by rw [EC2.out], hK2, hO4⟩
    · obtain rfl : t = n := by omega
      have e1 : (t : Int) - 1 - (t : Int) = -1 := by omega
      rw [e1]
      go_wp2_with fail
      go_ret
      exact ⟨_, rfl, hO, hK⟩
end Go.Proofs.Ytfmcjbddbomohaa
