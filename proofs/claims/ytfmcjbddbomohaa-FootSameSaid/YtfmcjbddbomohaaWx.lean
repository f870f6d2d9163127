/-
  Warp, as the package exports it; the reference's Walk for sums; are two walks the same?
-/
import Derived.Test.YtfmcjbddbomohaaWp
import Derived.Test.YtfmcjbddbomohaaPk
import Derived.Test.YtfmcjbddbomohaaRw
import Derived.Test.YtfmcjbddbomohaaC
namespace Go.Proofs.Ytfmcjbddbomohaa
open Go.RowKit Go.Deep

def WalkAt (w : World) (m n : Nat) (R : Nat → Nat → Int) (v : Value) : Prop := ∃ t a cap, v = .slice a (t + 1) cap ∧ PairsAt w (.slice a (t + 1) cap) (t + 1) (pA m n R) (pB m n R) ∧ EndsAt m n R t
theorem WalkAt.kept {w w' : World} {m n : Nat} {R : Nat → Nat → Int} {v : Value} (h : WalkAt w m n R v) (k : Kept w w') : WalkAt w' m n R v := by
  obtain ⟨t, a, cap, e, h1, h2⟩ := h
  exact ⟨t, a, cap, e, h1.kept k, h2⟩
theorem warp_both (w : World) (m n ba bb : Nat) (a b : Option Addr) (cap cap2 : Nat) (X Y U V : Nat → Int) (hB : BothAt w ba bb a m cap b n cap2) (h1 : PairsAt w (.slice a m cap) m X Y) (h2 : PairsAt w (.slice b n cap2) n U V) (r1 : InR m X Y) (r2 : InR n U V) (hm : 1 ≤ m) (hn : 1 ≤ n) (hm2 : m ≤ 900) (hn2 : n ≤ 900) :
    Calls Try.prog 55 #[WalksV m n (FarV ba bb)] w (WarpPost w m n (rstS X Y U V m n)) := by
  obtain ⟨_, b1, o1, _, e1, ha1, hc1⟩ := h1
  cases e1
  obtain rfl := ha1 (by omega)
  obtain ⟨_, b2, o2, _, e2, ha2, hc2⟩ := h2
  cases e2
  obtain rfl := ha2 (by omega)
  refine warpV_any w m n ba bb _ (fun W hk => leastS_any W m n ba bb (distF X Y U V) _ rfl (fun W2 hk2 i j hi hj => ?_) (fun i j hi hj => dist_bd (r1 i hi).1 (r1 i hi).2 (r2 j hj).1 (r2 j hj).2) (fun i j hi hj => ?_) hm hn (by omega) (by omega)) hm hn (by omega) (by omega)
  · have hk3 := hk.trans hk2
    exact between1_any W2 m n i j ba bb b1 o1 cap b2 o2 cap2 X Y U V (hk3.cellSome hB.1) (hk3.cellSome hB.2) hi hj (hk3.cellSome (hc1 i hi).1) (hk3.cellSome (hc1 i hi).2) (hk3.cellSome (hc2 j hj).1) (hk3.cellSome (hc2 j hj).2) (r1 i hi).1 (r1 i hi).2 (r2 j hj).1 (r2 j hj).2
  · have h := rstS_bd r1 r2 hi hj
    omega
def WarpFn (w : World) (m : Nat) (X Y : Nat → Int) (n : Nat) (U V : Nat → Int) (e : Ending) (w' : World) : Prop :=
  Kept w w' ∧ (code2 0 m X Y n U V = 0 → ∃ v, e = .returned (.tuple #[.int .i64 (rstS X Y U V m n 0 0), v, .int .i64 0]) ∧ WalkAt w' m n (rstS X Y U V m n) v) ∧ (code2 0 m X Y n U V ≠ 0 → e = .returned (.tuple #[.int .i64 0, .slice none 0 0, .int .i64 (code2 0 m X Y n U V)]))
set_option maxRecDepth 100000 in
set_option maxHeartbeats 2000000 in
theorem Warp_any (w : World) (m n : Nat) (av bv : Value) (X Y U V : Nat → Int) (hA : PairsAt w av m X Y) (hB : PairsAt w bv n U V) (hm2 : m ≤ 1000000) (hn2 : n ≤ 1000000) :
    Calls Try.prog 29 #[av, bv] w (WarpFn w m X Y n U V) := by
  have hA' := hA
  have hB' := hB
  obtain ⟨a1, b1, o1, cap1, rfl, ha1, hc1⟩ := hA
  obtain ⟨a2, b2, o2, cap2, rfl, ha2, hc2⟩ := hB
  have hO := outs2 hA' hB' 22
  have hk0 : Kept w (w.alloc (.cells #[.slice a1 m cap1, .slice a2 n cap2] 22)) := (Kept.refl w).alloc _
  clear hc1 hc2 ha1 ha2
  go_enter Try.func29, Try.ntmps29
  go_wp2_with fail
  refine (check_any _ 0 _ 2 _ _ _ hO (by omega) (fun i _ => by show (if i = 0 then m else n) ≤ 1000000; split <;> omega)).mono ?_
  rw [checkC2]
  rintro e w1 ⟨rfl, hk1⟩
  have hK1 := hk0.trans hk1
  by_cases hc0 : code2 0 m X Y n U V = 0
  · obtain ⟨h1, h2, h3, h4, _⟩ := code2_ok hc0
    obtain ⟨r1, p1⟩ := formB_in h3
    obtain ⟨r2, p2⟩ := formB_in h4
    have HC0 := Lib.hid hc0
    rw [HC0.out]
    have hA1 := hA'.kept hK1
    have hB1 := hB'.kept hK1
    have HR1 := Lib.hid r1
    have HR2 := Lib.hid r2
    clear hc0 h3 h4 r1 r2
    go_wp2_with fail
    refine (between_any _ a1 a2 m cap1 n cap2).mono ?_
    rintro e w2 ⟨ba, bb, rfl, hk2, hBB⟩
    have hA2 := hA1.kept hk2
    have hB2 := hB1.kept hk2
    have HBB := Lib.hid hBB
    clear hBB
    unfold WalksV FarV
    go_wp2_with fail
    have HF := warp_both _ m n ba bb a1 a2 cap1 cap2 X Y U V HBB.out hA2 hB2 HR1.out HR2.out p1 p2 (by omega) (by omega)
    unfold WalksV FarV at HF
    refine HF.mono ?_
    rintro e w3 ⟨t, ra, rcap, rfl, hP3, hk3, hE3⟩
    have HP3 := Lib.hid hP3
    have HE3 := Lib.hid hE3
    obtain ⟨s0, HS⟩ : ∃ s0, Hid (s0 = rstS X Y U V m n 0 0) := ⟨_, rfl⟩
    rw [← HS.out]
    clear HF hP3 hE3
    go_wp2_with fail
    go_ret3
    exact ⟨(hK1.trans hk2).trans hk3, (fun _ => ⟨_, by rw [← HS.out]; rfl, t, ra, rcap, rfl, HP3.out, HE3.out⟩), (fun h => absurd HC0.out h)⟩
  · have HC0 := Lib.hid hc0
    obtain ⟨cc, HCC⟩ : ∃ cc, Hid (cc = code2 0 m X Y n U V) := ⟨_, rfl⟩
    rw [← HCC.out] at hc0 ⊢
    have c2 : (cc != 0) = true := by simpa using hc0
    clear hc0
    go_wp2_with fail
    go_ret3
    exact ⟨hK1, (fun h => absurd h HC0.out), (fun _ => by rw [← HCC.out]; rfl)⟩
theorem rwalk_sum (w : World) (m n : Nat) (a1 a2 : Option Addr) (cap1 cap2 : Nat) (X Y U V : Nat → Int) (hA : PairsAt w (.slice a1 m cap1) m X Y) (hB : PairsAt w (.slice a2 n cap2) n U V) (h1 : InR m X Y) (h2 : InR n U V) (hm : 1 ≤ m) (hn : 1 ≤ n) (hm2 : m ≤ 900) (hn2 : n ≤ 900) :
    Calls Try.prog 27 #[.slice a1 m cap1, .slice a2 n cap2, .bool true] w fun e w' => ∃ v, e = .returned v ∧ WalkAt w' m n (rstS X Y U V m n) v ∧ Kept w w' := by
  refine (rwalkS_any w m n a1 a2 cap1 cap2 X Y U V (rstS X Y U V m n) (rstS X Y U V m n) (fun t => rstS X Y U V m n (pth m n (rstS X Y U V m n) t).1 (pth m n (rstS X Y U V m n) t).2) hA hB h1 h2 hm hn hm2 hn2 (Rest_sum w m n a1 a2 cap1 cap2 X Y U V hA hB h1 h2 hm hn hm2 hn2) rfl (fun t ht => sum_step hm hn ht) (fun t ht => ?_) (fun t ht => ?_)).mono ?_
  · have hin := pth_in (L := rstS X Y U V m n) hm hn t ht
    have h := rstS_bd h1 h2 hin.1 hin.2.1
    omega
  · have hin := pth_in (L := rstS X Y U V m n) hm hn t (fun u hu => ht u (by omega))
    obtain ⟨c, hc, hcc, hlt⟩ := nxt_pick (L := rstS X Y U V m n) hin.1 hin.2.1 (ht t (Nat.le_refl _))
    refine ⟨c, hc, hcc, by simp, fun d hd h3 h4 => ?_⟩
    have h5 := hlt d hd h3 h4
    have h6 : rstS X Y U V m n (nxt m n (rstS X Y U V m n) (pth m n (rstS X Y U V m n) t).1 (pth m n (rstS X Y U V m n) t).2).1 (nxt m n (rstS X Y U V m n) (pth m n (rstS X Y U V m n) t).1 (pth m n (rstS X Y U V m n) t).2).2 = rstS X Y U V m n (pth m n (rstS X Y U V m n) (t + 1)).1 (pth m n (rstS X Y U V m n) (t + 1)).2 := rfl
    rw [h6] at h5
    simp only [beq_eq_false_iff_ne, ne_eq]
    omega
  · rintro e w' ⟨t, a, cap, rfl, h3, h4, h5⟩
    exact ⟨_, rfl, ⟨t, a, cap, rfl, h3, h5⟩, h4⟩
theorem neq_noI (a b : Int) (w : World) : (binOp .neq 98 (.agg #[.int .i64 a, .int .i64 b]) (.agg #[.int .i64 a, .int .i64 b])).run Try.prog w = .ok (.bool false) w := by
  go_simp
set_option maxRecDepth 100000 in
set_option maxHeartbeats 1000000 in
theorem samePairs_any (w : World) (va vb : Value) (n : Nat) (A B : Nat → Int) (ha : PairsAt w va n A B) (hb : PairsAt w vb n A B) (hn : n ≤ 1000000) :
    Calls Try.prog 26 #[va, vb] w fun e w' => e = .returned (.bool true) ∧ Kept w w' := by
  obtain ⟨a1, b1, o1, cap1, rfl, ha1, hc1⟩ := ha
  obtain ⟨a2, b2, o2, cap2, rfl, ha2, hc2⟩ := hb
  have HC1 := Lib.hid hc1
  have HC2 := Lib.hid hc2
  clear hc1 hc2
  go_enter Try.func26, Try.ntmps26
  go_wp2_with fail
  go_loopg [5] n (fun g s5 wr => ∃ k : Nat, k ≤ n ∧ g = n - k ∧ s5 = .int .i64 k ∧ Kept w wr)
  case atStart => exact ⟨0, Nat.zero_le _, rfl, rfl, Kept.refl _⟩
  case round =>
    obtain ⟨k, hk, rfl, rfl, hK⟩ := hrel
    by_cases hlt : k < n
    · obtain rfl := ha1 (by omega)
      obtain rfl := ha2 (by omega)
      obtain ⟨c0, c1⟩ := HC1.out k hlt
      obtain ⟨c2, c3⟩ := HC2.out k hlt
      have t0 := hK.cellSome c0
      have t1 := hK.cellSome c1
      have t2 := hK.cellSome c2
      have t3 := hK.cellSome c3
      have hne := neq_noI (A k) (B k)
      have s1 : (k : Int) < n := by omega
      have s2 : (0 : Int) ≤ k := by omega
      clear c0 c1 c2 c3
      go_wp2_with fail
      go_quiet (fail)
      go_wp2_with fail
      go_roundg (n - (k + 1))
      case measure => omega
      case rel => exact ⟨k + 1, by omega, rfl, by go_num, (by repeat (first | assumption | exact Kept.refl _ | apply Kept.drew | apply Kept.drewN | apply Kept.alloc | refine Kept.trans ?_ (by assumption)))⟩
    · obtain rfl : k = n := by omega
      go_wp2_with fail
      go_ret
      exact ⟨rfl, hK⟩
theorem sameWalks (w : World) (m n : Nat) (R : Nat → Nat → Int) (va vb : Value) (ha : WalkAt w m n R va) (hb : WalkAt w m n R vb) (hb2 : ∀ t, EndsAt m n R t → t ≤ 900000) :
    Calls Try.prog 26 #[va, vb] w fun e w' => e = .returned (.bool true) ∧ Kept w w' := by
  obtain ⟨t, a, cap, rfl, h1, h2⟩ := ha
  obtain ⟨u, b, cap2, rfl, h3, h4⟩ := hb
  obtain rfl := ends_unique h2 h4
  exact samePairs_any w _ _ (t + 1) _ _ h1 h3 (by have := hb2 t h2; omega)
theorem ends_le {m n : Nat} {R : Nat → Nat → Int} {t : Nat} (hm : 1 ≤ m) (hn : 1 ≤ n) (h : EndsAt m n R t) : t ≤ m + n := by
  have h1 := pth_in (L := R) hm hn t h.2
  omega
end Go.Proofs.Ytfmcjbddbomohaa
