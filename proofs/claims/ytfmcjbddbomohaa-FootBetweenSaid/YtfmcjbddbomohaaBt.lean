/-
  Hausdorff's distance, Frechet's, and the least sum in their order; and the law FootBetween: its walk.
-/
import Derived.Test.YtfmcjbddbomohaaAg
import Derived.Test.YtfmcjbddbomohaaWy
namespace Go.Proofs.Ytfmcjbddbomohaa
open Go.RowKit Go.Deep

theorem IsWalk.hit {m n T : Nat} {a b : Nat → Nat} (h : IsWalk m n T a b) : ∀ t, t ≤ T → ∀ i, i ≤ a t → ∃ u, u ≤ t ∧ a u = i := by
  intro t
  induction t with
  | zero => intro _ i hi; exact ⟨0, Nat.le_refl _, by have := h.a0; omega⟩
  | succ t ih =>
    intro ht i hi
    have h1 := h.st t (by omega)
    by_cases e : i = a (t + 1)
    · exact ⟨t + 1, Nat.le_refl _, e.symm⟩
    · obtain ⟨u, hu, hu2⟩ := ih (by omega) i (by omega)
      exact ⟨u, by omega, hu2⟩
theorem haus_fre {X Y U V : Nat → Int} {m n : Nat} (hm : 1 ≤ m) (hn : 1 ≤ n) (h1 : InR m X Y) (h2 : InR n U V) : haus m X Y n U V ≤ fre m X Y n U V := by
  obtain ⟨T, hT⟩ := ends_exist (rst max (distF X Y U V) m n) hm hn
  have hW := pathW hm hn hT
  have hp := pathM hm hn hT
  refine (haus_le hm hn (fre_bd h1 h2 hm hn).1).2 ⟨fun i hi => ?_, fun j hj => ?_⟩
  · obtain ⟨u, hu, e⟩ := hW.hit T (Nat.le_refl _) i (by have := hW.aT; omega)
    refine ⟨_, hW.bn u hu, ?_⟩
    have := hp u hu
    rw [← e]; exact this
  · obtain ⟨u, hu, e⟩ := hW.swap.hit T (Nat.le_refl _) j (by have := hW.bT; omega)
    refine ⟨_, hW.am u hu, ?_⟩
    have := hp u hu
    rw [dist_comm, ← e]; exact this
theorem le_cumS {G : Nat → Int} {k : Nat} (h : ∀ t, t < k → 0 ≤ G t) : 0 ≤ cumS G k ∧ ∀ t, t < k → G t ≤ cumS G k := by
  induction k with
  | zero => exact ⟨Int.le_refl _, fun t ht => absurd ht (by omega)⟩
  | succ k ih =>
    obtain ⟨h1, h2⟩ := ih (fun t ht => h t (by omega))
    have h3 := h k (by omega)
    have e : cumS G (k + 1) = cumS G k + G k := rfl
    refine ⟨by omega, fun t ht => ?_⟩
    by_cases e2 : t = k
    · subst e2; omega
    · have := h2 t (by omega); omega
theorem fre_sum {X Y U V : Nat → Int} {m n : Nat} (hm : 1 ≤ m) (hn : 1 ≤ n) (h1 : InR m X Y) (h2 : InR n U V) : fre m X Y n U V ≤ rstS X Y U V m n 0 0 := by
  obtain ⟨T, hT⟩ := ends_exist (rst addI (distF X Y U V) m n) hm hn
  have hW := pathW hm hn hT
  have hs := pathS hm hn hT
  have hg := le_cumS (G := fun t => distF X Y U V (pth m n (rst addI (distF X Y U V) m n) t).1 (pth m n (rst addI (distF X Y U V) m n) t).2) (k := T + 1) (fun t ht => (dist_bd (h1 _ (hW.am t (by omega))).1 (h1 _ (hW.am t (by omega))).2 (h2 _ (hW.bn t (by omega))).1 (h2 _ (hW.bn t (by omega))).2).1)
  refine walkM hW (fun t ht => ?_)
  have := hg.2 t (by omega)
  rw [hs] at this
  exact this
theorem bey_le {X Y U V : Nat → Int} {m n T : Nat} (hm : 1 ≤ m) (hn : 1 ≤ n) (hT : EndsAt m n (rstW m X Y n U V) T) : ∀ t, t ≤ T → distF X Y U V (pth m n (rstW m X Y n U V) t).1 (pth m n (rstW m X Y n U V) t).2 ≤ fre m X Y n U V := by
  intro t ht
  have hz := path_zero (X := X) (Y := Y) (U := U) (V := V) (limit := fre m X Y n U V) hm hn (Int.le_refl _) t (fun u hu => hT.2 u (by omega))
  have h1 := pth_in (L := rstW m X Y n U V) hm hn t (fun u hu => hT.2 u (by omega))
  have e : rstB X Y U V (fre m X Y n U V) m n (pth m n (rstW m X Y n U V) t).1 (pth m n (rstW m X Y n U V) t).2 = _ := rst_eq (jn := addI) (F := F01 X Y U V (fre m X Y n U V)) h1.1 h1.2.1
  have hz' : rstB X Y U V (fre m X Y n U V) m n (pth m n (rstW m X Y n U V) t).1 (pth m n (rstW m X Y n U V) t).2 = 0 := hz
  rw [hz'] at e
  have hb := F01_bd X Y U V (fre m X Y n U V) (pth m n (rstW m X Y n U V) t).1 (pth m n (rstW m X Y n U V) t).2
  have h0 : F01 X Y U V (fre m X Y n U V) (pth m n (rstW m X Y n U V) t).1 (pth m n (rstW m X Y n U V) t).2 = 0 := by
    by_cases hl : (pth m n (rstW m X Y n U V) t).1 + 1 = m ∧ (pth m n (rstW m X Y n U V) t).2 + 1 = n
    · rw [if_pos hl] at e; exact e.symm
    · rw [if_neg hl] at e
      have h2 := nxt_spec (L := rstB X Y U V (fre m X Y n U V) m n) h1.1 h1.2.1 hl
      have h3 := (rstB_bd (X := X) (Y := Y) (U := U) (V := V) (limit := fre m X Y n U V) h2.1 h2.2.1).1
      have h4 := h2.2.2.2.2.2.2.2
      rw [h4] at h3
      have h5 : best3 m n (rst addI (F01 X Y U V (fre m X Y n U V)) m n) (pth m n (rstW m X Y n U V) t).1 (pth m n (rstW m X Y n U V) t).2 = best3 m n (rstB X Y U V (fre m X Y n U V) m n) (pth m n (rstW m X Y n U V) t).1 (pth m n (rstW m X Y n U V) t).2 := rfl
      rw [← h5] at h3
      unfold addI at e h3
      omega
  unfold F01 at h0
  by_cases hle : distF X Y U V (pth m n (rstW m X Y n U V) t).1 (pth m n (rstW m X Y n U V) t).2 ≤ fre m X Y n U V
  · exact hle
  · rw [if_neg hle] at h0; omega
theorem cumM_le {G : Nat → Int} {c : Int} (k : Nat) : cumM G k ≤ c ↔ 0 ≤ c ∧ ∀ t, t < k → G t ≤ c := by
  induction k with
  | zero => simp [cumM]
  | succ k ih =>
    have e : cumM G (k + 1) ≤ c ↔ (cumM G k ≤ c ∧ G k ≤ c) := by simp only [cumM]; omega
    rw [e, ih]
    constructor
    · rintro ⟨⟨h1, h2⟩, h3⟩
      refine ⟨h1, fun t ht => ?_⟩
      by_cases e : t = k
      · subst e; exact h3
      · exact h2 t (by omega)
    · rintro ⟨h1, h2⟩
      exact ⟨⟨h1, fun t ht => h2 t (by omega)⟩, h2 k (by omega)⟩
theorem bey_most {X Y U V : Nat → Int} {m n T : Nat} (hm : 1 ≤ m) (hn : 1 ≤ n) (h1 : InR m X Y) (h2 : InR n U V) (hT : EndsAt m n (rstW m X Y n U V) T) : cumM (fun t => distF X Y U V (pth m n (rstW m X Y n U V) t).1 (pth m n (rstW m X Y n U V) t).2) (T + 1) = fre m X Y n U V := by
  refine Int.le_antisymm ((cumM_le _).2 ⟨(fre_bd h1 h2 hm hn).1, fun t ht => bey_le hm hn hT t (by omega)⟩) ?_
  exact walkM (pathW hm hn hT) (fun t ht => ((cumM_le (T + 1)).1 (Int.le_refl _)).2 t (by omega))
theorem sum_len {X Y U V : Nat → Int} {m n T : Nat} (hm : 1 ≤ m) (hn : 1 ≤ n) (h1 : InR m X Y) (h2 : InR n U V) (hT : EndsAt m n (rstW m X Y n U V) T) : rstS X Y U V m n 0 0 ≤ fre m X Y n U V * ((T + 1 : Nat) : Int) := by
  have hW := pathW hm hn hT
  have h := walkS (F := distF X Y U V) hW
  have hb := (cum_bd (G := fun t => distF X Y U V (pth m n (rstW m X Y n U V) t).1 (pth m n (rstW m X Y n U V) t).2) (B := fre m X Y n U V) (k := T + 1) (fre_bd h1 h2 hm hn).1 (fun t ht => ⟨(dist_bd (h1 _ (hW.am t (by omega))).1 (h1 _ (hW.am t (by omega))).2 (h2 _ (hW.bn t (by omega))).1 (h2 _ (hW.bn t (by omega))).2).1, bey_le hm hn hT t (by omega)⟩)).1.2
  exact Int.le_trans h hb
theorem Walk_good (w : World) (m n : Nat) (av bv : Value) (X Y U V : Nat → Int) (h : Two w m n av bv X Y U V) :
    Calls Try.prog 24 #[av, bv] w fun e w' => ∃ v, e = .returned (.tuple #[v, .int .i64 0]) ∧ WalkAt w' m n (rstW m X Y n U V) v ∧ Kept w w' := by
  refine (Walk_any w m n av bv X Y U V h.a h.b (by have := h.m2; omega) (by have := h.n2; omega)).mono ?_
  rintro e w' ⟨hk, hr, _⟩
  obtain ⟨v, h1, h2⟩ := hr (by rw [code2_good h.i1 h.i2 h.m1 h.n1 h.m2 h.n2]; rfl)
  exact ⟨v, h1, h2, hk⟩
set_option maxRecDepth 100000 in
set_option maxHeartbeats 4000000 in
theorem betweens_any (w : World) (xa ya : Option Addr) (q qcap r rcap : Nat) (X Y U V : Nat → Int) (hx : Int8sAt w (.slice xa q qcap) q X Y) (hX : small X) (hY : small Y) (hq : q ≤ maxLen) (hy : Int8sAt w (.slice ya r rcap) r U V) (hU : small U) (hV : small V) (hr : r ≤ maxLen) :
    Calls Try.prog 10 #[.slice xa q qcap, .slice ya r rcap] w (LivesPost w) := by
  go_enter Try.func10, Try.ntmps10
  go_wp2_with fail
  refine (made_any _ xa q qcap 30 X Y hx hX hY hq (by omega) (by omega)).mono ?_
  rintro e w1 ⟨g1, c1, rfl, hc1, hP1, hk1, _⟩
  have hy1 := hy.kept hk1
  go_wp2_with fail
  refine (made_any _ ya r rcap 30 U V hy1 hU hV hr (by omega) (by omega)).mono ?_
  rintro e w2 ⟨g2, c2, rfl, hc2, hQ2, hk2, _⟩
  have hm := madeN_bd (q := q) (most := 30) (by omega)
  have hn := madeN_bd (q := r) (most := 30) (by omega)
  have hT2 : Two w2 (madeN q 30) (madeN r 30) _ _ _ _ _ _ := ⟨hP1.kept hk2, hQ2, made_in, made_in, hm.1, hn.1, hm.2, hn.2⟩
  have hK2 := hk1.trans hk2
  generalize madeN q 30 = m at *
  generalize madeN r 30 = n at *
  generalize madeF q 1 X = A at *
  generalize madeF q 2 Y = B at *
  generalize madeF r 1 U = C at *
  generalize madeF r 2 V = D at *
  clear hx hX hY hq hy hU hV hr hP1 hQ2 hk1 hk2 hy1
  have hm1 : 1 ≤ m := hm.1
  have hn1 : 1 ≤ n := hn.1
  have hm3 : m ≤ 30 := hm.2
  have hn3 : n ≤ 30 := hn.2
  have bd := two_bd hT2
  have o1 := haus_fre hm1 hn1 hT2.i1 hT2.i2
  have o2 := fre_sum hm1 hn1 hT2.i1 hT2.i2
  obtain ⟨h, HH⟩ : ∃ h, Hid (h = haus m A B n C D) := ⟨_, rfl⟩
  obtain ⟨f, HF⟩ : ∃ f, Hid (f = fre m A B n C D) := ⟨_, rfl⟩
  obtain ⟨s, HS⟩ : ∃ s, Hid (s = rstS A B C D m n 0 0) := ⟨_, rfl⟩
  rw [← HH.out, ← HF.out, ← HS.out] at bd
  rw [← HH.out, ← HF.out] at o1
  rw [← HF.out, ← HS.out] at o2
  obtain ⟨bd1, bd2, bd3⟩ := bd
  go_wp2_with fail
  refine (Hausdorff_good _ m n _ _ A B C D hT2).mono ?_
  rw [← HH.out]
  rintro e w3 ⟨rfl, hk3⟩
  have hT3 := hT2.kept hk3
  have hK3 := hK2.trans hk3
  clear hT2 hK2 hk3
  go_wp2_with fail
  refine (Frechet_good _ m n _ _ A B C D hT3).mono ?_
  rw [← HF.out]
  rintro e w4 ⟨rfl, hk4⟩
  have hT4 := hT3.kept hk4
  have hK4 := hK3.trans hk4
  clear hT3 hK3 hk4
  go_wp2_with fail
  refine (Warp_good _ m n _ _ A B C D hT4).mono ?_
  rw [← HS.out]
  rintro e w5 ⟨v5, rfl, hW5, hk5⟩
  have hT5 := hT4.kept hk5
  have hK5 := hK4.trans hk5
  have HW5 := Lib.hid hW5
  clear hT4 hK4 hk5 hW5
  go_wp2_with fail
  refine (Walk_good _ m n _ _ A B C D hT5).mono ?_
  rintro e w6 ⟨v6, rfl, ⟨t, ua, ucap, rfl, hU6, hE6⟩, hk6⟩
  have hT6 := hT5.kept hk6
  have hK6 := hK5.trans hk6
  have hW6 := HW5.out.kept hk6
  have hlen := sum_len hm1 hn1 hT6.i1 hT6.i2 hE6
  have ht60 : t ≤ 60 := by have := ends_le hm1 hn1 hE6; omega
  rw [← HF.out, ← HS.out] at hlen
  obtain ⟨g, hg⟩ : ∃ g, g = f * ((t + 1 : Nat) : Int) := ⟨_, rfl⟩
  have hgb : 0 ≤ g ∧ g ≤ 8000000 * ((t + 1 : Nat) : Int) := by rw [hg]; exact ⟨Int.mul_nonneg bd2.1 (by omega), Int.mul_le_mul_of_nonneg_right bd2.2 (by omega)⟩
  rw [← hg] at hlen
  have e1 : f * ((t : Int) + 1) = g := by rw [hg]; rfl
  have e2 : f * ((t + 1 : Nat) : Int) = g := hg.symm
  have wg : IntKind.i64.wrap g = g := IntWalk.i64_in _ (by omega)
  have n1 : ¬ f < h := by omega
  have n2 : ¬ s < f := by omega
  have n3 : ¬ g < s := by omega
  have HU6 := Lib.hid hU6
  have HE6 := Lib.hid hE6
  have HW6 := Lib.hid hW6
  clear hT5 hK5 hk6 hU6 hE6 hW6 hg hlen HW5
  go_wp2_with fail
  refine (lives_any _).mono ?_
  rintro e w7 ⟨rfl, hk7⟩
  have hT7 := hT6.kept hk7
  have hK7 := hK6.trans hk7
  have hU7 := HU6.out.kept hk7
  have hW7 := HW6.out.kept hk7
  have HW7 := Lib.hid hW7
  clear hT6 hK6 hk7 HU6 HW6 hW7
  go_wp2_with fail
  clear e1 e2 wg n1 n2 n3
  refine (along_any _ m n t _ _ _ c1 c2 ucap A B C D _ _ hT7.a hT7.b hU7 hT7.i1 hT7.i2 hm1 hn1 hm3 hn3 ht60 (pathW hm1 hn1 HE6.out)).mono ?_
  rw [bey_most hm1 hn1 hT7.i1 hT7.i2 HE6.out, ← HF.out]
  obtain ⟨sm, HSM⟩ : ∃ sm, Hid (sm = cumS (fun k => distF A B C D (pth m n (rstW m A B n C D) k).1 (pth m n (rstW m A B n C D) k).2) (t + 1)) := ⟨_, rfl⟩
  rw [← HSM.out]
  rintro e w8 ⟨rfl, hk8⟩
  have hT8 := hT7.kept hk8
  have hK8 := hK7.trans hk8
  obtain ⟨t8, wa, wcap, rfl, hP8, hE8⟩ := HW7.out.kept hk8
  have ht8 : t8 ≤ 60 := by have := ends_le hm1 hn1 hE8; omega
  have HE8 := Lib.hid hE8
  clear hT7 hK7 hk8 hU7 hE8
  go_wp2_with fail
  refine (along_any _ m n t8 _ _ _ c1 c2 wcap A B C D _ _ hT8.a hT8.b hP8 hT8.i1 hT8.i2 hm1 hn1 hm3 hn3 ht8 (pathW hm1 hn1 HE8.out)).mono ?_
  have hps : cumS (fun k => distF A B C D (pth m n (rstS A B C D m n) k).1 (pth m n (rstS A B C D m n) k).2) (t8 + 1) = s := by rw [HS.out]; exact pathS hm1 hn1 HE8.out
  rw [hps]
  obtain ⟨mx, HMX⟩ : ∃ mx, Hid (mx = cumM (fun k => distF A B C D (pth m n (rstS A B C D m n) k).1 (pth m n (rstS A B C D m n) k).2) (t8 + 1)) := ⟨_, rfl⟩
  rw [← HMX.out]
  rintro e w9 ⟨rfl, hk9⟩
  go_wp2_with fail
  go_ret
  exact ⟨rfl, hK8.trans hk9⟩
end Go.Proofs.Ytfmcjbddbomohaa
