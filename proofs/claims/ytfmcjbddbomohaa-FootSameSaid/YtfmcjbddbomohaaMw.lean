/-
  The law FootMoved: its walk.
-/
import Derived.Test.YtfmcjbddbomohaaMv
namespace Go.Proofs.Ytfmcjbddbomohaa
open Go.RowKit Go.Deep

theorem made_small {q : Nat} {X Y : Nat → Int} (i : Nat) : (-100 ≤ madeF q 1 X i ∧ madeF q 1 X i ≤ 100) ∧ (-100 ≤ madeF q 2 Y i ∧ madeF q 2 Y i ≤ 100) := by
  by_cases h : q = 0
  · have e1 : madeF q 1 X i = 1 := by unfold madeF; rw [if_pos h]
    have e2 : madeF q 2 Y i = 2 := by unfold madeF; rw [if_pos h]
    rw [e1, e2]; omega
  · have e1 : madeF q 1 X i = (X i).tmod 101 := by unfold madeF; rw [if_neg h]; rfl
    have e2 : madeF q 2 Y i = (Y i).tmod 101 := by unfold madeF; rw [if_neg h]; rfl
    rw [e1, e2]
    exact ⟨rem_bd _, rem_bd _⟩
theorem rem9_bd (x : Int) : -8 ≤ x.tmod 9 ∧ x.tmod 9 ≤ 8 := by
  rcases Int.le_total 0 x with h | h
  · have h1 := Int.tmod_nonneg 9 h
    have h2 := Int.tmod_lt_of_pos x (show (0 : Int) < 9 by decide)
    omega
  · have e : x.tmod 9 = -((-x).tmod 9) := by rw [Int.neg_tmod]; omega
    have h1 := Int.tmod_nonneg 9 (show 0 ≤ -x by omega)
    have h2 := Int.tmod_lt_of_pos (-x) (show (0 : Int) < 9 by decide)
    omega
theorem box3z (w : World) (a b c : Value) (t : TypeId) : (w.alloc (.cells #[a, b, c] t)).cell? ⟨w.heap.size, 0, none⟩ = some a ∧ (w.alloc (.cells #[a, b, c] t)).cell? ⟨w.heap.size, 1, none⟩ = some b ∧ (w.alloc (.cells #[a, b, c] t)).cell? ⟨w.heap.size, 2, none⟩ = some c := by
  refine ⟨?_, ?_, ?_⟩ <;> (unfold World.cell?; dsimp only; rw [blk_alloc_new]; rfl)
set_option maxRecDepth 100000 in
set_option maxHeartbeats 8000000 in
theorem moveds_any (w : World) (xa ya : Option Addr) (q qcap r rcap : Nat) (X Y U V : Nat → Int) (z0 z1 z2 : Int) (hx : Int8sAt w (.slice xa q qcap) q X Y) (hX : small X) (hY : small Y) (hq : q ≤ maxLen) (hy : Int8sAt w (.slice ya r rcap) r U V) (hU : small U) (hV : small V) (hr : r ≤ maxLen) (hz0 : -128 ≤ z0 ∧ z0 ≤ 127) (hz1 : -128 ≤ z1 ∧ z1 ≤ 127) (hz2 : -128 ≤ z2 ∧ z2 ≤ 127) :
    Calls Try.prog 13 #[.slice xa q qcap, .slice ya r rcap, .agg #[.int .i8 z0, .int .i8 z1, .int .i8 z2]] w (LivesPost w) := by
  have hmf : ∀ (fn : Fn) (first cap : Array Value) (w : World), (Instr.makeFunc fn first cap).run Try.prog w = .ok (.func fn first cap) w := fun _ _ _ _ => rfl
  obtain ⟨d0, d1, d2⟩ := box3z w (.int .i8 z0) (.int .i8 z1) (.int .i8 z2) 76
  have hk0 : Kept w (w.alloc (.cells #[.int .i8 z0, .int .i8 z1, .int .i8 z2] 76)) := (Kept.refl w).alloc _
  have hx0 := hx.kept hk0
  have hy0 := hy.kept hk0
  clear hx hy
  go_enter Try.func13, Try.ntmps13
  go_wp2_with fail
  obtain ⟨zb, HZB⟩ : ∃ zb, Hid (zb = w.heap.size) := ⟨_, rfl⟩
  rw [← HZB.out] at d0 d1 d2 ⊢
  generalize w.alloc (.cells #[.int .i8 z0, .int .i8 z1, .int .i8 z2] 76) = W0 at *
  refine (made_any _ xa q qcap 30 X Y hx0 hX hY hq (by omega) (by omega)).mono ?_
  rintro e w1 ⟨g1, c1, rfl, hc1, hP1, hk1, _⟩
  have hy1 := hy0.kept hk1
  go_wp2_with fail
  refine (made_any _ ya r rcap 30 U V hy1 hU hV hr (by omega) (by omega)).mono ?_
  rintro e w2 ⟨g2, c2, rfl, hc2, hQ2, hk2, _⟩
  have hm := madeN_bd (q := q) (most := 30) (by omega)
  have hn := madeN_bd (q := r) (most := 30) (by omega)
  have hT2 : Two w2 (madeN q 30) (madeN r 30) _ _ _ _ _ _ := ⟨hP1.kept hk2, hQ2, made_in, made_in, hm.1, hn.1, hm.2, hn.2⟩
  have hk12 := hk1.trans hk2
  have hK2 := hk0.trans hk12
  have HRA := Lib.hid (made_small (q := q) (X := X) (Y := Y))
  have HRC := Lib.hid (made_small (q := r) (X := U) (Y := V))
  generalize madeN q 30 = m at *
  generalize madeN r 30 = n at *
  generalize madeF q 1 X = A at *
  generalize madeF q 2 Y = B at *
  generalize madeF r 1 U = C at *
  generalize madeF r 2 V = D at *
  have x0 := hk12.cellSome d0
  have x1 := hk12.cellSome d1
  have x2 := hk12.cellSome d2
  clear hx0 hX hY hq hy0 hU hV hr hP1 hQ2 hk1 hk2 hy1 hk12 hk0 d0 d1 d2
  have hm1 : 1 ≤ m := hm.1
  have hn1 : 1 ≤ n := hn.1
  have hm3 : m ≤ 30 := hm.2
  have hn3 : n ≤ 30 := hn.2
  have wz2 : IntKind.i64.wrap z2 = z2 := IntWalk.i64_in _ (by omega)
  have hrm := rem9_bd z2
  obtain ⟨rm, HRM⟩ : ∃ rm, Hid (rm = z2.tmod 9) := ⟨_, rfl⟩
  have erm : z2.tmod 9 = rm := HRM.out.symm
  rw [erm] at hrm
  have hcase : (∃ k : Int, rm + 1 = k ∧ 1 ≤ k ∧ k ≤ 9 ∧ ¬ k < 1) ∨ (rm + 1 < 1) := by
    by_cases h : rm + 1 < 1
    · exact .inr h
    · exact .inl ⟨_, rfl, by omega, by omega, h⟩
  rcases hcase with ⟨k, ek, hk1, hk9, hnk⟩ | hlt1
  · have hk : 1 ≤ k ∧ k ≤ 9 := ⟨hk1, hk9⟩
    obtain y0 := one_at w2 (.int .i64 k) 3 w2.heap.size rfl
    have hkk : Kept w2 (w2.alloc (.cells #[.int .i64 k] 3)) := (Kept.refl w2).alloc _
    have hM0 : MovAt (w2.alloc (.cells #[.int .i64 k] 3)) zb w2.heap.size z0 z1 k := ⟨hkk.cellSome x0, hkk.cellSome x1, y0⟩
    have hT0 := hT2.kept hkk
    have hK0 := hK2.trans hkk
    clear hT2 hK2 hkk
    go_wp2_with fail
    obtain ⟨kb, HKB⟩ : ∃ kb, Hid (kb = w2.heap.size) := ⟨_, rfl⟩
    rw [← HKB.out] at hM0 ⊢
    generalize w2.alloc (.cells #[.int .i64 k] 3) = W1 at *
    clear y0 HKB x0 x1 x2
    go_loopg [11] 3 (fun g s11 wr => ∃ how : Nat, how ≤ 3 ∧ g = 3 - how ∧ s11 = .int .i64 how ∧ Kept W1 wr)
    case atStart => exact ⟨0, by omega, by omega, rfl, Kept.refl _⟩
    case round =>
      obtain ⟨how, hh, rfl, rfl, hK⟩ := hrel
      have hT := hT0.kept hK
      have hM := hM0.kept hK
      by_cases hlt : how < 3
      · have h3 : how = 0 ∨ how = 1 ∨ how = 2 := by omega
        rcases h3 with rfl | rfl | rfl
        · skip
          go_wp2_with fail
          refine (changed0 _ _ m c1 zb kb z0 z1 k A B hT.a hM hz0 hz1 hk HRA.out hm1 (by omega)).mono ?_
          rintro e w4 ⟨v4, rfl, hO4, hk4⟩
          have hA4 := own_pairs hO4
          obtain ⟨a4, c4, rfl, _⟩ := own_form hO4
          have hT4 := hT.kept hk4
          have hM4 := hM.kept hk4
          clear hO4
          go_wp2_with fail
          refine (changed0 _ _ n c2 zb kb z0 z1 k C D hT4.b hM4 hz0 hz1 hk HRC.out hn1 (by omega)).mono ?_
          rintro e w5 ⟨v5, rfl, hO5, hk5⟩
          have hB5 := own_pairs hO5
          obtain ⟨a5, c5, rfl, _⟩ := own_form hO5
          have hT5 := hT4.kept hk5
          have hA5 := hA4.kept hk5
          clear hO5
          go_wp2_with fail
          refine (alike_any _ m n m n _ _ _ _ A B C D _ _ _ _ 1 hT5 ⟨hA5, hB5, mov_in (by omega) hz0 hz1 hk HRA.out, mov_in (by omega) hz0 hz1 hk HRC.out, hm1, hn1, hm3, hn3⟩ (haus_mul (by omega) (mov_dist (by omega) z0 z1 k A B C D)) (fre_mul hm1 hn1 (by omega) (mov_dist (by omega) z0 z1 k A B C D)) (sum_mul hm1 hn1 (by omega) (mov_dist (by omega) z0 z1 k A B C D))).mono ?_
          rintro e w6 ⟨rfl, hk6⟩
          have hK6 := ((hK.trans hk4).trans hk5).trans hk6
          clear hT4 hM4 hT5 hA4 hA5 hB5
          go_wp2_with fail
          go_roundg (3 - (0 + 1))
          case measure => omega
          case rel => exact ⟨0 + 1, by omega, rfl, by go_num, hK6⟩
        · skip
          go_wp2_with fail
          refine (changed1 _ _ m c1 zb kb z0 z1 k A B hT.a hM hz0 hz1 hk HRA.out hm1 (by omega)).mono ?_
          rintro e w4 ⟨v4, rfl, hO4, hk4⟩
          have hA4 := own_pairs hO4
          obtain ⟨a4, c4, rfl, _⟩ := own_form hO4
          have hT4 := hT.kept hk4
          have hM4 := hM.kept hk4
          clear hO4
          go_wp2_with fail
          refine (changed1 _ _ n c2 zb kb z0 z1 k C D hT4.b hM4 hz0 hz1 hk HRC.out hn1 (by omega)).mono ?_
          rintro e w5 ⟨v5, rfl, hO5, hk5⟩
          have hB5 := own_pairs hO5
          obtain ⟨a5, c5, rfl, _⟩ := own_form hO5
          have hT5 := hT4.kept hk5
          have hA5 := hA4.kept hk5
          clear hO5
          go_wp2_with fail
          refine (alike_any _ m n m n _ _ _ _ A B C D _ _ _ _ 1 hT5 ⟨hA5, hB5, mov_in (by omega) hz0 hz1 hk HRA.out, mov_in (by omega) hz0 hz1 hk HRC.out, hm1, hn1, hm3, hn3⟩ (haus_mul (by omega) (mov_dist (by omega) z0 z1 k A B C D)) (fre_mul hm1 hn1 (by omega) (mov_dist (by omega) z0 z1 k A B C D)) (sum_mul hm1 hn1 (by omega) (mov_dist (by omega) z0 z1 k A B C D))).mono ?_
          rintro e w6 ⟨rfl, hk6⟩
          have hK6 := ((hK.trans hk4).trans hk5).trans hk6
          clear hT4 hM4 hT5 hA4 hA5 hB5
          go_wp2_with fail
          go_roundg (3 - (1 + 1))
          case measure => omega
          case rel => exact ⟨1 + 1, by omega, rfl, by go_num, hK6⟩
        · skip
          go_wp2_with fail
          refine (changed2 _ _ m c1 zb kb z0 z1 k A B hT.a hM hz0 hz1 hk HRA.out hm1 (by omega)).mono ?_
          rintro e w4 ⟨v4, rfl, hO4, hk4⟩
          have hA4 := own_pairs hO4
          obtain ⟨a4, c4, rfl, _⟩ := own_form hO4
          have hT4 := hT.kept hk4
          have hM4 := hM.kept hk4
          clear hO4
          go_wp2_with fail
          refine (changed2 _ _ n c2 zb kb z0 z1 k C D hT4.b hM4 hz0 hz1 hk HRC.out hn1 (by omega)).mono ?_
          rintro e w5 ⟨v5, rfl, hO5, hk5⟩
          have hB5 := own_pairs hO5
          obtain ⟨a5, c5, rfl, _⟩ := own_form hO5
          have hT5 := hT4.kept hk5
          have hA5 := hA4.kept hk5
          clear hO5
          go_wp2_with fail
          refine (alike_any _ m n m n _ _ _ _ A B C D _ _ _ _ 1 hT5 ⟨hA5, hB5, mov_in (by omega) hz0 hz1 hk HRA.out, mov_in (by omega) hz0 hz1 hk HRC.out, hm1, hn1, hm3, hn3⟩ (haus_mul (by omega) (mov_dist (by omega) z0 z1 k A B C D)) (fre_mul hm1 hn1 (by omega) (mov_dist (by omega) z0 z1 k A B C D)) (sum_mul hm1 hn1 (by omega) (mov_dist (by omega) z0 z1 k A B C D))).mono ?_
          rintro e w6 ⟨rfl, hk6⟩
          have hK6 := ((hK.trans hk4).trans hk5).trans hk6
          clear hT4 hM4 hT5 hA4 hA5 hB5
          go_wp2_with fail
          go_roundg (3 - (2 + 1))
          case measure => omega
          case rel => exact ⟨2 + 1, by omega, rfl, by go_num, hK6⟩
      · obtain rfl : how = 3 := by omega
        have hck := hM.ck
        have hkk2 : 0 ≤ k * k := Int.mul_nonneg (by omega) (by omega)
        have hkk3 : k * k ≤ 81 := Int.le_trans (Int.mul_le_mul hk.2 hk.2 (by omega) (by omega)) (by decide)
        obtain ⟨k2, HK2⟩ : ∃ k2, Hid (k2 = k * k) := ⟨_, rfl⟩
        have ekk : k * k = k2 := HK2.out.symm
        rw [ekk] at hkk2 hkk3
        have CHP := Lib.hid (fun (W : World) (v : Value) (hv : v = .slice (some ⟨g1, 0, none⟩) m c1) (kk : Kept wr W) => (show Calls Try.prog 43 #[v, .int .i64 3, .pointer (some ⟨zb, 0, none⟩), .pointer (some ⟨kb, 0, none⟩)] W (OwnPost W m (movX 3 z0 k A B) (movY 3 z1 k A B)) by subst hv; exact changed3 W _ m c1 zb kb z0 z1 k A B (hT.a.kept kk) (hM.kept kk) hz0 hz1 hk HRA.out hm1 (by omega)))
        have CHQ := Lib.hid (fun (W : World) (v : Value) (hv : v = .slice (some ⟨g2, 0, none⟩) n c2) (kk : Kept wr W) => (show Calls Try.prog 43 #[v, .int .i64 3, .pointer (some ⟨zb, 0, none⟩), .pointer (some ⟨kb, 0, none⟩)] W (OwnPost W n (movX 3 z0 k C D) (movY 3 z1 k C D)) by subst hv; exact changed3 W _ n c2 zb kb z0 z1 k C D (hT.b.kept kk) (hM.kept kk) hz0 hz1 hk HRC.out hn1 (by omega)))
        have ALK := Lib.hid (fun (W : World) (v4 v5 : Value) (p4 : PairsAt W v4 m (movX 3 z0 k A B) (movY 3 z1 k A B)) (p5 : PairsAt W v5 n (movX 3 z0 k C D) (movY 3 z1 k C D)) (kk : Kept wr W) => alike_any W m n m n _ _ v4 v5 A B C D _ _ _ _ k2 (hT.kept kk) ⟨p4, p5, mov_in (by omega) hz0 hz1 hk HRA.out, mov_in (by omega) hz0 hz1 hk HRC.out, hm1, hn1, hm3, hn3⟩ (by rw [HK2.out]; exact haus_mul (by rw [← HK2.out]; exact hkk2) (mov_dist3 z0 z1 k A B C D)) (by rw [HK2.out]; exact fre_mul hm1 hn1 (by rw [← HK2.out]; exact hkk2) (mov_dist3 z0 z1 k A B C D)) (by rw [HK2.out]; exact sum_mul hm1 hn1 (by rw [← HK2.out]; exact hkk2) (mov_dist3 z0 z1 k A B C D)))
        have wkk : IntKind.i64.wrap k2 = k2 := IntWalk.i64_in _ (by omega)
        clear HK2
        go_wp2_with fail
        go_region_held3 (fun w' => w'.cell? ⟨kb, 0, none⟩ = some (.int .i64 k) ∧ Kept wr w')
          (exact keep1 hck (by repeat (first | assumption | exact Kept.refl _ | apply Kept.drew | apply Kept.drewN | apply Kept.alloc | refine Kept.trans ?_ (by assumption))))
          (first | (go_at_call 43; refine (CHP.out _ _ (by rfl) (by repeat (first | assumption | exact Kept.refl _ | apply Kept.drew | apply Kept.drewN | apply Kept.alloc | refine Kept.trans ?_ (by assumption)))).mono ?_; rintro e w4 ⟨v4, rfl, hO4, hk4⟩; have hA4 := own_pairs hO4; have HA4 := Lib.hid hA4; clear hA4 hO4) | (go_at_call 43; refine (CHQ.out _ _ (by rfl) (by repeat (first | assumption | exact Kept.refl _ | apply Kept.drew | apply Kept.drewN | apply Kept.alloc | refine Kept.trans ?_ (by assumption)))).mono ?_; rintro e w5 ⟨v5, rfl, hO5, hk5⟩; have hA5 := own_pairs hO5; have HA5 := Lib.hid hA5; clear hA5 hO5) | (go_at_call 41; refine (ALK.out _ v4 v5 (HA4.out.kept (by repeat (first | assumption | exact Kept.refl _ | apply Kept.drew | apply Kept.drewN | apply Kept.alloc | refine Kept.trans ?_ (by assumption)))) (HA5.out.kept (by repeat (first | assumption | exact Kept.refl _ | apply Kept.drew | apply Kept.drewN | apply Kept.alloc | refine Kept.trans ?_ (by assumption)))) (by repeat (first | assumption | exact Kept.refl _ | apply Kept.drew | apply Kept.drewN | apply Kept.alloc | refine Kept.trans ?_ (by assumption)))).mono ?_; rintro e w6 ⟨rfl, hk6⟩) | (go_at_call 19; refine (lives_any _).mono ?_; rintro e w7 ⟨rfl, hk7⟩))
        all_goals
          have hK7 : Kept wr w7 := (by repeat (first | assumption | exact Kept.refl _ | apply Kept.drew | apply Kept.drewN | apply Kept.alloc | refine Kept.trans ?_ (by assumption)))
          go_wp2_with fail
          go_ret
          exact ⟨rfl, (hK0.trans hK).trans hK7⟩
  · obtain y0 := one_at w2 (.int .i64 2) 3 w2.heap.size rfl
    have hkk : Kept w2 (w2.alloc (.cells #[.int .i64 2] 3)) := (Kept.refl w2).alloc _
    have hM0 : MovAt (w2.alloc (.cells #[.int .i64 2] 3)) zb w2.heap.size z0 z1 2 := ⟨hkk.cellSome x0, hkk.cellSome x1, y0⟩
    have hT0 := hT2.kept hkk
    have hK0 := hK2.trans hkk
    clear hT2 hK2 hkk
    go_wp2_with fail
    obtain ⟨k, HKK⟩ : ∃ k : Int, Hid (k = 2) := ⟨_, rfl⟩
    have hk : 1 ≤ k ∧ k ≤ 9 := by rw [HKK.out]; decide
    rw [← HKK.out] at hM0 hT0 hK0 y0 ⊢
    obtain ⟨kb, HKB⟩ : ∃ kb, Hid (kb = w2.heap.size) := ⟨_, rfl⟩
    rw [← HKB.out] at hM0 ⊢
    generalize w2.alloc (.cells #[.int .i64 k] 3) = W1 at *
    clear y0 HKB x0 x1 x2
    go_loopg [11] 3 (fun g s11 wr => ∃ how : Nat, how ≤ 3 ∧ g = 3 - how ∧ s11 = .int .i64 how ∧ Kept W1 wr)
    case atStart => exact ⟨0, by omega, by omega, rfl, Kept.refl _⟩
    case round =>
      obtain ⟨how, hh, rfl, rfl, hK⟩ := hrel
      have hT := hT0.kept hK
      have hM := hM0.kept hK
      by_cases hlt : how < 3
      · have h3 : how = 0 ∨ how = 1 ∨ how = 2 := by omega
        rcases h3 with rfl | rfl | rfl
        · skip
          go_wp2_with fail
          refine (changed0 _ _ m c1 zb kb z0 z1 k A B hT.a hM hz0 hz1 hk HRA.out hm1 (by omega)).mono ?_
          rintro e w4 ⟨v4, rfl, hO4, hk4⟩
          have hA4 := own_pairs hO4
          obtain ⟨a4, c4, rfl, _⟩ := own_form hO4
          have hT4 := hT.kept hk4
          have hM4 := hM.kept hk4
          clear hO4
          go_wp2_with fail
          refine (changed0 _ _ n c2 zb kb z0 z1 k C D hT4.b hM4 hz0 hz1 hk HRC.out hn1 (by omega)).mono ?_
          rintro e w5 ⟨v5, rfl, hO5, hk5⟩
          have hB5 := own_pairs hO5
          obtain ⟨a5, c5, rfl, _⟩ := own_form hO5
          have hT5 := hT4.kept hk5
          have hA5 := hA4.kept hk5
          clear hO5
          go_wp2_with fail
          refine (alike_any _ m n m n _ _ _ _ A B C D _ _ _ _ 1 hT5 ⟨hA5, hB5, mov_in (by omega) hz0 hz1 hk HRA.out, mov_in (by omega) hz0 hz1 hk HRC.out, hm1, hn1, hm3, hn3⟩ (haus_mul (by omega) (mov_dist (by omega) z0 z1 k A B C D)) (fre_mul hm1 hn1 (by omega) (mov_dist (by omega) z0 z1 k A B C D)) (sum_mul hm1 hn1 (by omega) (mov_dist (by omega) z0 z1 k A B C D))).mono ?_
          rintro e w6 ⟨rfl, hk6⟩
          have hK6 := ((hK.trans hk4).trans hk5).trans hk6
          clear hT4 hM4 hT5 hA4 hA5 hB5
          go_wp2_with fail
          go_roundg (3 - (0 + 1))
          case measure => omega
          case rel => exact ⟨0 + 1, by omega, rfl, by go_num, hK6⟩
        · skip
          go_wp2_with fail
          refine (changed1 _ _ m c1 zb kb z0 z1 k A B hT.a hM hz0 hz1 hk HRA.out hm1 (by omega)).mono ?_
          rintro e w4 ⟨v4, rfl, hO4, hk4⟩
          have hA4 := own_pairs hO4
          obtain ⟨a4, c4, rfl, _⟩ := own_form hO4
          have hT4 := hT.kept hk4
          have hM4 := hM.kept hk4
          clear hO4
          go_wp2_with fail
          refine (changed1 _ _ n c2 zb kb z0 z1 k C D hT4.b hM4 hz0 hz1 hk HRC.out hn1 (by omega)).mono ?_
          rintro e w5 ⟨v5, rfl, hO5, hk5⟩
          have hB5 := own_pairs hO5
          obtain ⟨a5, c5, rfl, _⟩ := own_form hO5
          have hT5 := hT4.kept hk5
          have hA5 := hA4.kept hk5
          clear hO5
          go_wp2_with fail
          refine (alike_any _ m n m n _ _ _ _ A B C D _ _ _ _ 1 hT5 ⟨hA5, hB5, mov_in (by omega) hz0 hz1 hk HRA.out, mov_in (by omega) hz0 hz1 hk HRC.out, hm1, hn1, hm3, hn3⟩ (haus_mul (by omega) (mov_dist (by omega) z0 z1 k A B C D)) (fre_mul hm1 hn1 (by omega) (mov_dist (by omega) z0 z1 k A B C D)) (sum_mul hm1 hn1 (by omega) (mov_dist (by omega) z0 z1 k A B C D))).mono ?_
          rintro e w6 ⟨rfl, hk6⟩
          have hK6 := ((hK.trans hk4).trans hk5).trans hk6
          clear hT4 hM4 hT5 hA4 hA5 hB5
          go_wp2_with fail
          go_roundg (3 - (1 + 1))
          case measure => omega
          case rel => exact ⟨1 + 1, by omega, rfl, by go_num, hK6⟩
        · skip
          go_wp2_with fail
          refine (changed2 _ _ m c1 zb kb z0 z1 k A B hT.a hM hz0 hz1 hk HRA.out hm1 (by omega)).mono ?_
          rintro e w4 ⟨v4, rfl, hO4, hk4⟩
          have hA4 := own_pairs hO4
          obtain ⟨a4, c4, rfl, _⟩ := own_form hO4
          have hT4 := hT.kept hk4
          have hM4 := hM.kept hk4
          clear hO4
          go_wp2_with fail
          refine (changed2 _ _ n c2 zb kb z0 z1 k C D hT4.b hM4 hz0 hz1 hk HRC.out hn1 (by omega)).mono ?_
          rintro e w5 ⟨v5, rfl, hO5, hk5⟩
          have hB5 := own_pairs hO5
          obtain ⟨a5, c5, rfl, _⟩ := own_form hO5
          have hT5 := hT4.kept hk5
          have hA5 := hA4.kept hk5
          clear hO5
          go_wp2_with fail
          refine (alike_any _ m n m n _ _ _ _ A B C D _ _ _ _ 1 hT5 ⟨hA5, hB5, mov_in (by omega) hz0 hz1 hk HRA.out, mov_in (by omega) hz0 hz1 hk HRC.out, hm1, hn1, hm3, hn3⟩ (haus_mul (by omega) (mov_dist (by omega) z0 z1 k A B C D)) (fre_mul hm1 hn1 (by omega) (mov_dist (by omega) z0 z1 k A B C D)) (sum_mul hm1 hn1 (by omega) (mov_dist (by omega) z0 z1 k A B C D))).mono ?_
          rintro e w6 ⟨rfl, hk6⟩
          have hK6 := ((hK.trans hk4).trans hk5).trans hk6
          clear hT4 hM4 hT5 hA4 hA5 hB5
          go_wp2_with fail
          go_roundg (3 - (2 + 1))
          case measure => omega
          case rel => exact ⟨2 + 1, by omega, rfl, by go_num, hK6⟩
      · obtain rfl : how = 3 := by omega
        have hck := hM.ck
        have hkk2 : 0 ≤ k * k := Int.mul_nonneg (by omega) (by omega)
        have hkk3 : k * k ≤ 81 := Int.le_trans (Int.mul_le_mul hk.2 hk.2 (by omega) (by omega)) (by decide)
        obtain ⟨k2, HK2⟩ : ∃ k2, Hid (k2 = k * k) := ⟨_, rfl⟩
        have ekk : k * k = k2 := HK2.out.symm
        rw [ekk] at hkk2 hkk3
        have CHP := Lib.hid (fun (W : World) (v : Value) (hv : v = .slice (some ⟨g1, 0, none⟩) m c1) (kk : Kept wr W) => (show Calls Try.prog 43 #[v, .int .i64 3, .pointer (some ⟨zb, 0, none⟩), .pointer (some ⟨kb, 0, none⟩)] W (OwnPost W m (movX 3 z0 k A B) (movY 3 z1 k A B)) by subst hv; exact changed3 W _ m c1 zb kb z0 z1 k A B (hT.a.kept kk) (hM.kept kk) hz0 hz1 hk HRA.out hm1 (by omega)))
        have CHQ := Lib.hid (fun (W : World) (v : Value) (hv : v = .slice (some ⟨g2, 0, none⟩) n c2) (kk : Kept wr W) => (show Calls Try.prog 43 #[v, .int .i64 3, .pointer (some ⟨zb, 0, none⟩), .pointer (some ⟨kb, 0, none⟩)] W (OwnPost W n (movX 3 z0 k C D) (movY 3 z1 k C D)) by subst hv; exact changed3 W _ n c2 zb kb z0 z1 k C D (hT.b.kept kk) (hM.kept kk) hz0 hz1 hk HRC.out hn1 (by omega)))
        have ALK := Lib.hid (fun (W : World) (v4 v5 : Value) (p4 : PairsAt W v4 m (movX 3 z0 k A B) (movY 3 z1 k A B)) (p5 : PairsAt W v5 n (movX 3 z0 k C D) (movY 3 z1 k C D)) (kk : Kept wr W) => alike_any W m n m n _ _ v4 v5 A B C D _ _ _ _ k2 (hT.kept kk) ⟨p4, p5, mov_in (by omega) hz0 hz1 hk HRA.out, mov_in (by omega) hz0 hz1 hk HRC.out, hm1, hn1, hm3, hn3⟩ (by rw [HK2.out]; exact haus_mul (by rw [← HK2.out]; exact hkk2) (mov_dist3 z0 z1 k A B C D)) (by rw [HK2.out]; exact fre_mul hm1 hn1 (by rw [← HK2.out]; exact hkk2) (mov_dist3 z0 z1 k A B C D)) (by rw [HK2.out]; exact sum_mul hm1 hn1 (by rw [← HK2.out]; exact hkk2) (mov_dist3 z0 z1 k A B C D)))
        have wkk : IntKind.i64.wrap k2 = k2 := IntWalk.i64_in _ (by omega)
        clear HK2
        go_wp2_with fail
        go_region_held3 (fun w' => w'.cell? ⟨kb, 0, none⟩ = some (.int .i64 k) ∧ Kept wr w')
          (exact keep1 hck (by repeat (first | assumption | exact Kept.refl _ | apply Kept.drew | apply Kept.drewN | apply Kept.alloc | refine Kept.trans ?_ (by assumption))))
          (first | (go_at_call 43; refine (CHP.out _ _ (by rfl) (by repeat (first | assumption | exact Kept.refl _ | apply Kept.drew | apply Kept.drewN | apply Kept.alloc | refine Kept.trans ?_ (by assumption)))).mono ?_; rintro e w4 ⟨v4, rfl, hO4, hk4⟩; have hA4 := own_pairs hO4; have HA4 := Lib.hid hA4; clear hA4 hO4) | (go_at_call 43; refine (CHQ.out _ _ (by rfl) (by repeat (first | assumption | exact Kept.refl _ | apply Kept.drew | apply Kept.drewN | apply Kept.alloc | refine Kept.trans ?_ (by assumption)))).mono ?_; rintro e w5 ⟨v5, rfl, hO5, hk5⟩; have hA5 := own_pairs hO5; have HA5 := Lib.hid hA5; clear hA5 hO5) | (go_at_call 41; refine (ALK.out _ v4 v5 (HA4.out.kept (by repeat (first | assumption | exact Kept.refl _ | apply Kept.drew | apply Kept.drewN | apply Kept.alloc | refine Kept.trans ?_ (by assumption)))) (HA5.out.kept (by repeat (first | assumption | exact Kept.refl _ | apply Kept.drew | apply Kept.drewN | apply Kept.alloc | refine Kept.trans ?_ (by assumption)))) (by repeat (first | assumption | exact Kept.refl _ | apply Kept.drew | apply Kept.drewN | apply Kept.alloc | refine Kept.trans ?_ (by assumption)))).mono ?_; rintro e w6 ⟨rfl, hk6⟩) | (go_at_call 19; refine (lives_any _).mono ?_; rintro e w7 ⟨rfl, hk7⟩))
        all_goals
          have hK7 : Kept wr w7 := (by repeat (first | assumption | exact Kept.refl _ | apply Kept.drew | apply Kept.drewN | apply Kept.alloc | refine Kept.trans ?_ (by assumption)))
          go_wp2_with fail
          go_ret
          exact ⟨rfl, (hK0.trans hK).trans hK7⟩
end Go.Proofs.Ytfmcjbddbomohaa
