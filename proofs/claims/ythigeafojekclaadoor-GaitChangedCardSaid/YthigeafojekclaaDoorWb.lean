/-
  The reference reads decimal digits.
-/
import Derived.Test.YthigeafojekclaaDoorWa
namespace Go.Proofs.YthigeafojekclaaDoor.Num
open Go.RowKit Go.Deep Go.Shelf

theorem ints_snoc (f : Nat → Int) (k : Nat) : ints f (k + 1) = ints f k ++ [.int .i64 (f k)] := by simp [ints, List.range_succ]
def ReadPost (w : World) (x : Int) (e : Ending) (w' : World) : Prop := ∃ v, e = .returned (.tuple #[v, .bool true]) ∧ ZAt w' v x ∧ Kept w w'
set_option maxRecDepth 100000 in
set_option maxHeartbeats 8000000 in
theorem digits_str (w : World) (s : ByteArray) (n : Nat) (x : Int) (hsz : s.size = n) (hn0 : 0 < n) (hn1 : n ≤ 400) (hc0 : chr s 0 ≠ 48) (hC : ∀ i, i < n → 48 ≤ chr s i ∧ chr s i ≤ 57) (hX : dv (fun i => chr s i - 48) 0 n = x) :
    Calls Tryd.prog 51 #[.string s] w (ReadPost w x) := by
  obtain ⟨i0, hi, hz0, hz1, hz2⟩ := info_parts Tryd.info3
  obtain ⟨f, HF⟩ : ∃ f, Hid (f = fun i => chr s i - 48) := ⟨_, rfl⟩
  have HX : Hid (dv f 0 n = x) := by show _ = _; rw [HF.out]; exact hX
  have HC := Lib.hid hC
  have HD : Hid (∀ i, i < n → 0 ≤ f i ∧ f i ≤ 9) := fun i h => by have := HC.out i h; rw [HF.out]; (try dsimp only); omega
  have HA : Hid (∀ i (h : i < s.size), ((s[i]'h).toNat : Int) = chr s i) := fun i h => chr_at h
  have HFC : Hid (∀ i, f i = chr s i - 48) := fun i => by rw [HF.out]
  have ha0 := HA.out 0 (by omega)
  clear HF hX hC
  have e0 : (chr s 0 == 48) = false := by simpa using hc0
  have hA := box_row (w.alloc (.cells #[.bool false, .slice none 0 0] 37)) (.bool false) (.slice none 0 0) 37 (w.heap.size + 1) (by simp)
  have hB := ((Kept.refl _).alloc (.cells #[.bool false, .slice none 0 0] 37)).row (box_row w (.bool false) (.slice none 0 0) 37 w.heap.size rfl)
  have hK0 : Kept w ((w.alloc (.cells #[.bool false, .slice none 0 0] 37)).alloc (.cells #[.bool false, .slice none 0 0] 37)) := ((Kept.refl w).alloc _).alloc _
  clear hc0
  go_enter Tryd.func51, Tryd.ntmps51
  go_wp2_with fail
  generalize ((w.alloc (.cells #[.bool false, .slice none 0 0] 37)).alloc (.cells #[.bool false, .slice none 0 0] 37)) = W at *
  obtain ⟨z0, HZ0⟩ : ∃ z0, Hid (z0 = w.heap.size + 1) := ⟨_, rfl⟩
  obtain ⟨r0, HR0⟩ : ∃ r0, Hid (r0 = w.heap.size) := ⟨_, rfl⟩
  rw [← HZ0.out] at hA ⊢
  rw [← HR0.out] at hB ⊢
  have hzw : w.heap.size ≤ z0 := by rw [HZ0.out]; omega
  have hrw : w.heap.size ≤ r0 := by rw [HR0.out]; exact Nat.le_refl _
  have hrz : r0 ≠ z0 := by rw [HZ0.out, HR0.out]; omega
  have hzl : z0 < W.heap.size := hA.lt
  have hrl : r0 < W.heap.size := hB.lt
  have hwW := hK0.size
  have hO0 : W.ownsRow W.heap.size 3 1 (.slice none 0 0) 0 (ints (ck f n) 0) := own_none W _ _ _
  clear HZ0 HR0 e0 ha0
  go_loopg [5] n (fun g s5 wr => ∃ (j : Nat) (sv : Value), (∀ i, i < j → 4 * i < n) ∧ g = n - 4 * j ∧ s5 = .int .i64 ((n : Int) - 4 * j) ∧ Kept w wr ∧ W.heap.size ≤ wr.heap.size ∧ wr.rowIs z0 37 2 (bx (.bool false) sv) ∧ wr.rowIs r0 37 2 (bx (.bool false) (.slice none 0 0)) ∧ wr.ownsRow W.heap.size 3 1 sv j (ints (ck f n) j))
  case atStart => exact ⟨0, _, (fun i h => absurd h (by omega)), rfl, by go_num, hK0, Nat.le_refl _, hA, hB, hO0⟩
  case round =>
    obtain ⟨j, sv, hj, rfl, rfl, hK, hsz2, hZ, hRr, hO⟩ := hrel
    clear hA hB hK0 hO0
    obtain ⟨oa, ocap, rfl, _⟩ := own_form hO
    obtain ⟨x0, x1, x2, x3⟩ := bx_cells hZ
    have hjn : j ≤ n := by
      rcases Nat.eq_zero_or_pos j with h | h
      · omega
      · have := hj (j - 1) (by omega); omega
    by_cases hlt : 4 * j < n
    · obtain ⟨b, hb⟩ : ∃ b, b = n - 4 * j := ⟨_, rfl⟩
      obtain ⟨a, ha⟩ : ∃ a, a = n - 4 * (j + 1) := ⟨_, rfl⟩
      have eb : (n : Int) - 4 * (j : Int) = (b : Int) := by omega
      rw [eb]
      have hb0 : 0 < b := by omega
      have hab : a ≤ b := by omega
      have hab4 : b - a ≤ 4 := by omega
      have hbn : b ≤ n := by omega
      have hnx := Lib.hid (ints_snoc (ck f n) j)
      have hck : Hid (ck f n j = dv f a (b - a)) := by show _ = _; unfold ck; rw [← ha, ← hb]
      have hj2 : Hid (∀ i, i < j + 1 → 4 * i < n) := fun i hi => by
        rcases Nat.lt_or_ge i j with h | h
        · exact hj i h
        · obtain rfl : i = j := by omega
          exact hlt
      have hg1 : Hid (n - 4 * (j + 1) < n - 4 * j) := by show _ < _; omega
      have hg2 : Hid ((b : Int) - 4 = (n : Int) - 4 * ((j + 1 : Nat) : Int)) := by show _ = _; omega
      have hmx : (b : Int) - 4 < 0 ∧ a = 0 ∨ 0 ≤ (b : Int) - 4 ∧ (a : Int) = (b : Int) - 4 := by omega
      obtain ⟨Wo, rfl⟩ : ∃ Wo : World, Wo = wr := ⟨_, rfl⟩
      clear ha hlt hj eb hb
      have hs0 : dv f a 0 = 0 := rfl
      rcases hmx with ⟨m1, ha0⟩ | ⟨m1, ha0⟩
      all_goals
        go_wp2_with fail
        go_loopg [6, 7] (b - a) (fun g s6 s7 wi => ∃ i : Nat, a ≤ i ∧ i ≤ b ∧ g = b - i ∧ s7 = .int .i64 i ∧ s6 = .int .i64 (dv f a (i - a)) ∧ Wo = wi)
        case atStart => exact ⟨a, Nat.le_refl _, hab, rfl, by first | (rw [← ha0]; done) | (rw [ha0]; rfl) | go_num, by rw [Nat.sub_self]; rfl, rfl⟩
        case round =>
          obtain ⟨i, hia, hib, rfl, rfl, rfl, rfl⟩ := hrel
          by_cases hlt2 : i < b
          · have s1 : (i : Int) < (b : Int) := by omega
            have s2 : (0 : Int) ≤ (i : Int) := by omega
            have s3 : (i : Int) < (n : Int) := by omega
            have hat := HA.out i (by omega)
            have hc := HC.out i (by omega)
            have hdd := dv_small (f := f) (a := a) (k := i - a) (by omega) (fun k _ _ => HD.out k (by omega))
            have hdd2 := dv_small (f := f) (a := a) (k := i + 1 - a) (by omega) (fun k _ _ => HD.out k (by omega))
            have hnxt : Hid (dv f a (i + 1 - a) = dv f a (i - a) * 10 + (chr s i - 48)) := by
              show _ = _
              rw [show i + 1 - a = i - a + 1 by omega]
              show dv f a (i - a) * 10 + f (a + (i - a)) = _
              rw [show a + (i - a) = i by omega, HFC.out]
            have hnv := hnxt.out
            generalize chr s i = c at *
            generalize dv f a (i - a) = d at *
            obtain ⟨d', HD'⟩ : ∃ d', Hid (d' = dv f a (i + 1 - a)) := ⟨_, rfl⟩
            rw [← HD'.out] at hdd2 hnv
            have e3 : 10 * d + (c - 48) = d' := by omega
            have t1 : ¬ c < 48 := by omega
            have t2 : ¬ c > 57 := by omega
            clear hnxt hnv
            go_wp2_with fail
            go_roundg (b - (i + 1))
            case measure => omega
            case rel => exact ⟨i + 1, by omega, by omega, rfl, by first | rfl | go_num, by rw [← HD'.out, ← e3], rfl⟩
          · obtain rfl : i = b := by omega
            have s1 : ¬ (i : Int) < (i : Int) := by omega
            have hv : dv f a (i - a) = ck f n j := hck.out.symm
            rw [hv]
            have hcv := ck_dig (f := f) (n := n) HD.out (j + 1) j (by omega)
            have hO2 : Hid ((Wo.ownsRow W.heap.size 3 1 (.slice oa j ocap) j (ints (ck f n) j)) ∧ ints (ck f n) (j + 1) = ints (ck f n) j ++ [.int .i64 (ck f n j)]) := ⟨hO, hnx.out⟩
            have hOo := hO2.out.1
            have hwrap : wrap64 ((i : Int) - 4) = (i : Int) - 4 := IntWalk.wrap64_in _ (by omega)
            obtain ⟨R, HR⟩ : ∃ R, Hid (R = ck f n j) := ⟨_, rfl⟩
            rw [← HR.out] at hcv ⊢
            obtain ⟨hcv0, hcv1⟩ := hcv
            clear hO hck hv
            go_wp2_with (first | (at_builtin; refine wpList_append_own _ rfl _ _ 23 rfl W.heap.size 3 i0 (.int .i64 0) 1 8 Tryd.underlying23 hi hz0 hz1 hz2 rfl (by decide) _ _ _ rfl (hOo.alloc _) ⟨Wo.heap.size, 0, none⟩ 1 1 [.int .i64 R] rfl rfl (news_one _ _ _) ?c2 ?c3 ?c4 ?c5 ?_))
            case c2 => simp [Value.oneCell']
            case c3 => unfold maxLen; omega
            case c4 => omega
            case c5 => first | omega | (simp; omega)
            intro v' w2 hO3 hgr _
            have hX := grew_X hgr (hOo.alloc (.cells #[.int .i64 R] 3))
            have hZ2 := hX.row (((Kept.refl Wo).alloc (.cells #[.int .i64 R] 3)).row hZ) (by omega)
            have hR2 := hX.row (((Kept.refl Wo).alloc (.cells #[.int .i64 R] 3)).row hRr) (by omega)
            have hK2 : Kept w w2 := (hK.alloc _).step hX (fun i hi => Nat.le_trans hwW hi)
            have hs2 : W.heap.size ≤ w2.heap.size := Nat.le_trans (Nat.le_trans hsz2 ((Kept.refl Wo).alloc (.cells #[.int .i64 R] 3)).size) hgr.size
            have hO4 : w2.ownsRow W.heap.size 3 1 v' (j + 1) (ints (ck f n) (j + 1)) := by rw [hO2.out.2, ← HR.out]; exact hO3
            obtain ⟨va, vc, rfl, _⟩ := own_form hO4
            obtain ⟨y0, y1, y2, y3⟩ := bx_cells hZ2
            have hZ3 := bx_set1 hZ2 (.slice va (j + 1) vc)
            have hR3 := hR2.setOther (a := ⟨z0, 1, none⟩) hrz (.slice va (j + 1) vc)
            have hK3 : Kept w (w2.setCell ⟨z0, 1, none⟩ (.slice va (j + 1) vc)) := hK2.setCell hzw _
            have hO5 := own_keptX hO4 ((KeptX.refl (fun k => k = z0) w2).setIn 1 (.slice va (j + 1) vc)) (fun b h => by omega)
            have hs3 : W.heap.size ≤ (w2.setCell ⟨z0, 1, none⟩ (.slice va (j + 1) vc)).heap.size := by rw [nblk_setCell]; exact hs2
            have HO5 := Lib.hid hO5
            clear hO3 hX hgr hOo hO2 hO4 hO5 hK hK2 hZ hRr hR2 hsz2 hs2 y0 x0 x1 x2 x3 HR
            go_wp2_with fail
            generalize (w2.setCell ⟨z0, 1, none⟩ (.slice va (j + 1) vc)) = W3 at *
            go_roundg (n - 4 * (j + 1))
            case measure => exact hg1.out
            case rel => exact ⟨j + 1, _, hj2.out, rfl, by rw [← hg2.out], hK3, hs3, hZ3, hR3, HO5.out⟩
    · have s1 : ¬ ((n : Int) - 4 * (j : Int)) > 0 := by omega
      have hall := ck_all f n j hj
      have hval : Hid (valZ (ck f n) j = x) := by
        show _ = _
        rw [hall, show n - 4 * j = 0 by omega, Nat.sub_zero]
        exact HX.out
      have hdg := Lib.hid (ck_dig (f := f) (n := n) HD.out j)
      have hbg : Hid (valZ (ck f n) j < bigN) := by
        show _ < _
        have h1 := (valZ_bd hdg.out).2
        have h2 := pw_le (show j ≤ 1000 by omega)
        have h3 : bigN = 10000 ^ 1000 := rfl
        omega
      have HSL := Lib.hid (SlAt.of_own hO)
      clear hO hall hj
      go_wp2_with fail
      refine (lean_any _ false _ j (ck f n) HSL.out hdg.out (by omega) hbg.out).mono ?_
      rintro e w5 ⟨v5, rfl, hz5, hk5⟩
      obtain ⟨m5, a5, l5, c5, rfl⟩ := hz5.shape
      have hval2 : sgnZ false (valZ (ck f n) j) = x := hval.out
      rw [hval2] at hz5
      have hR5 := hk5.row hRr
      obtain ⟨j0, j1, j2, j3⟩ := bx_cells hR5
      have hRF := bx_set1 (bx_set0 hR5 (.bool m5)) (.slice a5 l5 c5)
      have hKF : Kept w ((w5.setCell ⟨r0, 0, none⟩ (.bool m5)).setCell ⟨r0, 1, none⟩ (.slice a5 l5 c5)) := ((hK.trans hk5).setCell hrw _).setCell hrw _
      have hX : KeptX (fun k => k = r0) w5 ((w5.setCell ⟨r0, 0, none⟩ (.bool m5)).setCell ⟨r0, 1, none⟩ (.slice a5 l5 c5)) := ((KeptX.refl (fun k => k = r0) w5).setIn 0 _).setIn 1 _
      have HZ7 := Lib.hid (hz5.keptBox hX hR5)
      obtain ⟨g0, g1, _, _⟩ := bx_cells hRF
      clear hR5 hRF hX hz5 hval2
      go_wp2_with fail
      generalize ((w5.setCell ⟨r0, 0, none⟩ (.bool m5)).setCell ⟨r0, 1, none⟩ (.slice a5 l5 c5)) = WF at *
      exact bodyPost_ret (v := .tuple #[.agg #[.bool m5, .slice a5 l5 c5], .bool true]) (by simp [results, Tryd.results51, go_sem, g0, g1]) rfl ⟨_, rfl, HZ7.out, hKF⟩
theorem digits_any (w : World) (l : List UInt8) (x : Int) (hl : DecL l x) (hn0 : 0 < l.length) (hn1 : l.length ≤ 400) :
    Calls Tryd.prog 51 #[.string (strL l)] w (ReadPost w x) :=
  digits_str w (strL l) l.length x (strL_size l) hn0 hn1 (dec_head hl.2.2.1 hl.1 hn0) (fun i h => decD_chr hl.1 i h) (by rw [← decV_dv]; exact hl.2.1)
end Go.Proofs.YthigeafojekclaaDoor.Num
