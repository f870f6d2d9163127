/-
  The program's fewest.
-/
import Derived.Test.YtomnjcjipdnnfabSi
import Derived.Test.YtomnjcjipdnnfabH
import Derived.RegionTactic
namespace Go.Proofs.Ytomnjcjipdnnfab
open Go.RowKit Go.Deep

def FewPost (w : World) (n : Nat) (J : Nat → Nat → Prop) (e : Ending) (w' : World) : Prop := ∃ (F : Nat → Nat) (r : Nat), e = .returned (.slice (some ⟨r, 0, none⟩) n n) ∧ w'.rowIs r 3 n (fun i => .int .i64 (F i)) ∧ FewAt n J F 0 ∧ Kept w w'
/-- v is the least so far of those after c -/
def MinAt (n : Nat) (J : Nat → Nat → Prop) (F : Nat → Nat) (c j v : Nat) : Prop := (∃ p, c < p ∧ p < n ∧ J c p ∧ v = F p + 1) ∧ ∀ p, c < p → p < j → J c p → v ≤ F p + 1
theorem min_few {n : Nat} {J : Nat → Nat → Prop} {F : Nat → Nat} {c v : Nat} (hc : c + 1 < n) (hF : FewAt n J F (c + 1)) (h : MinAt n J F c n v) : FewAt n J (fun i => if i = c then v else F i) c where
  last := by simp only [show ¬ (n - 1 = c) by omega, if_false]; exact hF.last
  has := fun i h1 h2 => by
    by_cases e : i = c
    · subst e
      obtain ⟨p, p1, p2, p3, p4⟩ := h.1
      exact ⟨p, p1, p2, p3, by simp only [if_true, show ¬ (p = i) by omega, if_false]; exact p4⟩
    · obtain ⟨p, p1, p2, p3, p4⟩ := hF.has i (by omega) h2
      exact ⟨p, p1, p2, p3, by simp only [e, show ¬ (p = c) by omega, if_false]; exact p4⟩
  least := fun i j h1 h2 h3 h4 => by
    by_cases e : i = c
    · subst e
      simp only [if_true, show ¬ (j = i) by omega, if_false]
      exact h.2 j h2 h3 h4
    · simp only [e, show ¬ (j = c) by omega, if_false]
      exact hF.least i j (by omega) h2 h3 h4
set_option maxRecDepth 100000 in
set_option maxHeartbeats 8000000 in
theorem fewest_any (w : World) (n cap1 : Nat) (a1 : Option Addr) (A B : Nat → Int) (lim : Int) (hA : PairsAt w (.slice a1 n cap1) n A B) (hR : InR n A B) (hn : 1 ≤ n) (hn2 : n ≤ 1000) (hcap : n ≤ cap1) :
    Calls Try.prog 30 #[.slice a1 n cap1, .int .i64 lim] w (FewPost w n (SkipsAt A B lim)) := by
  have hmk := fun W => mkInts (n : Int) n rfl (by omega) W
  have hrow := World.rowIs_made w (.int .i64 0) n 3
  have hk0 : Kept w (w.alloc (.cells (madeCells #[.int .i64 0] n) 3)) := (Kept.refl w).alloc _
  have HR := Lib.hid hR
  have h0 : FewAt n (SkipsAt A B lim) (fun _ => 0) (n - 1) := ⟨rfl, fun i h1 h2 => by omega, fun i j h1 h2 h3 => by omega⟩
  have HH0 := Lib.hid h0
  have hone : Hid (∀ i, i + 1 < n → SkipsAt A B lim i (i + 1)) := fun i _ => skips_one i
  clear hR h0
  go_enter Try.func30, Try.ntmps30
  go_wp2_with fail
  obtain ⟨r, HRR⟩ : ∃ r, Hid (r = w.heap.size) := ⟨_, rfl⟩
  have hrs : Hid (w.heap.size ≤ r) := by rw [HRR.out]; exact Nat.le_refl _
  rw [← HRR.out] at hrow ⊢
  generalize w.alloc (.cells (madeCells #[.int .i64 0] n) 3) = W0 at *
  clear hmk
  go_loopg [6] n (fun g s6 wr => ∃ (t : Nat) (F : Nat → Nat), t + 1 ≤ n ∧ g = n - t ∧ s6 = .int .i64 ((n : Int) - 2 - t) ∧ Kept w wr ∧ wr.rowIs r 3 n (fun i => .int .i64 (F i)) ∧ Hid (FewAt n (SkipsAt A B lim) F (n - 1 - t)))
  case atStart => exact ⟨0, fun _ => 0, by omega, rfl, by go_num, hk0, hrow, HH0.out⟩
  case round =>
    obtain ⟨t, F, ht, rfl, rfl, hK, hrw, hF⟩ := hrel
    clear HH0 hrow hk0
    by_cases hlt : t + 1 < n
    · obtain ⟨c, hc⟩ : ∃ c, c = n - 2 - t := ⟨_, rfl⟩
      have ec : (n : Int) - 2 - (t : Int) = (c : Int) := by omega
      have hbd := few_lt hF.out hone.out (n - 1 - (c + 1)) (c + 1) (by omega) (by omega)
      have hb1 : F (c + 1) ≤ 1000 := by omega
      have t0 := hrw.cell (i := c + 1) (by omega)
      have t1 := hrw.frozen c
      have t2 := hrw.cell (i := c) (by omega)
      have hs : ((c : Int) + 1).toNat = c + 1 := by omega
      have s1 : (0 : Int) ≤ (c : Int) := by omega
      have s2 : (c : Int) < (n : Int) := by omega
      have s3 : (c : Int) + 1 < (n : Int) := by omega
      have HC := Lib.hid hc
      rw [ec]
      clear hc ec hbd
      obtain ⟨f1, HF1⟩ : ∃ f1, Hid (f1 = F (c + 1)) := ⟨_, rfl⟩
      rw [← HF1.out] at t0 hb1
      go_wp2_with fail
      have hset := (hrw.set c (.int .i64 (1 + (f1 : Int)))).congr (g := fun i => .int .i64 ((if i = c then f1 + 1 else F i : Nat) : Int)) (fun j hj => by
        by_cases e : j = c
        · subst e; simp; omega
        · simp [e])
      have hkS : Kept w (wr.setCell ⟨r, c, none⟩ (.int .i64 (1 + (f1 : Int)))) := hK.setCell hrs.out _
      have hM0 : Hid (MinAt n (SkipsAt A B lim) F c (c + 1) (f1 + 1)) := ⟨⟨c + 1, by omega, by have := HC.out; omega, hone.out c (by have := HC.out; omega), by rw [HF1.out]⟩, fun p h1 h2 => by omega⟩
      generalize wr.setCell ⟨r, c, none⟩ (.int .i64 (1 + (f1 : Int))) = W1 at *
      clear t0 t1 t2
      go_loopg [7] (n - (c + 1)) (fun g s7 wi => ∃ (j v : Nat), c + 1 ≤ j ∧ j ≤ n ∧ g = n - j ∧ s7 = .int .i64 j ∧ Kept w wi ∧ wi.rowIs r 3 n (fun i => .int .i64 ((if i = c then v else F i : Nat) : Int)) ∧ Hid (MinAt n (SkipsAt A B lim) F c j v))
      case atStart => exact ⟨c + 1, f1 + 1, Nat.le_refl _, by omega, rfl, by go_num, hkS, hset, hM0.out⟩
      case round =>
        clear hset hkS hM0 hK hrw
        obtain ⟨j, v, hj1, hj2, rfl, rfl, hK, hrw, hM⟩ := hrel
        by_cases hlt2 : j < n
        · have hAj := hA.kept hK
          go_wp2_with fail
          refine (skips_any _ n c j cap1 a1 A B lim hAj HR.out (by omega) hlt2 hn2 hcap).mono ?_
          rintro e w2 ⟨b, rfl, hb, hk2⟩
          have hHB := Lib.hid hb
          have hK2 := hK.trans hk2
          have hrw2 := hk2.row hrw
          clear hAj hb hK hrw hk2
          cases b
          · have hM2 : Hid (MinAt n (SkipsAt A B lim) F c (j + 1) v) := ⟨hM.out.1, fun p h1 h2 h3 => by
              by_cases e : p = j
              · subst e; exact absurd (hHB.out.2 h3) (by simp)
              · exact hM.out.2 p h1 (by omega) h3⟩
            clear hHB hM
            go_wp2_with fail
            go_roundg (n - (j + 1))
            case measure => omega
            case rel => exact ⟨j + 1, v, by omega, by omega, rfl, by go_num, hK2, hrw2, hM2⟩
          · have hJ : SkipsAt A B lim c j := hHB.out.1 rfl
            have hbj := few_lt hF.out hone.out (n - 1 - j) j (by have := HC.out; omega) (by omega)
            have t0 := hrw2.cell (i := c) (by omega)
            have t1 := hrw2.cell (i := j) hlt2
            have t2 := hrw2.frozen c
            simp only [if_true, show ¬ (j = c) by omega, if_false] at t0 t1
            have hv := hM.out.2 (c + 1)
            have hb2 : F j ≤ 1000 := by omega
            obtain ⟨f2, HF2⟩ : ∃ f2, Hid (f2 = F j) := ⟨_, rfl⟩
            rw [← HF2.out] at t1 hb2
            have hM2 : Hid (MinAt n (SkipsAt A B lim) F c (j + 1) (min v (f2 + 1))) := by
              have h3 : v ≤ F j + 1 ∨ F j + 1 < v := by omega
              rw [HF2.out]
              refine ⟨?_, fun p h1 h2 h3 => ?_⟩
              · rcases h3 with h3 | h3
                · rw [Nat.min_eq_left h3]; exact hM.out.1
                · rw [Nat.min_eq_right (by omega)]; exact ⟨j, by omega, hlt2, hJ, rfl⟩
              · by_cases e : p = j
                · subst e; omega
                · have := hM.out.2 p h1 (by omega) h3; omega
            have hvb : v ≤ 1001 := by
              obtain ⟨p, p1, p2, p3, p4⟩ := hM.out.1
              have := few_lt hF.out hone.out (n - 1 - p) p (by have := HC.out; omega) (by omega)
              omega
            clear hHB hM hJ hbj hv
            have s4 : (0 : Int) ≤ (j : Int) := by omega
            have s5 : (j : Int) < (n : Int) := by omega
            go_wp2_with fail
            go_region
            have hset := Kept.row ((Kept.refl _).drew) ((hrw2.set c (.int .i64 (if 1 + (f2 : Int) < (v : Int) then 1 + (f2 : Int) else (v : Int)))).congr (g := fun i => .int .i64 ((if i = c then min v (f2 + 1) else F i : Nat) : Int)) (fun j hj => by
              by_cases e : j = c
              · subst e
                simp only [if_true]
                congr 1
                split <;> omega
              · simp [e]))
            have hkS : Kept w (w2.setCell ⟨r, c, none⟩ (.int .i64 (if 1 + (f2 : Int) < (v : Int) then 1 + (f2 : Int) else (v : Int)))).drew := (hK2.setCell hrs.out _).drew
            generalize (w2.setCell ⟨r, c, none⟩ (.int .i64 (if 1 + (f2 : Int) < (v : Int) then 1 + (f2 : Int) else (v : Int)))).drew = W2 at *
            clear t0 t1 t2
            go_wp2_with fail
            all_goals
              go_roundg (n - (j + 1))
              case measure => omega
              case rel => exact ⟨j + 1, min v (f2 + 1), by omega, by omega, rfl, by go_num, hkS, hset, hM2⟩
        · obtain rfl : j = n := by omega
          have hF2 : Hid (FewAt j (SkipsAt A B lim) (fun i => if i = c then v else F i) (j - 1 - (t + 1))) := by
            have := min_few (J := SkipsAt A B lim) (F := F) (c := c) (v := v) (by have := HC.out; omega) (by rw [show c + 1 = j - 1 - t by have := HC.out; omega]; exact hF.out) hM.out
            rw [show j - 1 - (t + 1) = c by have := HC.out; omega]
            exact this
          have ec : (c : Int) - 1 = (j : Int) - 2 - ((t + 1 : Nat) : Int) := by have := HC.out; omega
          have hEC := Lib.hid ec
          clear ec hM hF
          go_wp2_with fail
          go_roundg (j - (t + 1))
          case measure => omega
          case rel => exact ⟨t + 1, _, by omega, rfl, by rw [← hEC.out], hK, hrw, hF2.out⟩
    · have ec : (n : Int) - 2 - (t : Int) = -1 := by omega
      rw [ec]
      have hF2 : Hid (FewAt n (SkipsAt A B lim) F 0) := by rw [show 0 = n - 1 - t by omega]; exact hF.out
      clear ec hF
      go_wp2_with fail
      go_ret
      exact ⟨F, r, rfl, hrw, hF2.out, hK⟩
end Go.Proofs.Ytomnjcjipdnnfab
