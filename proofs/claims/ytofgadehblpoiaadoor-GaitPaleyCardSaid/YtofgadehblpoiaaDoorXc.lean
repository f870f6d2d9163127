/-
  The reference of gait: Normal. GaitMatrices.
-/
import Derived.Test.YtofgadehblpoiaaDoorXb
import Derived.Test.YtofgadehblpoiaaDoorLv
import Derived.Test.YtofgadehblpoiaaDoorMc
namespace Go.Proofs.YtofgadehblpoiaaDoor
open Go.RowKit Go.Deep Go.Shelf

theorem own_row1 {w : World} {base e : Nat} {n g cap : Nat} {S : Nat → ByteArray} (h : w.ownsRow base e 1 (.slice (some ⟨g, 0, none⟩) n cap) n (strs S n)) : ∃ N f, w.rowIs g e N f ∧ n ≤ N ∧ base ≤ g ∧ ∀ j, j < n → f j = .string (S j) := by
  obtain ⟨hl, h⟩ := h
  rcases h with ⟨h1, _⟩ | ⟨g', cap', cur, h1, h2, h3, h4, _, hs, ht⟩
  · cases h1
  · cases h1
    have hsz : n ≤ cur.size := by
      have := congrArg List.length ht
      simp [strs] at this
      omega
    refine ⟨cur.size, fun i => cur.getD i undef, ⟨cur, h3, rfl, fun i hi => by simp [Array.getD, hi]⟩, hsz, h2, fun j hj => ?_⟩
    have g1 := strs_get (S := S) hj
    rw [← ht, List.getElem?_take, if_pos (by omega)] at g1
    simp [Array.getD, show j < cur.size by omega] at g1 ⊢
    exact g1
theorem own_some {w : World} {base e : Nat} {v : Value} {n : Nat} {xs : List Value} (h : w.ownsRow base e 1 v n xs) (hn : 0 < n) : ∃ g cap, v = .slice (some ⟨g, 0, none⟩) n cap := by
  rcases h.2 with ⟨rfl, rfl⟩ | ⟨g, cap, cur, rfl, _⟩
  · have := h.1; simp at this; omega
  · exact ⟨g, cap, rfl⟩
/-- the columns, the first of which says what is changed -/
def nc1 (M : Nat → Nat → Bool) (j i : Nat) : Bool := M i j ^^ M 0 j
theorem minRow (n : Nat) (p : Nat → Bool) : rowS n (fun i => chr (rowS n p) i == 43) = rowS n (fun i => !p i) := chgS n p
set_option maxRecDepth 100000 in
set_option maxHeartbeats 16000000 in
theorem rNormal_any (w : World) (v : Value) (n : Nat) (M : Nat → Nat → Bool) (hV : StrsAt w v n (fun i => rowS n (M i))) (hn1 : 1 ≤ n) (hn : n ≤ 100) :
    Calls Tryd.prog 35 #[v] w (StrsPost w n (norS n M)) := by
  obtain ⟨i0, hi, hz0, hz1, hz2⟩ := info_parts Tryd.info9
  have CO := Lib.hid (fun W v (M : Nat → Nat → Bool) (h : StrsAt W v n (fun i => rowS n (M i))) => rColumns_any W v n M h hn)
  have MI := Lib.hid (fun W (p : Nat → Bool) => show Calls Tryd.prog 45 #[.string (rowS n p)] W fun e w' => e = .returned (.string (rowS n (fun i => !p i))) ∧ W = w' by
    have h := rMinus_any W (rowS n p) n (rowS_size _ _) (by omega)
    rw [minRow] at h
    exact h)
  unfold StrsPost at CO
  go_enter Tryd.func35, Tryd.ntmps35
  go_wp2_with (first | (go_at_call 49; refine (CO.out _ _ M hV).mono ?_; rintro e w1 ⟨v1, rfl, hk1, hO1⟩; obtain ⟨g1, c1, rfl⟩ := own_some hO1 (by omega)))
  obtain ⟨N1, f1, hr1, hN1, hg1, hf1⟩ := own_row1 hO1
  have hOo : ((w1.alloc (.cells #[] 9))).ownsRow w1.heap.size 9 1 (.slice (some ⟨w1.heap.size, 0, none⟩) 0 0) 0 [] := own_zero w1 w1.heap.size 9 (Nat.le_refl _)
  have hk1' := hk1.alloc (.cells #[] 9)
  have hr1' := ((Kept.refl w1).alloc (.cells #[] 9)).row hr1
  have hg1w : g1 < w1.heap.size := hr1.lt
  have hr2 := hr1'.congr (g := fun j => if j < n then .string (if j < 0 then rowS n (nc1 M j) else rowS n (fun i => M i j)) else f1 j) (fun j _ => by
    by_cases e : j < n
    · rw [if_pos e, hf1 j e]; rfl
    · rw [if_neg e])
  clear hO1 hr1 hr1' hf1 hk1 hV
  obtain ⟨G, HG⟩ : ∃ G, Hid (G = w1.heap.size) := ⟨_, rfl⟩
  rw [← HG.out] at hOo hg1w ⊢
  have hGw : w.heap.size ≤ G := by omega
  generalize w1.alloc (.cells #[] 9) = W0 at *
  go_loopg [5] n (fun g s5 wr => ∃ j : Nat, j ≤ n ∧ g = n - j ∧ s5 = .int .i64 j ∧ Kept w wr ∧ wr.rowIs g1 9 N1 (fun a => if a < n then .string (if a < j then rowS n (nc1 M a) else rowS n (fun i => M i a)) else f1 a) ∧ wr.ownsRow G 9 1 (.slice (some ⟨G, 0, none⟩) 0 0) 0 [])
  case atStart => exact ⟨0, Nat.zero_le _, rfl, rfl, hk1', hr2, hOo⟩
  case round =>
    obtain ⟨j, hj, rfl, rfl, hK, hr, hO⟩ := hrel
    clear hk1' hr2 hOo
    by_cases hlt : j < n
    · have s3 : (j : Int) < (n : Int) := by omega
      have s4 : (0 : Int) ≤ (j : Int) := by omega
      have x0 := hr.cell (show j < N1 by omega)
      have x1 := hr.frozen j
      simp only [Nat.lt_irrefl, if_false, if_pos hlt] at x0
      have hch := chr_rowS (p := fun i => M i j) (show 0 < n by omega)
      have MIj := Lib.hid (fun W => MI.out W (fun i => M i j))
      have hTs : (rowS n (fun i => M i j)).size = n := rowS_size _ _
      cases hb : M 0 j with
      | false =>
        simp only [hb, Bool.false_eq_true, if_false] at hch
        have hfin : rowS n (fun i => M i j) = rowS n (nc1 M j) := rowS_congr fun i _ => by unfold nc1; rw [hb, Bool.xor_false]
        have hr3 := hr.congr (g := fun a => if a < n then .string (if a < j + 1 then rowS n (nc1 M a) else rowS n (fun i => M i a)) else f1 a) (fun a _ => by
          by_cases e : a < n
          · rw [if_pos e, if_pos e]
            by_cases e2 : a = j
            · subst e2; simp [hfin]
            · by_cases e3 : a < j
              · simp [e3, show a < j + 1 by omega]
              · simp [e3, show ¬ a < j + 1 by omega]
          · rw [if_neg e, if_neg e])
        clear hb hfin hr
        generalize rowS n (fun i => M i j) = T at *
        have hat := chr_at (s := T) (i := 0) (by omega)
        rw [hch] at hat
        clear hch
        go_wp2_with fail
        go_roundg (n - (j + 1))
        case measure => omega
        case rel => exact ⟨j + 1, by omega, rfl, by first | rfl | go_num, hK, hr3, hO⟩
      | true =>
        simp only [hb, if_true] at hch
        have hfin : rowS n (fun i => !M i j) = rowS n (nc1 M j) := rowS_congr fun i _ => by unfold nc1; rw [hb, Bool.xor_true]
        have hr3 := (hr.set j (.string (rowS n (fun i => !M i j)))).congr (g := fun a => if a < n then .string (if a < j + 1 then rowS n (nc1 M a) else rowS n (fun i => M i a)) else f1 a) (fun a _ => by
          by_cases e : a < n
          · by_cases e2 : a = j
            · subst e2; simp [hfin, e]
            · by_cases e3 : a < j
              · simp [e, e2, e3, show a < j + 1 by omega]
              · simp [e, e2, e3, show ¬ a < j + 1 by omega]
          · have : a ≠ j := by omega
            simp [e, this])
        have hO2 : (wr.setCell ⟨g1, j, none⟩ (.string (rowS n (fun i => !M i j)))).ownsRow G 9 1 (.slice (some ⟨G, 0, none⟩) 0 0) 0 [] := own_keptX hO (S := fun k => k = g1) ((KeptX.refl _ _).setIn j _) (fun b hb => by rw [hb]; exact hg1w)
        clear hb hfin hr
        generalize rowS n (fun i => !M i j) = T2 at *
        generalize rowS n (fun i => M i j) = T at *
        have hat := chr_at (s := T) (i := 0) (by omega)
        rw [hch] at hat
        clear hch
        go_wp2_with (first | (go_at_call 45; refine (MIj.out _).mono ?_; rintro e w2 ⟨rfl, rfl⟩))
        go_roundg (n - (j + 1))
        case measure => omega
        case rel => exact ⟨j + 1, by omega, rfl, by first | rfl | go_num, hK.setCell hg1 _, hr3, hO2⟩
    · obtain rfl : j = n := by omega
      have s3 : ¬ (j : Int) < (j : Int) := by omega
      have hS2 : StrsAt wr (.slice (some ⟨g1, 0, none⟩) j c1) j (fun a => rowS j (nc1 M a)) := ⟨_, g1, 0, c1, rfl, fun _ => rfl, fun a ha => by
        rw [Nat.zero_add, hr.cell (by omega)]
        simp [ha]⟩
      clear hr
      go_wp2_with (first | (go_at_call 49; refine (CO.out _ _ (nc1 M) hS2).mono ?_; rintro e w2 ⟨v2, rfl, hk2, hO2⟩; obtain ⟨g2, c2, rfl⟩ := own_some hO2 (by omega)))
      have hS3 := strs_own hO2
      have HC3 : Hid (∀ a, a < j → w2.cell? ⟨g2, a, none⟩ = some (.string (colS j (nc1 M) a))) := by
        obtain ⟨_, bq, oq, cap3, he3, ha3, hc3⟩ := hS3
        cases he3
        have e3 := ha3 (by omega)
        cases e3
        intro a ha
        have := hc3 a ha
        rw [Nat.zero_add] at this
        exact this
      have hgw : wr.heap.size ≤ g2 := by
        obtain ⟨_, _, _, _, h, _⟩ := own_row1 hO2
        exact h
      have hK2 := hK.trans hk2
      have hOg := own_kept hO hk2
      have hGs : G < w2.heap.size := by
        rcases hOg.2 with ⟨h1, _⟩ | ⟨g, cap, cur, h1, h2, h3, _⟩
        · cases h1
        · cases h1
          rcases Nat.lt_or_ge G w2.heap.size with h | h
          · exact h
          · rw [Array.getElem?_eq_none h] at h3; cases h3
      clear hS3 hO2 hS2 hk2 hK CO
      have hg2 : g2 < w2.heap.size := World.block_lt_of_cell? _ _ (HC3.out 0 (by omega))
      have hGb : G ≠ g2 := by
        rcases hO.2 with ⟨h1, _⟩ | ⟨g, cap, cur, h1, h2, h3, _⟩
        · cases h1
        · cases h1
          rcases Nat.lt_or_ge G wr.heap.size with h | h
          · omega
          · rw [Array.getElem?_eq_none h] at h3; cases h3
      clear hO hgw
      have hc3' : Hid (∀ a, a < j → w2.cell? ⟨g2, a, none⟩ = some (.string (colS j (nc1 M) a))) := fun a ha => HC3.out a ha
      go_loopg [4, 6] j (fun g s4 s6 wr => ∃ (i gb cb : Nat), i ≤ j ∧ g = j - i ∧ s4 = .slice (some ⟨gb, 0, none⟩) i cb ∧ s6 = .int .i64 i ∧ Kept w wr ∧ wr.ownsRow G 9 1 (.slice (some ⟨gb, 0, none⟩) i cb) i (strs (norS j M) i) ∧ gb ≠ g2 ∧ gb < wr.heap.size ∧ G ≤ wr.heap.size ∧ g2 < wr.heap.size ∧ Hid (∀ a, a < j → wr.cell? ⟨g2, a, none⟩ = some (.string (colS j (nc1 M) a))))
      case atStart => exact ⟨0, G, 0, Nat.zero_le _, rfl, rfl, rfl, hK2, hOg, hGb, hGs, Nat.le_of_lt hGs, hg2, hc3'⟩
      case round =>
        obtain ⟨i, gb, cb, hi', rfl, rfl, rfl, hK3, hO3, hgb, hgs, hGz, hbs, hcl⟩ := hrel
        clear hK2 hOg hGb hGs hg2 hc3'
        by_cases hlt2 : i < j
        · have s4 : (i : Int) < (j : Int) := by omega
          have s5 : (0 : Int) ≤ (i : Int) := by omega
          have t0 := hcl.out i hlt2
          have hcs : colS j (nc1 M) i = rowS j (fun a => nc1 M a i) := rfl
          rw [hcs] at t0
          have hnx : Hid (strs (norS j M) (i + 1) = strs (norS j M) i ++ [.string (norS j M i)]) := strs_succ _ _
          have hch := chr_rowS (p := fun a => nc1 M a i) (show 0 < j by omega)
          have MIj := Lib.hid (fun W => MI.out W (fun a => nc1 M a i))
          have hTs : (rowS j (fun a => nc1 M a i)).size = j := rowS_size _ _
          clear hcs
          cases hb : nc1 M 0 i with
          | false =>
            simp only [hb, Bool.false_eq_true, if_false] at hch
            have hfin : norS j M i = rowS j (fun a => nc1 M a i) := rowS_congr fun a _ => by
              unfold norP
              rw [show (M i 0 ^^ M 0 0) = nc1 M 0 i from rfl, hb, Bool.xor_false]
              rfl
            rw [hfin] at hnx
            clear hb hfin
            generalize rowS j (fun a => nc1 M a i) = T at *
            have hat := chr_at (s := T) (i := 0) (by omega)
            rw [hch] at hat
            clear hch
            go_wp2_with (first | (at_builtin; refine wpList_append_lies _ rfl _ _ 42 rfl G 9 i0 (.string ⟨#[]⟩) 1 16 Tryd.underlying42 hi hz0 hz1 hz2 rfl (by decide) _ _ _ rfl (hO3.alloc _) ⟨_, 0, none⟩ 1 1 [.string T] rfl rfl (cell_one_new _ _ _) ?c2 ?c6 ?c3 ?c4 ?c5 _ rfl ?_))
            case c2 => simp [Value.oneCell']
            case c6 => decide
            case c3 => unfold maxLen; omega
            case c4 => omega
            case c5 => (try simp); omega
            intro g5 cap5 w5 hO5 hgr hor hlt5
            have hK5 : Kept w w5 := (hK3.alloc _).grew hgr (hO3.alloc _) hGw
            have hO6 : w5.ownsRow G 9 1 (.slice (some ⟨g5, 0, none⟩) (i + 1) cap5) (i + 1) (strs (norS j M) (i + 1)) := by rw [hnx.out]; exact hO5
            have hb5 : g5 ≠ g2 := by
              rcases hor with h | h
              · simp [Value.ownBlock] at h; omega
              · (try simp at h); omega
            have hc5 : Hid (∀ a, a < j → w5.cell? ⟨g2, a, none⟩ = some (.string (colS j (nc1 M) a))) := fun a ha => by
              rw [hgr.cell_far ⟨g2, a, none⟩ (by simp; omega) (by simp [Value.ownBlock]; omega)]
              exact ((Kept.refl _).alloc _).cellSome (hcl.out a ha)
            have hGz5 : G ≤ w5.heap.size := by have := hgr.size; simp at this; omega
            have hsz5 : g2 < w5.heap.size := by have := hgr.size; simp at this; omega
            clear hO5 hgr hor hO3 hcl
            go_wp2_with fail
            go_roundg (j - (i + 1))
            case measure => omega
            case rel => exact ⟨i + 1, g5, cap5, by omega, rfl, rfl, by first | rfl | go_num, hK5, hO6, hb5, hlt5, hGz5, hsz5, hc5⟩
          | true =>
            simp only [hb, if_true] at hch
            have hfin : norS j M i = rowS j (fun a => !nc1 M a i) := rowS_congr fun a _ => by
              unfold norP
              rw [show (M i 0 ^^ M 0 0) = nc1 M 0 i from rfl, hb, Bool.xor_true]
              rfl
            rw [hfin] at hnx
            clear hb hfin
            generalize rowS j (fun a => !nc1 M a i) = T2 at *
            generalize rowS j (fun a => nc1 M a i) = T at *
            have hat := chr_at (s := T) (i := 0) (by omega)
            rw [hch] at hat
            clear hch
            go_wp2_with (first | (go_at_call 45; refine (MIj.out _).mono ?_; rintro e w4 ⟨rfl, rfl⟩) | (at_builtin; refine wpList_append_lies _ rfl _ _ 42 rfl G 9 i0 (.string ⟨#[]⟩) 1 16 Tryd.underlying42 hi hz0 hz1 hz2 rfl (by decide) _ _ _ rfl (hO3.alloc _) ⟨_, 0, none⟩ 1 1 [.string T2] rfl rfl (cell_one_new _ _ _) ?c2 ?c6 ?c3 ?c4 ?c5 _ rfl ?_))
            case c2 => simp [Value.oneCell']
            case c6 => decide
            case c3 => unfold maxLen; omega
            case c4 => omega
            case c5 => (try simp); omega
            intro g5 cap5 w5 hO5 hgr hor hlt5
            have hK5 : Kept w w5 := (hK3.alloc _).grew hgr (hO3.alloc _) hGw
            have hO6 : w5.ownsRow G 9 1 (.slice (some ⟨g5, 0, none⟩) (i + 1) cap5) (i + 1) (strs (norS j M) (i + 1)) := by rw [hnx.out]; exact hO5
            have hb5 : g5 ≠ g2 := by
              rcases hor with h | h
              · simp [Value.ownBlock] at h; omega
              · (try simp at h); omega
            have hc5 : Hid (∀ a, a < j → w5.cell? ⟨g2, a, none⟩ = some (.string (colS j (nc1 M) a))) := fun a ha => by
              rw [hgr.cell_far ⟨g2, a, none⟩ (by simp; omega) (by simp [Value.ownBlock]; omega)]
              exact ((Kept.refl _).alloc _).cellSome (hcl.out a ha)
            have hGz5 : G ≤ w5.heap.size := by have := hgr.size; simp at this; omega
            have hsz5 : g2 < w5.heap.size := by have := hgr.size; simp at this; omega
            clear hO5 hgr hor hO3 hcl
            go_wp2_with fail
            go_roundg (j - (i + 1))
            case measure => omega
            case rel => exact ⟨i + 1, g5, cap5, by omega, rfl, rfl, by first | rfl | go_num, hK5, hO6, hb5, hlt5, hGz5, hsz5, hc5⟩
        · obtain rfl : i = j := by omega
          have s4 : ¬ (i : Int) < (i : Int) := by omega
          go_wp2_with fail
          go_ret
          exact ⟨_, rfl, hK3, own_base hO3 hGw⟩
end Go.Proofs.YtofgadehblpoiaaDoor
