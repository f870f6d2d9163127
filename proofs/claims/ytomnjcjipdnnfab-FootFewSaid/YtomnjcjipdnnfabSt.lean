/-
  The program's short.
-/
import Derived.Test.YtomnjcjipdnnfabSf
import Derived.Test.YtomnjcjipdnnfabIn
namespace Go.Proofs.Ytomnjcjipdnnfab
open Go.RowKit Go.Deep

def ShortPost (w : World) (n : Nat) (J : Nat → Nat → Prop) (e : Ending) (w' : World) : Prop := ∃ (F s : Nat → Nat) (v : Value), e = .returned v ∧ w'.ownsRow w.heap.size 3 1 v (F 0 + 1) (ints (fun t => (s t : Int)) (F 0 + 1)) ∧ FewAt n J F 0 ∧ ShortTo n J F s (F 0) ∧ Kept w w'
theorem ints_one (w : World) (base s : Nat) (x : Int) (hs : w.heap.size = s) (hb : base ≤ s) : (w.alloc (.cells #[.int .i64 x] 3)).ownsRow base 3 1 (.slice (some ⟨s, 0, none⟩) 1 1) 1 (ints (fun _ => x) 1) := by
  subst hs
  exact own_base (World.ownsRow_lit _ #[.int .i64 x] 1 (Nat.le_refl _) (by decide) rfl) hb
theorem own_grown {w w' : World} {base b n k : Nat} {v : Value} {f : Nat → Value} {xs : List Value} (h : w.rowIs b 3 n f) (hb : b < base) (ho : w.ownsRow base 3 1 v k xs) (hg : w.grownBy w' v.ownBlock) : w'.rowIs b 3 n f :=
  KeptX.row (grew_X hg ho) h (by omega)
set_option maxRecDepth 100000 in
set_option maxHeartbeats 8000000 in
theorem short_any (w : World) (n cap1 : Nat) (a1 : Option Addr) (A B : Nat → Int) (lim : Int) (hA : PairsAt w (.slice a1 n cap1) n A B) (hR : InR n A B) (hn : 1 ≤ n) (hn2 : n ≤ 1000) (hcap : n ≤ cap1) :
    Calls Try.prog 19 #[.slice a1 n cap1, .int .i64 lim] w (ShortPost w n (SkipsAt A B lim)) := by
  obtain ⟨i0, hi, hz0, hz1, hz2⟩ := info_parts Try.info3
  have HR := Lib.hid hR
  clear hR
  go_enter Try.func19, Try.ntmps19
  go_wp2_with fail
  refine (fewest_any _ n cap1 a1 A B lim hA HR.out hn hn2 hcap).mono ?_
  rintro e w1 ⟨F, r, rfl, hrw1, hF, hk1⟩
  have HF := Lib.hid hF
  clear hF
  go_wp2_with fail
  have hO1 := ints_one w1 w1.heap.size w1.heap.size 0 rfl (Nat.le_refl _)
  have hrlt : r < w1.heap.size := hrw1.lt
  have hwle : w.heap.size ≤ w1.heap.size := hk1.size
  have hk2 := hk1.alloc (.cells #[.int .i64 0] 3)
  have hrw2 := ((Kept.refl w1).alloc (.cells #[.int .i64 0] 3)).row hrw1
  have hS0 : Hid (ShortTo n (SkipsAt A B lim) F (fun _ => 0) 0) := ShortTo.one (by omega)
  have hsz1 : w1.heap.size ≤ (w1.alloc (.cells #[.int .i64 0] 3)).heap.size := by simp
  generalize w1.alloc (.cells #[.int .i64 0] 3) = W1 at *
  generalize w1.heap.size = B0 at *
  clear hrw1 hk1
  go_loopg [6, 15] n (fun g s6 s15 wr => ∃ (j t : Nat) (s : Nat → Nat), j ≤ n ∧ g = n - j ∧ s15 = .int .i64 j ∧ Kept w wr ∧ wr.rowIs r 3 n (fun i => .int .i64 (F i)) ∧ B0 ≤ wr.heap.size ∧ wr.ownsRow B0 3 1 s6 (t + 1) (ints (fun t => (s t : Int)) (t + 1)) ∧ Hid (ShortTo n (SkipsAt A B lim) F s t) ∧ Hid (s t < j ∨ (j = 0 ∧ s t = 0)) ∧ Hid (∀ p, s t < p → p < j → ¬ (SkipsAt A B lim (s t) p ∧ F (s t) = F p + 1)))
  case atStart => exact ⟨0, 0, fun _ => 0, Nat.zero_le _, rfl, rfl, hk2, hrw2, hsz1, hO1, hS0.out, Or.inr ⟨rfl, rfl⟩, fun p h1 h2 => by omega⟩
  case round =>
    obtain ⟨j, t, s, hj, rfl, rfl, hK, hrw, hsz, hO, hS, hlo, hseen⟩ := hrel
    clear hO1 hk2 hrw2 hS0 hsz1
    obtain ⟨oa, ocap, rfl, hc1, _, hc2, hg⟩ := own_form hO
    obtain ⟨g, rfl, hg⟩ := hg (by omega)
    by_cases hlt : j < n
    · have hst := hS.out.low t (Nat.le_refl _)
      have hft := hS.out.few t (Nat.le_refl _)
      have hbd : F 0 ≤ n := by have := few_lt HF.out (fun i _ => skips_one i) (n - 1) 0 (by omega) (by omega); omega
      have t5 := ints_cell hO (i := t) (by omega)
      obtain ⟨i, HI⟩ : ∃ i, Hid (i = s t) := ⟨_, rfl⟩
      rw [← HI.out] at hst t5 hft
      have hlo2 : i < j ∨ (j = 0 ∧ i = 0) := by rw [HI.out]; exact hlo.out
      have x0 := hrw.cell (i := j) hlt
      have x1 := hrw.cell (i := i) hst
      obtain ⟨fj, HFJ⟩ : ∃ fj : Int, Hid (fj = (F j : Int)) := ⟨_, rfl⟩
      obtain ⟨fi, HFI⟩ : ∃ fi : Int, Hid (fi = (F i : Int)) := ⟨_, rfl⟩
      rw [← HFJ.out] at x0
      rw [← HFI.out] at x1
      have s1 : (j : Int) < n := by omega
      have s2 : (i : Int) < n := by omega
      have s3 : (0 : Int) ≤ j := by omega
      have s4 : (0 : Int) ≤ i := by omega
      have s5 : (t : Int) ≤ 1000 := by omega
      have e1 : ((t + 1 : Nat) : Int) - 1 = (t : Int) := by omega
      have s6 : (0 : Int) ≤ t := by omega
      have HLO := Lib.hid hlo2
      by_cases hgo : F j < F i
      · have hij : i < j := by
          rcases hlo2 with h | ⟨rfl, rfl⟩
          · exact h
          · omega
        have hd : decide (fj < fi) = true := decide_eq_true (by rw [HFJ.out, HFI.out]; omega)
        have hAj := hA.kept hK
        have SKP := Lib.hid (fun (W : World) (v : Value) (x y z : Int) (q1 : v = .slice a1 n cap1) (q2 : x = (i : Int)) (q3 : y = (j : Int)) (q4 : z = lim) (hk : Kept wr W) => (show Calls Try.prog 31 #[v, .int .i64 x, .int .i64 y, .int .i64 z] W (SkipsPost W A B lim i j) by subst q1; subst q2; subst q3; subst q4; exact skips_any W n i j cap1 a1 A B z (hAj.kept hk) HR.out hij hlt hn2 hcap))
        have HGO := Lib.hid hgo
        clear hgo hlo2 hst hbd hft hAj
        go_wp2_with fail
        refine wp_region_held_drew (S := (fun w' => w'.cell? ⟨r, j, none⟩ = some (.int .i64 fj) ∧ w'.cell? ⟨r, i, none⟩ = some (.int .i64 fi) ∧ Kept wr w')) (by kernel_rfl) ?_ (fun hHeld => ?_)
        · (try dsimp only)
          exact keep2 x0 x1 (by repeat (first | assumption | exact Kept.refl _ | apply Kept.drew | apply Kept.drewN | apply Kept.alloc | refine Kept.trans ?_ (by assumption)))
        refine wpAnyH_take (i := 0) (oi := { dst := some 24, op := Go.Op.move (Go.Operand.tmp 5), type := 33, pos := "short.go:11", after := #[], guard := none }) (v := ?v1) rfl (by kernel_rfl) (by kernel_rfl) (by kernel_rfl) (fun _ _ _ h => h) (Or.inl ⟨by rfl, ?hy1⟩) (by assumption) ?rs1
        case hy1 =>
          intro w hSw
          (try dsimp only at hSw)
          go_simp
          try with_reducible rfl
        (try simp only [Act.put, List.setIfInBounds_toArray, List.set_cons_zero, List.set_cons_succ])
        refine wpAnyH_take (i := 1) (oi := { dst := some 25, op := Go.Op.move (Go.Operand.tmp 7), type := 3, pos := "short.go:11", after := #[], guard := none }) (v := ?v2) rfl (by kernel_rfl) (by kernel_rfl) (by kernel_rfl) (fun _ _ _ h => h) (Or.inl ⟨by rfl, ?hy2⟩) (by assumption) ?rs2
        case hy2 =>
          intro w hSw
          (try dsimp only at hSw)
          go_simp
          try with_reducible rfl
        (try simp only [Act.put, List.setIfInBounds_toArray, List.set_cons_zero, List.set_cons_succ])
        refine wpAnyH_take (i := 2) (oi := { dst := some 26, op := Go.Op.indexAddr 33 (Go.Operand.tmp 24) (Go.Operand.tmp 25), type := 0, pos := "short.go:11", after := #[{ on := 0, ground := Go.Ground.data }, { on := 1, ground := Go.Ground.data }], guard := none }) (v := ?v3) rfl (by kernel_rfl) (by kernel_rfl) (by kernel_rfl) (fun _ _ _ h => h) (Or.inl ⟨by rfl, ?hy3⟩) (by assumption) ?rs3
        case hy3 =>
          intro w hSw
          (try dsimp only at hSw)
          go_simp
          try with_reducible rfl
        (try simp only [Act.put, List.setIfInBounds_toArray, List.set_cons_zero, List.set_cons_succ])
        refine wpAnyH_take (i := 3) (oi := { dst := some 27, op := Go.Op.load 3 (Go.Operand.tmp 26), type := 3, pos := "short.go:11", after := #[{ on := 2, ground := Go.Ground.data }], guard := none }) (v := ?v4) rfl (by kernel_rfl) (by kernel_rfl) (by kernel_rfl) (fun _ _ _ h => h) (Or.inl ⟨by rfl, ?hy4⟩) (by assumption) ?rs4
        case hy4 =>
          intro w hSw
          (try dsimp only at hSw)
          go_simp
          try with_reducible rfl
        (try simp only [Act.put, List.setIfInBounds_toArray, List.set_cons_zero, List.set_cons_succ])
        refine wpAnyH_take (i := 4) (oi := { dst := some 28, op := Go.Op.move (Go.Operand.tmp 5), type := 33, pos := "short.go:11", after := #[], guard := none }) (v := ?v5) rfl (by kernel_rfl) (by kernel_rfl) (by kernel_rfl) (fun _ _ _ h => h) (Or.inl ⟨by rfl, ?hy5⟩) (by assumption) ?rs5
        case hy5 =>
          intro w hSw
          (try dsimp only at hSw)
          go_simp
          try with_reducible rfl
        (try simp only [Act.put, List.setIfInBounds_toArray, List.set_cons_zero, List.set_cons_succ])
        refine wpAnyH_take (i := 5) (oi := { dst := some 29, op := Go.Op.move (Go.Operand.tmp 8), type := 3, pos := "short.go:11", after := #[], guard := none }) (v := ?v6) rfl (by kernel_rfl) (by kernel_rfl) (by kernel_rfl) (fun _ _ _ h => h) (Or.inl ⟨by rfl, ?hy6⟩) (by assumption) ?rs6
        case hy6 =>
          intro w hSw
          (try dsimp only at hSw)
          go_simp
          try with_reducible rfl
        (try simp only [Act.put, List.setIfInBounds_toArray, List.set_cons_zero, List.set_cons_succ])
        refine wpAnyH_take (i := 6) (oi := { dst := some 30, op := Go.Op.indexAddr 33 (Go.Operand.tmp 28) (Go.Operand.tmp 29), type := 0, pos := "short.go:11", after := #[{ on := 4, ground := Go.Ground.data }, { on := 5, ground := Go.Ground.data }], guard := none }) (v := ?v7) rfl (by kernel_rfl) (by kernel_rfl) (by kernel_rfl) (fun _ _ _ h => h) (Or.inl ⟨by rfl, ?hy7⟩) (by assumption) ?rs7
        case hy7 =>
          intro w hSw
          (try dsimp only at hSw)
          go_simp
          try with_reducible rfl
        (try simp only [Act.put, List.setIfInBounds_toArray, List.set_cons_zero, List.set_cons_succ])
        refine wpAnyH_take (i := 7) (oi := { dst := some 31, op := Go.Op.load 3 (Go.Operand.tmp 30), type := 3, pos := "short.go:11", after := #[{ on := 6, ground := Go.Ground.data }], guard := none }) (v := ?v8) rfl (by kernel_rfl) (by kernel_rfl) (by kernel_rfl) (fun _ _ _ h => h) (Or.inl ⟨by rfl, ?hy8⟩) (by assumption) ?rs8
        case hy8 =>
          intro w hSw
          (try dsimp only at hSw)
          go_simp
          try with_reducible rfl
        (try simp only [Act.put, List.setIfInBounds_toArray, List.set_cons_zero, List.set_cons_succ])
        refine wpAnyH_take (i := 8) (oi := { dst := some 32, op := Go.Op.binOp Go.BinOp.lss 3 (Go.Operand.tmp 27) (Go.Operand.tmp 31) 3, type := 4, pos := "short.go:11", after := #[{ on := 3, ground := Go.Ground.data }, { on := 7, ground := Go.Ground.data }], guard := none }) (v := ?v9) rfl (by kernel_rfl) (by kernel_rfl) (by kernel_rfl) (fun _ _ _ h => h) (Or.inl ⟨by rfl, ?hy9⟩) (by assumption) ?rs9
        case hy9 =>
          intro w hSw
          (try dsimp only at hSw)
          go_simp
          try with_reducible rfl
        (try simp only [Act.put, List.setIfInBounds_toArray, List.set_cons_zero, List.set_cons_succ])
        refine wpAnyH_take (i := 9) (oi := { dst := some 33, op := Go.Op.move (Go.Operand.tmp 32), type := 4, pos := "short.go:11", after := #[{ on := 8, ground := Go.Ground.data }], guard := none }) (v := ?v10) rfl (by kernel_rfl) (by kernel_rfl) (by kernel_rfl) (fun _ _ _ h => h) (Or.inl ⟨by rfl, ?hy10⟩) (by assumption) ?rs10
        case hy10 =>
          intro w hSw
          (try dsimp only at hSw)
          go_simp
          try with_reducible rfl
        (try simp only [Act.put, List.setIfInBounds_toArray, List.set_cons_zero, List.set_cons_succ])
        refine wpAnyH_take (i := 10) (oi := { dst := some 34, op := Go.Op.move (Go.Operand.tmp 0), type := 23, pos := "short.go:11", after := #[{ on := 9, ground := Go.Ground.guard }], guard := some (9, true) }) (v := ?v11) rfl (by kernel_rfl) (by kernel_rfl) (by kernel_rfl) (fun _ _ _ h => h) (Or.inl ⟨by rfl, ?hy11⟩) (by assumption) ?rs11
        case hy11 =>
          intro w hSw
          (try dsimp only at hSw)
          go_simp
          try with_reducible rfl
        (try simp only [Act.put, List.setIfInBounds_toArray, List.set_cons_zero, List.set_cons_succ])
        refine wpAnyH_take (i := 11) (oi := { dst := some 35, op := Go.Op.move (Go.Operand.tmp 8), type := 3, pos := "short.go:11", after := #[{ on := 9, ground := Go.Ground.guard }], guard := some (9, true) }) (v := ?v12) rfl (by kernel_rfl) (by kernel_rfl) (by kernel_rfl) (fun _ _ _ h => h) (Or.inl ⟨by rfl, ?hy12⟩) (by assumption) ?rs12
        case hy12 =>
          intro w hSw
          (try dsimp only at hSw)
          go_simp
          try with_reducible rfl
        (try simp only [Act.put, List.setIfInBounds_toArray, List.set_cons_zero, List.set_cons_succ])
        refine wpAnyH_take (i := 12) (oi := { dst := some 36, op := Go.Op.move (Go.Operand.tmp 7), type := 3, pos := "short.go:11", after := #[{ on := 9, ground := Go.Ground.guard }], guard := some (9, true) }) (v := ?v13) rfl (by kernel_rfl) (by kernel_rfl) (by kernel_rfl) (fun _ _ _ h => h) (Or.inl ⟨by rfl, ?hy13⟩) (by assumption) ?rs13
        case hy13 =>
          intro w hSw
          (try dsimp only at hSw)
          go_simp
          try with_reducible rfl
        (try simp only [Act.put, List.setIfInBounds_toArray, List.set_cons_zero, List.set_cons_succ])
        refine wpAnyH_take (i := 13) (oi := { dst := some 37, op := Go.Op.move (Go.Operand.tmp 1), type := 3, pos := "short.go:11", after := #[{ on := 9, ground := Go.Ground.guard }], guard := some (9, true) }) (v := ?v14) rfl (by kernel_rfl) (by kernel_rfl) (by kernel_rfl) (fun _ _ _ h => h) (Or.inl ⟨by rfl, ?hy14⟩) (by assumption) ?rs14
        case hy14 =>
          intro w hSw
          (try dsimp only at hSw)
          go_simp
          try with_reducible rfl
        (try simp only [Act.put, List.setIfInBounds_toArray, List.set_cons_zero, List.set_cons_succ])
        refine wpAnyH_ready (rs := [14]) (by kernel_rfl) (by simp) ?_
        refine AllReadyH.cons (o := { dst := some 38, op := Go.Op.call { callee := Go.Callee.value (Go.Operand.func 31), args := #[Go.Operand.tmp 34, Go.Operand.tmp 35, Go.Operand.tmp 36, Go.Operand.tmp 37], argTypes := #[23, 3, 3, 3] }, type := 4, pos := "short.go:11", after := #[{ on := 10, ground := Go.Ground.data }, { on := 11, ground := Go.Ground.data }, { on := 12, ground := Go.Ground.data }, { on := 13, ground := Go.Ground.data }, { on := 9, ground := Go.Ground.chain }, { on := 9, ground := Go.Ground.guard }], guard := some (9, true) }) rfl (fun K2 hK2 => ?_) AllReadyH.nil
        go_simp
        (go_at_call 31; refine (SKP.out _ _ _ _ _ (by rfl) (by rfl) (by rfl) (by rfl) (by repeat (first | assumption | exact Kept.refl _ | apply Kept.drew | apply Kept.drewN | apply Kept.alloc | refine Kept.trans ?_ (by assumption)))).mono ?_; rintro e w5 ⟨b, rfl, hb, hk5⟩)
        go_wp2_with fail
        refine hK2.out _ _ ?_ (fun hHeld => ?_)
        · (try dsimp only)
          exact keep2 x0 x1 (by repeat (first | assumption | exact Kept.refl _ | apply Kept.drew | apply Kept.drewN | apply Kept.alloc | refine Kept.trans ?_ (by assumption)))
        clear hK2 K2
        (try simp only [Act.put, List.setIfInBounds_toArray, List.set_cons_zero, List.set_cons_succ])
        refine wpAnyH_take (i := 15) (oi := { dst := some 39, op := Go.Op.pick (Go.Operand.tmp 33) (Go.Operand.tmp 38) (Go.Operand.const (Go.Value.bool false)), type := 4, pos := "short.go:11", after := #[{ on := 9, ground := Go.Ground.data }, { on := 14, ground := Go.Ground.data }], guard := none }) (v := ?v15) rfl (by kernel_rfl) (by kernel_rfl) (by kernel_rfl) (fun _ _ _ h => h) (Or.inl ⟨by rfl, ?hy15⟩) (by assumption) ?rs15
        case hy15 =>
          intro w hSw
          (try dsimp only at hSw)
          go_simp
          try with_reducible rfl
        (try simp only [Act.put, List.setIfInBounds_toArray, List.set_cons_zero, List.set_cons_succ])
        refine wpAnyH_done (by kernel_rfl) ?_ _
        have hKW : Kept wr w5 := (by repeat (first | assumption | exact Kept.refl _ | apply Kept.drew | apply Kept.drewN | apply Kept.alloc | refine Kept.trans ?_ (by assumption)))
        have hHB := Lib.hid hb
        have hKw := hK.trans hKW
        have hrw5 := hKW.row hrw
        have hO5 := own_kept hO hKW
        have hsz5 : B0 ≤ w5.heap.size := Nat.le_trans hsz hKW.size
        clear hb hK hKW hO hrw hHeld x0 x1 t5
        have hsn : ∀ p, s t < p → p < j → ¬ (SkipsAt A B lim (s t) p ∧ F (s t) = F p + 1) := hseen.out
        cases b
        · have hseen2 : Hid (∀ p, s t < p → p < j + 1 → ¬ (SkipsAt A B lim (s t) p ∧ F (s t) = F p + 1)) := fun p h1 h2 h3 => by
            by_cases e : p = j
            · subst e
              rw [← HI.out] at h3
              exact absurd (hHB.out.2 h3.1) (by simp)
            · exact hsn p h1 (by omega) h3
          have hlo3 : Hid (s t < j + 1 ∨ (j + 1 = 0 ∧ s t = 0)) := by rw [← HI.out]; exact Or.inl (by omega)
          clear hsn hseen hlo hHB
          go_wp2_with fail
          go_roundg (n - (j + 1))
          case measure => omega
          case rel => exact ⟨j + 1, t, s, by omega, rfl, by go_num, hKw, hrw5, hsz5, hO5, hS.out, hlo3.out, hseen2.out⟩
        · have hN : Hid (NextAt n (SkipsAt A B lim) F (s t) j) := by
            have hJ := hHB.out.2
            have h1 := HF.out.least i j (Nat.zero_le _) hij hlt (hHB.out.1 rfl)
            have h2 := HGO.out
            show NextAt _ _ _ _ _
            refine ⟨by rw [← HI.out]; exact hij, hlt, by rw [← HI.out]; exact hHB.out.1 rfl, by rw [← HI.out]; omega, hsn⟩
          have hS2 : Hid (ShortTo n (SkipsAt A B lim) F (fun k => if k ≤ t then s k else j) (t + 1)) := hS.out.push hN.out
          have hseen2 : Hid (∀ p, (if t + 1 ≤ t then s (t + 1) else j) < p → p < j + 1 → ¬ (SkipsAt A B lim (if t + 1 ≤ t then s (t + 1) else j) p ∧ F (if t + 1 ≤ t then s (t + 1) else j) = F p + 1)) := by
            intro p h1 h2
            rw [if_neg (by omega)] at h1
            omega
          have hlo3 : Hid ((if t + 1 ≤ t then s (t + 1) else j) < j + 1 ∨ (j + 1 = 0 ∧ (if t + 1 ≤ t then s (t + 1) else j) = 0)) := Or.inl (by rw [if_neg (by omega)]; omega)
          have ei : Hid (ints (fun k => ((if k ≤ t then s k else j : Nat) : Int)) (t + 1 + 1) = ints (fun k => (s k : Int)) (t + 1) ++ [.int .i64 j]) := by
            show _ = _
            rw [← ints_sn]
            refine ints_congr (fun k hk => ?_)
            unfold snI
            by_cases e : k ≤ t
            · rw [if_pos e, if_neg (by omega)]
            · rw [if_neg e, if_pos (by omega)]
          clear hsn hseen hlo hHB hS hN HGO SKP HI
          go_wp2_with (first | (at_builtin; refine wpList_append_own _ rfl _ _ 33 rfl B0 3 i0 (.int .i64 0) 1 8 Try.underlying33 hi hz0 hz1 hz2 rfl (by decide) _ _ _ rfl (hO5.alloc _) ⟨w5.heap.size, 0, none⟩ 1 1 [.int .i64 j] rfl rfl (news_one _ _ _) ?c2 ?c3 ?c4 ?c5 ?_))
          case c2 => simp [Value.oneCell']
          case c3 => unfold maxLen; omega
          case c4 => omega
          case c5 => first | omega | (simp; omega)
          intro v' w2 hO3 hgr _
          have hX2 := grew_X hgr (hO5.alloc (.cells #[.int .i64 j] 3))
          have hK2 : Kept w w2 := (hKw.alloc _).step hX2 (fun i hi => Nat.le_trans hwle hi)
          have hsz6 : B0 ≤ w2.heap.size := Nat.le_trans hsz5 (Nat.le_trans (((Kept.refl w5).alloc (.cells #[.int .i64 j] 3)).size) hgr.size)
          have hrw6 : w2.rowIs r 3 n (fun i => .int .i64 (F i)) := own_grown (((Kept.refl w5).alloc (.cells #[.int .i64 j] 3)).row hrw5) hrlt (hO5.alloc (.cells #[.int .i64 j] 3)) hgr
          have hO6 : w2.ownsRow B0 3 1 v' (t + 1 + 1) (ints (fun k => ((if k ≤ t then s k else j : Nat) : Int)) (t + 1 + 1)) := by
            rw [ei.out]; exact hO3
          clear hO3 hX2 hgr hO5 hrw5 hKw ei
          go_wp2_with fail
          go_roundg (n - (j + 1))
          case measure => omega
          case rel => exact ⟨j + 1, t + 1, fun k => if k ≤ t then s k else j, by omega, rfl, by go_num, hK2, hrw6, hsz6, hO6, hS2.out, hlo3.out, hseen2.out⟩
      · have hd : decide (fj < fi) = false := decide_eq_false (by rw [HFJ.out, HFI.out]; omega)
        have HGO := Lib.hid hgo
        clear hgo hlo2 hst hbd hft
        go_wp2_with fail
        refine wp_region_held_drew (S := (fun w' => w'.cell? ⟨r, j, none⟩ = some (.int .i64 fj) ∧ w'.cell? ⟨r, i, none⟩ = some (.int .i64 fi) ∧ Kept wr w')) (by kernel_rfl) ?_ (fun hHeld => ?_)
        · (try dsimp only)
          exact keep2 x0 x1 (by repeat (first | assumption | exact Kept.refl _ | apply Kept.drew | apply Kept.drewN | apply Kept.alloc | refine Kept.trans ?_ (by assumption)))
        refine wpAnyH_take (i := 0) (oi := { dst := some 24, op := Go.Op.move (Go.Operand.tmp 5), type := 33, pos := "short.go:11", after := #[], guard := none }) (v := ?v16) rfl (by kernel_rfl) (by kernel_rfl) (by kernel_rfl) (fun _ _ _ h => h) (Or.inl ⟨by rfl, ?hy16⟩) (by assumption) ?rs16
        case hy16 =>
          intro w hSw
          (try dsimp only at hSw)
          go_simp
          try with_reducible rfl
        (try simp only [Act.put, List.setIfInBounds_toArray, List.set_cons_zero, List.set_cons_succ])
        refine wpAnyH_take (i := 1) (oi := { dst := some 25, op := Go.Op.move (Go.Operand.tmp 7), type := 3, pos := "short.go:11", after := #[], guard := none }) (v := ?v17) rfl (by kernel_rfl) (by kernel_rfl) (by kernel_rfl) (fun _ _ _ h => h) (Or.inl ⟨by rfl, ?hy17⟩) (by assumption) ?rs17
        case hy17 =>
          intro w hSw
          (try dsimp only at hSw)
          go_simp
          try with_reducible rfl
        (try simp only [Act.put, List.setIfInBounds_toArray, List.set_cons_zero, List.set_cons_succ])
        refine wpAnyH_take (i := 2) (oi := { dst := some 26, op := Go.Op.indexAddr 33 (Go.Operand.tmp 24) (Go.Operand.tmp 25), type := 0, pos := "short.go:11", after := #[{ on := 0, ground := Go.Ground.data }, { on := 1, ground := Go.Ground.data }], guard := none }) (v := ?v18) rfl (by kernel_rfl) (by kernel_rfl) (by kernel_rfl) (fun _ _ _ h => h) (Or.inl ⟨by rfl, ?hy18⟩) (by assumption) ?rs18
        case hy18 =>
          intro w hSw
          (try dsimp only at hSw)
          go_simp
          try with_reducible rfl
        (try simp only [Act.put, List.setIfInBounds_toArray, List.set_cons_zero, List.set_cons_succ])
        refine wpAnyH_take (i := 3) (oi := { dst := some 27, op := Go.Op.load 3 (Go.Operand.tmp 26), type := 3, pos := "short.go:11", after := #[{ on := 2, ground := Go.Ground.data }], guard := none }) (v := ?v19) rfl (by kernel_rfl) (by kernel_rfl) (by kernel_rfl) (fun _ _ _ h => h) (Or.inl ⟨by rfl, ?hy19⟩) (by assumption) ?rs19
        case hy19 =>
          intro w hSw
          (try dsimp only at hSw)
          go_simp
          try with_reducible rfl
        (try simp only [Act.put, List.setIfInBounds_toArray, List.set_cons_zero, List.set_cons_succ])
        refine wpAnyH_take (i := 4) (oi := { dst := some 28, op := Go.Op.move (Go.Operand.tmp 5), type := 33, pos := "short.go:11", after := #[], guard := none }) (v := ?v20) rfl (by kernel_rfl) (by kernel_rfl) (by kernel_rfl) (fun _ _ _ h => h) (Or.inl ⟨by rfl, ?hy20⟩) (by assumption) ?rs20
        case hy20 =>
          intro w hSw
          (try dsimp only at hSw)
          go_simp
          try with_reducible rfl
        (try simp only [Act.put, List.setIfInBounds_toArray, List.set_cons_zero, List.set_cons_succ])
        refine wpAnyH_take (i := 5) (oi := { dst := some 29, op := Go.Op.move (Go.Operand.tmp 8), type := 3, pos := "short.go:11", after := #[], guard := none }) (v := ?v21) rfl (by kernel_rfl) (by kernel_rfl) (by kernel_rfl) (fun _ _ _ h => h) (Or.inl ⟨by rfl, ?hy21⟩) (by assumption) ?rs21
        case hy21 =>
          intro w hSw
          (try dsimp only at hSw)
          go_simp
          try with_reducible rfl
        (try simp only [Act.put, List.setIfInBounds_toArray, List.set_cons_zero, List.set_cons_succ])
        refine wpAnyH_take (i := 6) (oi := { dst := some 30, op := Go.Op.indexAddr 33 (Go.Operand.tmp 28) (Go.Operand.tmp 29), type := 0, pos := "short.go:11", after := #[{ on := 4, ground := Go.Ground.data }, { on := 5, ground := Go.Ground.data }], guard := none }) (v := ?v22) rfl (by kernel_rfl) (by kernel_rfl) (by kernel_rfl) (fun _ _ _ h => h) (Or.inl ⟨by rfl, ?hy22⟩) (by assumption) ?rs22
        case hy22 =>
          intro w hSw
          (try dsimp only at hSw)
          go_simp
          try with_reducible rfl
        (try simp only [Act.put, List.setIfInBounds_toArray, List.set_cons_zero, List.set_cons_succ])
        refine wpAnyH_take (i := 7) (oi := { dst := some 31, op := Go.Op.load 3 (Go.Operand.tmp 30), type := 3, pos := "short.go:11", after := #[{ on := 6, ground := Go.Ground.data }], guard := none }) (v := ?v23) rfl (by kernel_rfl) (by kernel_rfl) (by kernel_rfl) (fun _ _ _ h => h) (Or.inl ⟨by rfl, ?hy23⟩) (by assumption) ?rs23
        case hy23 =>
          intro w hSw
          (try dsimp only at hSw)
          go_simp
          try with_reducible rfl
        (try simp only [Act.put, List.setIfInBounds_toArray, List.set_cons_zero, List.set_cons_succ])
        refine wpAnyH_take (i := 8) (oi := { dst := some 32, op := Go.Op.binOp Go.BinOp.lss 3 (Go.Operand.tmp 27) (Go.Operand.tmp 31) 3, type := 4, pos := "short.go:11", after := #[{ on := 3, ground := Go.Ground.data }, { on := 7, ground := Go.Ground.data }], guard := none }) (v := ?v24) rfl (by kernel_rfl) (by kernel_rfl) (by kernel_rfl) (fun _ _ _ h => h) (Or.inl ⟨by rfl, ?hy24⟩) (by assumption) ?rs24
        case hy24 =>
          intro w hSw
          (try dsimp only at hSw)
          go_simp
          try with_reducible rfl
        (try simp only [Act.put, List.setIfInBounds_toArray, List.set_cons_zero, List.set_cons_succ])
        refine wpAnyH_take (i := 9) (oi := { dst := some 33, op := Go.Op.move (Go.Operand.tmp 32), type := 4, pos := "short.go:11", after := #[{ on := 8, ground := Go.Ground.data }], guard := none }) (v := ?v25) rfl (by kernel_rfl) (by kernel_rfl) (by kernel_rfl) (fun _ _ _ h => h) (Or.inl ⟨by rfl, ?hy25⟩) (by assumption) ?rs25
        case hy25 =>
          intro w hSw
          (try dsimp only at hSw)
          go_simp
          try with_reducible rfl
        (try simp only [Act.put, List.setIfInBounds_toArray, List.set_cons_zero, List.set_cons_succ])
        refine wpAnyH_take (i := 10) (oi := { dst := some 34, op := Go.Op.move (Go.Operand.tmp 0), type := 23, pos := "short.go:11", after := #[{ on := 9, ground := Go.Ground.guard }], guard := some (9, true) }) (v := undef) rfl (by kernel_rfl) (by kernel_rfl) (by kernel_rfl) (fun _ _ _ h => h) (Or.inr ⟨by rfl, rfl⟩) (by assumption) ?_
        (try simp only [Act.put, List.setIfInBounds_toArray, List.set_cons_zero, List.set_cons_succ])
        refine wpAnyH_take (i := 11) (oi := { dst := some 35, op := Go.Op.move (Go.Operand.tmp 8), type := 3, pos := "short.go:11", after := #[{ on := 9, ground := Go.Ground.guard }], guard := some (9, true) }) (v := undef) rfl (by kernel_rfl) (by kernel_rfl) (by kernel_rfl) (fun _ _ _ h => h) (Or.inr ⟨by rfl, rfl⟩) (by assumption) ?_
        (try simp only [Act.put, List.setIfInBounds_toArray, List.set_cons_zero, List.set_cons_succ])
        refine wpAnyH_take (i := 12) (oi := { dst := some 36, op := Go.Op.move (Go.Operand.tmp 7), type := 3, pos := "short.go:11", after := #[{ on := 9, ground := Go.Ground.guard }], guard := some (9, true) }) (v := undef) rfl (by kernel_rfl) (by kernel_rfl) (by kernel_rfl) (fun _ _ _ h => h) (Or.inr ⟨by rfl, rfl⟩) (by assumption) ?_
        (try simp only [Act.put, List.setIfInBounds_toArray, List.set_cons_zero, List.set_cons_succ])
        refine wpAnyH_take (i := 13) (oi := { dst := some 37, op := Go.Op.move (Go.Operand.tmp 1), type := 3, pos := "short.go:11", after := #[{ on := 9, ground := Go.Ground.guard }], guard := some (9, true) }) (v := undef) rfl (by kernel_rfl) (by kernel_rfl) (by kernel_rfl) (fun _ _ _ h => h) (Or.inr ⟨by rfl, rfl⟩) (by assumption) ?_
        (try simp only [Act.put, List.setIfInBounds_toArray, List.set_cons_zero, List.set_cons_succ])
        refine wpAnyH_take (i := 14) (oi := { dst := some 38, op := Go.Op.call { callee := Go.Callee.value (Go.Operand.func 31), args := #[Go.Operand.tmp 34, Go.Operand.tmp 35, Go.Operand.tmp 36, Go.Operand.tmp 37], argTypes := #[23, 3, 3, 3] }, type := 4, pos := "short.go:11", after := #[{ on := 10, ground := Go.Ground.data }, { on := 11, ground := Go.Ground.data }, { on := 12, ground := Go.Ground.data }, { on := 13, ground := Go.Ground.data }, { on := 9, ground := Go.Ground.chain }, { on := 9, ground := Go.Ground.guard }], guard := some (9, true) }) (v := undef) rfl (by kernel_rfl) (by kernel_rfl) (by kernel_rfl) (fun _ _ _ h => h) (Or.inr ⟨by rfl, rfl⟩) (by assumption) ?_
        (try simp only [Act.put, List.setIfInBounds_toArray, List.set_cons_zero, List.set_cons_succ])
        refine wpAnyH_take (i := 15) (oi := { dst := some 39, op := Go.Op.pick (Go.Operand.tmp 33) (Go.Operand.tmp 38) (Go.Operand.const (Go.Value.bool false)), type := 4, pos := "short.go:11", after := #[{ on := 9, ground := Go.Ground.data }, { on := 14, ground := Go.Ground.data }], guard := none }) (v := ?v26) rfl (by kernel_rfl) (by kernel_rfl) (by kernel_rfl) (fun _ _ _ h => h) (Or.inl ⟨by rfl, ?hy26⟩) (by assumption) ?rs26
        case hy26 =>
          intro w hSw
          (try dsimp only at hSw)
          go_simp
          try with_reducible rfl
        (try simp only [Act.put, List.setIfInBounds_toArray, List.set_cons_zero, List.set_cons_succ])
        refine wpAnyH_done (by kernel_rfl) ?_ _
        have hKW : Kept wr wr.drew := (by repeat (first | assumption | exact Kept.refl _ | apply Kept.drew | apply Kept.drewN | apply Kept.alloc | refine Kept.trans ?_ (by assumption)))
        have hKw := hK.trans hKW
        have hrw5 := hKW.row hrw
        have hO5 := own_kept hO hKW
        have hsz5 : B0 ≤ wr.drew.heap.size := Nat.le_trans hsz hKW.size
        clear hK hKW hO hrw hHeld x0 x1 t5
        have hsn : ∀ p, s t < p → p < j → ¬ (SkipsAt A B lim (s t) p ∧ F (s t) = F p + 1) := hseen.out
        have hseen2 : Hid (∀ p, s t < p → p < j + 1 → ¬ (SkipsAt A B lim (s t) p ∧ F (s t) = F p + 1)) := fun p h1 h2 h3 => by
          by_cases e : p = j
          · subst e
            rw [← HI.out] at h3
            have := HGO.out
            omega
          · exact hsn p h1 (by omega) h3
        have hlo3 : Hid (s t < j + 1 ∨ (j + 1 = 0 ∧ s t = 0)) := by rw [← HI.out]; rcases HLO.out with h | h <;> exact Or.inl (by omega)
        clear hsn hseen hlo HGO
        go_wp2_with fail
        go_roundg (n - (j + 1))
        case measure => omega
        case rel => exact ⟨j + 1, t, s, by omega, rfl, by go_num, hKw, hrw5, hsz5, hO5, hS.out, hlo3.out, hseen2.out⟩
    · obtain rfl : j = n := by omega
      have hz : Hid (t = F 0) := by
        have h1 := hS.out.few t (Nat.le_refl _)
        have h2 := hS.out.low t (Nat.le_refl _)
        by_cases e : s t + 1 < j
        · obtain ⟨p, p1, p2, p3, p4⟩ := HF.out.has (s t) (Nat.zero_le _) e
          exact absurd ⟨p3, p4⟩ (hseen.out p p1 p2)
        · have := HF.out.last
          rw [show j - 1 = s t by omega] at this
          show t = F 0
          omega
      go_wp2_with fail
      go_ret
      refine ⟨F, s, _, rfl, ?_, HF.out, ?_, hK⟩
      · rw [← hz.out]; exact own_base hO hwle
      · rw [← hz.out]; exact hS.out
end Go.Proofs.Ytomnjcjipdnnfab
