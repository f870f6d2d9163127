/-
  GaitPaley.
-/
import Derived.Test.YtofgadehblpoiaaDoorPp
import Derived.Test.YtofgadehblpoiaaDoorFa
import Derived.Test.YtofgadehblpoiaaDoorLv
namespace Go.Proofs.YtofgadehblpoiaaDoor
open Go.RowKit Go.Deep Go.Shelf

/-- the program has made the first matrix -/
def MatPost (w : World) (n : Nat) (M : Nat → Nat → Bool) (e : Ending) (w' : World) : Prop :=
  Kept w w' ∧ ∃ g cap, e = .returned (.tuple #[.slice (some ⟨g, 0, none⟩) n cap, .int .i64 0]) ∧ MatAt w' w.heap.size g n M
theorem pal_post (w : World) (k : Nat) (hk : k < 6) : Calls Tryd.prog 48 #[.int .i64 (prS k : Int)] w (MatPost w (sizK k) (matK k)) := by
  refine (Paley_any w (prS k)).mono ?_
  rintro e w' ⟨hk', h⟩
  have ho := palOk_tab ⟨k, hk⟩
  simp only at ho
  rw [if_pos ho] at h
  obtain ⟨v, rfl, hO⟩ := h
  rw [Int.toNat_natCast] at hO
  obtain ⟨g, cap, rfl⟩ := own_some hO (by omega)
  have h1 : sizK k = prS k + 1 := by unfold sizK; rw [if_pos hk]
  have h2 : matK k = palP (prS k) := by unfold matK; rw [if_pos hk]
  rw [h1, h2]
  exact ⟨hk', g, cap, rfl, MatAt.own hO (Nat.le_refl _)⟩
theorem syl_post (w : World) (k : Nat) (hk : ¬ k < 6) (hk2 : k < 12) : Calls Tryd.prog 27 #[.int .i64 ((k : Int) - 6)] w (MatPost w (sizK k) (matK k)) := by
  obtain ⟨d, rfl⟩ : ∃ d, k = d + 6 := ⟨k - 6, by omega⟩
  rw [show ((d + 6 : Nat) : Int) - 6 = (d : Int) by omega]
  refine (Sylvester_any w d).mono ?_
  rintro e w' ⟨hk', h⟩
  rw [if_pos (by omega)] at h
  obtain ⟨r, rfl, h1, h2⟩ := h
  rw [Int.toNat_natCast] at h2 ⊢
  have e1 : sizK (d + 6) = 2 ^ d := by unfold sizK; rw [if_neg hk]; rfl
  have e2 : matK (d + 6) = fun i j => par i j := by unfold matK; rw [if_neg hk]
  rw [e1, e2]
  exact ⟨hk', r, _, rfl, h1, _, _, Nat.le_refl _, h2, fun i _ => rfl⟩
theorem swap_rows {W : World} {base g n : Nat} {M : Nat → Nat → Bool} (h : MatAt W base g n M) {a c : Nat} (ha : a < n) (hc : c < n) :
    MatAt ((W.setCell ⟨g, a, none⟩ (.string (rowS n (M c)))).setCell ⟨g, c, none⟩ (.string (rowS n (M a)))) base g n (fun i => M (swp a c i)) := by
  refine MatAt.set (M := fun i => if i = a then M c else M i) (MatAt.set h ha (by rw [if_pos rfl]) (fun i _ e => by rw [if_neg e])) hc (by unfold swp; rw [if_pos rfl]) (fun i _ e => ?_)
  unfold swp
  rw [if_neg e]
  by_cases e2 : i = a
  · rw [if_pos e2, if_pos e2]
  · rw [if_neg e2, if_neg e2]
theorem neg_row {W : World} {base g n : Nat} {M : Nat → Nat → Bool} (h : MatAt W base g n M) {a : Nat} (ha : a < n) :
    MatAt (W.setCell ⟨g, a, none⟩ (.string (rowS n (fun j => !M a j)))) base g n (negM a M) :=
  MatAt.set h ha (by unfold negM; rw [if_pos rfl]) (fun i _ e => by unfold negM; rw [if_neg e])
theorem prS_cells (W : World) (k : Nat) (hk : k < 6) : (W.alloc (.cells #[.int .i64 3, .int .i64 7, .int .i64 11, .int .i64 19, .int .i64 23, .int .i64 31] 3)).cell? ⟨W.heap.size, k, none⟩ = some (.int .i64 (prS k : Int)) := by
  have : k = 0 ∨ k = 1 ∨ k = 2 ∨ k = 3 ∨ k = 4 ∨ k = 5 := by omega
  unfold World.cell?
  (try dsimp only)
  rw [blk_alloc_new]
  rcases this with rfl | rfl | rfl | rfl | rfl | rfl <;> rfl
theorem mod_four {n : Nat} (h : 3 ≤ n → n % 4 = 0) (h2 : 2 < n) : Int.tmod (n : Int) 4 = 0 := by
  rw [show Int.tmod (n : Int) 4 = ((n % 4 : Nat) : Int) from (Int.ofNat_tmod n 4).symm, h (by omega)]
  rfl
set_option maxRecDepth 100000 in
set_option maxHeartbeats 64000000 in
theorem paleyLaw_any (w : World) (n0 : Nat) (a1 : Option Addr) (len cap : Nat) (X Y Z : Nat → Nat) (hV : TripsAt w (.slice a1 len cap) len X Y Z) (hlen : len ≤ maxLen) (hX : ∀ i, X i < 256 ∧ Y i < 256 ∧ Z i < 256) (hn0 : n0 < 256) :
    Calls Tryd.prog 10 #[.int .u8 n0, .slice a1 len cap] w (LivesPost w) := by
  obtain ⟨_, b1, o1, _, e, ha1, hc1⟩ := hV
  cases e
  unfold maxLen at hlen
  have C1 := Lib.hid hc1
  have HX := Lib.hid hX
  have LV := Lib.hid lives_any
  obtain ⟨k, HK⟩ : ∃ k : Nat, Hid (k = n0 % 12) := ⟨_, rfl⟩
  have hk : k < 12 := by rw [HK.out]; omega
  have ek : Int.tmod (n0 : Int) 12 = (k : Int) := by rw [HK.out]; exact (Int.ofNat_tmod n0 12).symm
  have hw8 : IntKind.i64.wrap (n0 : Int) = (n0 : Int) := IntWalk.i64_in _ (by omega)
  have PA := Lib.hid (fun W (h : k < 6) => pal_post W k h)
  have SY := Lib.hid (fun W (h : ¬ k < 6) => syl_post W k h hk)
  have hR0 := matK_right hk
  have hs := sizK_tab ⟨k, hk⟩
  simp only at hs
  unfold MatPost at PA SY
  generalize matK k = M0 at *
  generalize sizK k = n at *
  have hR := Lib.hid hR0
  have hfour : 3 ≤ n → n % 4 = 0 := fun h => right_four hR0 h
  have hmod := fun h => mod_four hfour h
  obtain ⟨hn1, hn32⟩ := hs
  have RM := Lib.hid (fun W v (M : Nat → Nat → Bool) (h : StrsAt W v n (fun i => rowS n (M i))) => show Calls Tryd.prog 33 #[v] W fun e w' => e = .returned (.int .i64 0) ∧ Kept W w' by
    have h1 := rMatrix_any W v n _ h (by omega)
    rw [matC_rows M hn1 hn32] at h1
    exact h1)
  have CO := Lib.hid (fun W v (M : Nat → Nat → Bool) (h : StrsAt W v n (fun i => rowS n (M i))) => rColumns_any W v n M h (by omega))
  have MI := Lib.hid (fun W (p : Nat → Bool) => show Calls Tryd.prog 45 #[.string (rowS n p)] W fun e w' => e = .returned (.string (rowS n (fun i => !p i))) ∧ W = w' by
    have h := rMinus_any W (rowS n p) n (rowS_size _ _) (by omega)
    rw [minRow] at h
    exact h)
  have RI := Lib.hid (fun W v (M : Nat → Nat → Bool) (hr : Rgt n M) (h : StrsAt W v n (fun i => rowS n (M i))) => show Calls Tryd.prog 31 #[v] W fun e w' => Kept W w' ∧ e = .returned (.tuple #[.bool true, .int .i64 0]) by
    have h1 := Right_rows W v n M h hn1 hn32
    rw [rgtB_iff.2 hr] at h1
    exact h1)
  have NO := Lib.hid (fun W v (M : Nat → Nat → Bool) (h : StrsAt W v n (fun i => rowS n (M i))) => show Calls Tryd.prog 32 #[v] W fun e w' => Kept W w' ∧ ∃ r, e = .returned (.tuple #[.slice (some ⟨r, 0, none⟩) n n, .int .i64 0]) ∧ w'.rowIs r 9 n (fun i => .string (rowS n (norP M i))) by
    refine (Normal_any W v n _ h (by omega) (fun i _ => by (try dsimp only); rw [rowS_size]; omega)).mono ?_
    rintro e w' ⟨hk, h2⟩
    rw [if_pos (matC_rows M hn1 hn32)] at h2
    obtain ⟨r, rfl, _, h4⟩ := h2
    exact ⟨hk, r, rfl, h4.congr (fun i _ => by rw [nor_mn])⟩)
  unfold StrsPost at CO
  have hP := fun hk6 => prS_cells w k hk6
  have hKp : Kept w (w.alloc (.cells #[.int .i64 3, .int .i64 7, .int .i64 11, .int .i64 19, .int .i64 23, .int .i64 31] 3)) := (Kept.refl w).alloc _
  obtain ⟨m1, HM1⟩ : ∃ m1, Hid (m1 = min len 10) := ⟨_, rfl⟩
  have hm1 : m1 ≤ len := by rw [HM1.out]; omega
  have hm2 : m1 ≤ 10 := by rw [HM1.out]; omega
  have hm3 : m1 = len ∨ m1 = 10 := by rw [HM1.out]; omega
  clear hc1 hX HK hR0 hfour HM1
  by_cases h6 : k < 6
  all_goals by_cases h2 : 2 < n
  all_goals
    (try have hcell := hP h6)
    (try have hmd := hmod h2)
    have h6i : ((k : Int) < 6) ↔ k < 6 := by omega
    have h2i : ((n : Int) > 2) ↔ 2 < n := by omega
    clear hP hmod
    go_enter Tryd.func10, Tryd.ntmps10
    go_wp2_with (first
      | (go_at_call 48; refine (PA.out _ h6).mono ?_; rintro e w1 ⟨hk1, g1, c1, rfl, hm⟩)
      | (go_at_call 27; refine (SY.out _ h6).mono ?_; rintro e w1 ⟨hk1, g1, c1, rfl, hm⟩)
      | (go_at_call 33; refine (RM.out _ _ M0 hm.strs).mono ?_; rintro e w2 ⟨rfl, hk2⟩; have hmm := hm.kept hk2)
      | (go_at_call 20; refine (LV.out _).mono ?_; rintro e w3 ⟨rfl, hk3⟩))
    have hm4 := hmm.kept hk3
    have hK4 := hKp.trans ((hk1.trans hk2).trans hk3)
    have hb4 : w.heap.size ≤ g1 := by have := hm4.1; have := hKp.size; omega
    have hm5 : MatAt w3 w.heap.size g1 n M0 := ⟨hb4, hm4.2⟩
    clear hm hmm hm4 hb4 hk1 hk2 hk3 PA SY LV hKp
    go_loopg [7, 9] m1 (fun g s7 s9 wr => ∃ (i gg cc : Nat) (M : Nat → Nat → Bool), i ≤ m1 ∧ g = m1 - i ∧ s7 = .slice (some ⟨gg, 0, none⟩) n cc ∧ s9 = .int .i64 i ∧ Kept w wr ∧ MatAt wr w.heap.size gg n M ∧ Hid (Rgt n M))
    case atStart => exact ⟨0, g1, c1, M0, Nat.zero_le _, rfl, rfl, rfl, hK4, hm5, hR⟩
    case round =>
      obtain ⟨i, gg, cc, M, hi, rfl, rfl, rfl, hK, hm, hR1⟩ := hrel
      clear hK4 hm5 hR
      by_cases hlt : i < m1
      · have s4 : (i : Int) < (len : Int) := by omega
        have s5 : (i : Int) < 10 := by omega
        have s6 : (0 : Int) ≤ (i : Int) := by omega
        obtain rfl := ha1 (by omega)
        obtain ⟨q0, q1, q2⟩ := C1.out i (by omega)
        have t0 := hK.cellSome q0
        have t1 := hK.cellSome q1
        have t2 := hK.cellSome q2
        (try dsimp only at t0 t1 t2)
        obtain ⟨hx, hy, hz⟩ := HX.out i
        generalize X i = x at *
        generalize Y i = y at *
        generalize Z i = z at *
        obtain ⟨aa, HA⟩ : ∃ aa : Nat, Hid (aa = y % n) := ⟨_, rfl⟩
        obtain ⟨ac, HC⟩ : ∃ ac : Nat, Hid (ac = z % n) := ⟨_, rfl⟩
        obtain ⟨op, HOP⟩ : ∃ op : Nat, Hid (op = x % 4) := ⟨_, rfl⟩
        have haa : aa < n := by rw [HA.out]; exact Nat.mod_lt _ (by omega)
        have hac : ac < n := by rw [HC.out]; exact Nat.mod_lt _ (by omega)
        have hop4 : op < 4 := by rw [HOP.out]; omega
        have hop : op = 0 ∨ op = 1 ∨ op = 2 ∨ op = 3 := by omega
        have s0 : ¬ (n : Int) = 0 := by omega
        have et1 : Int.tmod (y : Int) (n : Int) = (aa : Int) := by rw [HA.out]; exact (Int.ofNat_tmod y n).symm
        have et2 : Int.tmod (z : Int) (n : Int) = (ac : Int) := by rw [HC.out]; exact (Int.ofNat_tmod z n).symm
        have et3 : Int.tmod (x : Int) 4 = (op : Int) := by rw [HOP.out]; exact (Int.ofNat_tmod x 4).symm
        have v1 : IntKind.i64.wrap (y : Int) = (y : Int) := IntWalk.i64_in _ (by omega)
        have v2 : IntKind.i64.wrap (z : Int) = (z : Int) := IntWalk.i64_in _ (by omega)
        have s7 : (aa : Int) < (n : Int) := by omega
        have s8 : (ac : Int) < (n : Int) := by omega
        have s9 : (0 : Int) ≤ (aa : Int) := by omega
        have s10 : (0 : Int) ≤ (ac : Int) := by omega
        clear HA HC HOP q0 q1 q2
        rcases hop with rfl | rfl | rfl | rfl
        · have y0 := hm.cell haa
          have y1 := hm.frozen aa
          have y2 := hm.cell hac
          have y3 := hm.frozen ac
          have hmk := Lib.hid (fun q => hm.kept ((Kept.refl wr).drewN q))
          have y4 : ∀ q, ∃ vv, ((wr.drewN q).setCell ⟨gg, aa, none⟩ (.string (rowS n (M ac)))).cell? ⟨gg, ac, none⟩ = some vv := fun q => ⟨_, (MatAt.set (M' := fun i => if i = aa then M ac else M i) (hmk.out q) haa (by rw [if_pos rfl]) (fun i _ e => by rw [if_neg e])).cell hac⟩
          have y5 : ∀ q, ((wr.drewN q).setCell ⟨gg, aa, none⟩ (.string (rowS n (M ac)))).frozen? ⟨gg, ac, none⟩ = false := fun q => (MatAt.set (M' := fun i => if i = aa then M ac else M i) (hmk.out q) haa (by rw [if_pos rfl]) (fun i _ e => by rw [if_neg e])).frozen ac
          obtain ⟨vv, y4'⟩ := Classical.axiomOfChoice y4
          have HSW := Lib.hid (fun (W : World) (h : MatAt W w.heap.size gg n M) => swap_rows h haa hac)
          have hR2 : Hid (Rgt n (fun i => M (swp aa ac i))) := hR1.out.swap haa hac
          have hgw : w.heap.size ≤ gg := hm.1
          clear y4 hmk
          generalize rowS n (M aa) = Ra at *
          generalize rowS n (M ac) = Rc at *
          go_wp2_with fail
          go_quiet (fail)
          go_wp2_with fail
          go_region
          all_goals
            go_wp2_with fail
            go_roundg (m1 - (i + 1))
            case measure => omega
            case rel => exact ⟨i + 1, gg, cc, _, by omega, rfl, rfl, by first | rfl | go_num, by first | exact (hK.setCell hgw _).setCell hgw _ | exact ((hK.drewN _).setCell hgw _).setCell hgw _ | exact (((hK.drewN _).drewN _).setCell hgw _).setCell hgw _, by first | exact HSW.out _ hm | exact HSW.out _ (hm.kept ((Kept.refl _).drewN _)) | exact HSW.out _ (hm.kept (((Kept.refl _).drewN _).drewN _)), hR2⟩
        · have y0 := fun q => (hm.kept ((Kept.refl wr).drewN q)).cell haa
          have y1 := fun q => (hm.kept ((Kept.refl wr).drewN q)).frozen aa
          have MIa := Lib.hid (fun W => MI.out W (M aa))
          have HNG := Lib.hid (fun (W : World) (h : MatAt W w.heap.size gg n M) => neg_row h haa)
          have hR2 : Hid (Rgt n (negM aa M)) := hR1.out.neg aa
          have hgw : w.heap.size ≤ gg := hm.1
          generalize rowS n (fun j => !M aa j) = Rb at *
          generalize rowS n (M aa) = Ra at *
          go_wp2_with fail
          go_quiet (fail)
          go_wp2_with (first | (go_at_call 45; refine (MIa.out _).mono ?_; rintro e w5 ⟨rfl, rfl⟩))
          go_roundg (m1 - (i + 1))
          case measure => omega
          case rel => exact ⟨i + 1, gg, cc, _, by omega, rfl, rfl, by first | rfl | go_num, by first | exact hK.setCell hgw _ | exact (hK.drewN _).setCell hgw _, by first | exact HNG.out _ hm | exact HNG.out _ (hm.kept ((Kept.refl _).drewN _)), hR2⟩
        · have MIa := Lib.hid (fun W => MI.out W (trM M aa))
          have CO1 := Lib.hid (fun W v h => CO.out W v M h)
          have CO2 := Lib.hid (fun W v h => CO.out W v (negM aa (trM M)) h)
          have hR2 : Hid (Rgt n (trM (negM aa (trM M)))) := right_trans ((right_trans hR1.out).neg aa)
          go_wp2_with fail
          go_quiet (fail)
          go_wp2_with (first | (go_at_call 49; first
            | (refine (CO1.out _ _ (hm.kept ((Kept.refl _).drewN _)).strs).mono ?_; clear CO1; rintro e w4 ⟨v4, rfl, hk4, hO4⟩; obtain ⟨g2, c2, rfl⟩ := own_some hO4 (by omega); have hK4 := (hK.drewN _).trans hk4; have hm4 : MatAt w4 w.heap.size g2 n (trM M) := MatAt.own hO4 (hK.drewN _).size; clear hO4; have z0 := hm4.cell haa; have z1 := hm4.frozen aa)
            | (refine (CO2.out _ _ (neg_row hm4 haa).strs).mono ?_; rintro e w6 ⟨v6, rfl, hk6, hO6⟩; obtain ⟨g6, c6, rfl⟩ := own_some hO6 (by omega); have hK6 := (hK4.setCell hm4.1 _).trans hk6; have hm6 : MatAt w6 w.heap.size g6 n (trM (negM aa (trM M))) := MatAt.own hO6 (hK4.setCell hm4.1 _).size; clear hO6)) | (go_at_call 45; refine (MIa.out _).mono ?_; rintro e w5 ⟨rfl, rfl⟩))
          go_roundg (m1 - (i + 1))
          case measure => omega
          case rel => exact ⟨i + 1, g6, c6, _, by omega, rfl, rfl, by first | rfl | go_num, hK6, hm6, hR2⟩
        · have hR2 : Hid (Rgt n (trM M)) := right_trans hR1.out
          go_wp2_with fail
          go_quiet (fail)
          go_wp2_with (first | (go_at_call 49; refine (CO.out _ _ M (hm.kept ((Kept.refl _).drewN _)).strs).mono ?_; rintro e w4 ⟨v4, rfl, hk4, hO4⟩; obtain ⟨g2, c2, rfl⟩ := own_some hO4 (by omega); have hK4 := (hK.drewN _).trans hk4; have hm4 : MatAt w4 w.heap.size g2 n (trM M) := MatAt.own hO4 (hK.drewN _).size; clear hO4))
          go_roundg (m1 - (i + 1))
          case measure => omega
          case rel => exact ⟨i + 1, g2, c2, _, by omega, rfl, rfl, by first | rfl | go_num, hK4, hm4, hR2⟩
      · obtain rfl : i = m1 := by omega
        have s5' : (i : Int) < (len : Int) → ¬ (i : Int) < 10 := by omega
        have RI1 := Lib.hid (fun W v => RI.out W v M hR1.out)
        have RI2 := Lib.hid (fun W v => RI.out W v (norP M) hR1.out.normal)
        clear C1 HX CO MI RI hR1
        by_cases hl : (i : Int) < (len : Int)
        all_goals
          (try have s6' := s5' hl)
          clear s5'
          go_wp2_with (first
            | (go_at_call 31; refine (RI1.out _ _ hm.strs).mono ?_; rintro e w5 ⟨hk5, rfl⟩; have hm5 := hm.kept hk5)
            | (go_at_call 32; refine (NO.out _ _ M hm5.strs).mono ?_; rintro e w6 ⟨hk6, r, rfl, hr6⟩)
            | (go_at_call 33; refine (RM.out _ _ (norP M) (CellsAt.of_row hr6)).mono ?_; rintro e w7 ⟨rfl, hk7⟩))
          have HW := Lib.hid (hk7.row hr6)
          have hK7 := hK.trans (hk5.trans (hk6.trans hk7))
          clear hm hm5 hr6 hk5 hk6 hk7 NO RM RI1 hK
          go_loopg [16] n (fun g s16 wr => ∃ j : Nat, j ≤ n ∧ g = n - j ∧ s16 = .int .i64 j ∧ Quiet w7 wr)
          case atStart => exact ⟨0, Nat.zero_le _, rfl, rfl, Quiet.refl _⟩
          case round =>
            obtain ⟨j, hj, rfl, rfl, hQ⟩ := hrel
            by_cases hltj : j < n
            · have r3 : (j : Int) < (n : Int) := by omega
              have r4 : (0 : Int) ≤ (j : Int) := by omega
              have r5 : (0 : Int) < (n : Int) := by omega
              have t0 := hQ.kept.cellSome (HW.out.cell hltj)
              have t1 := hQ.kept.cellSome (HW.out.cell (show 0 < n by omega))
              have hs1 : (rowS n (norP M j)).size = n := rowS_size _ _
              have hs2 : (rowS n (norP M 0)).size = n := rowS_size _ _
              have hc1 := chr_rowS (p := norP M j) (show 0 < n by omega)
              have hc2 := chr_rowS (p := norP M 0) hltj
              rw [norP_col] at hc1
              rw [norP_row] at hc2
              simp only [Bool.false_eq_true, if_false] at hc1 hc2
              generalize rowS n (norP M j) = T1 at *
              generalize rowS n (norP M 0) = T2 at *
              have hat1 := chr_at (s := T1) (i := 0) (by omega)
              have hat2 := chr_at (s := T2) (i := j) (by omega)
              rw [hc1] at hat1
              rw [hc2] at hat2
              clear hc1 hc2
              go_wp2_with fail
              go_roundg (n - (j + 1))
              case measure => omega
              case rel => exact ⟨j + 1, by omega, rfl, by first | rfl | go_num, hQ⟩
            · obtain rfl : j = n := by omega
              have r3 : ¬ (j : Int) < (j : Int) := by omega
              go_wp2_with (first
                | (go_at_call 31; refine (RI2.out _ _ (CellsAt.of_row (hQ.kept.row HW.out))).mono ?_; rintro e w8 ⟨hk8, rfl⟩))
              go_ret
              exact ⟨rfl, (hK7.trans hQ.kept).trans hk8⟩
end Go.Proofs.YtofgadehblpoiaaDoor
