/-
  The program's Levels: how many recurrent heaps there are of each level.
-/
import Derived.Test.YtlnpipkhofhlnaaLn
import Derived.Test.YtlnpipkhofhlnaaCb
import Derived.Deep.DeepCutAuto
namespace Go.Proofs.Ytlnpipkhofhlnaa
open Go.RowKit Go.Deep

def fullB (J : Nat → Nat → Nat) (N : Nat) (v : Nat → Nat) : Bool := decide ((burnAll (N + 1) J (fun i => ((v i : Nat) : Int))).length = N)
def levI (D : Nat → Nat) (m N : Nat) (v : Nat → Nat) : Int := (D 0 : Int) - m + sumZ (fun i => ((v i : Nat) : Int)) N
def tally (D : Nat → Nat) (J : Nat → Nat → Nat) (m N t : Nat) (v : Nat → Nat) : Nat := if fullB J N v = true ∧ (levI D m N v).toNat = t then 1 else 0
/-- how many of the first k lists are recurrent heaps of level t -/
def hist (D : Nat → Nat) (J : Nat → Nat → Nat) (m N k t : Nat) : Nat := sumN (fun j => tally D J m N t (vec N (degT D) j)) k
def topL (D : Nat → Nat) (m N : Nat) : Nat := (levI D m N (fun i => D (i + 1) - 1)).toNat
theorem hist_le (D : Nat → Nat) (J : Nat → Nat → Nat) (m N k t : Nat) : hist D J m N k t ≤ k := by
  have := sumN_le (fun j => tally D J m N t (vec N (degT D) j)) 1 k (fun i _ => by show (if _ then _ else _) ≤ 1; split <;> omega)
  unfold hist; omega
theorem lev_le {D : Nat → Nat} {m N : Nat} {v : Nat → Nat} (hv : ∀ i, i < N → v i < degT D i) : levI D m N v ≤ levI D m N (fun i => D (i + 1) - 1) := by
  unfold levI
  have : sumZ (fun i => ((v i : Nat) : Int)) N ≤ sumZ (fun i => ((D (i + 1) - 1 : Nat) : Int)) N := sumZ_le (fun i hi => by have := hv i hi; unfold degT at this; show ((v i : Nat) : Int) ≤ ((D (i + 1) - 1 : Nat) : Int); omega)
  show (D 0 : Int) - m + sumZ (fun i => ((v i : Nat) : Int)) N ≤ (D 0 : Int) - m + sumZ (fun i => ((D (i + 1) - 1 : Nat) : Int)) N
  omega
theorem full_lev {N m : Nat} {D : Nat → Nat} {J : Nat → Nat → Nat} {v : Nat → Nat} (ok : YardOk (N + 1) D J) (hm : sumN D (N + 1) = 2 * m) (h : fullB J N v = true) : 0 ≤ levI D m N v :=
  lev_nonneg ok (burn_nf (by simpa [fullB] using h)) hm
theorem top_lev {N m : Nat} {D : Nat → Nat} {J : Nat → Nat → Nat} {p : Nat → Nat} (ok : YardOk (N + 1) D J) (hp : Ranked (N + 1) J p) (hm : sumN D (N + 1) = 2 * m) : 0 ≤ levI D m N (fun i => D (i + 1) - 1) ∧ fullB J N (fun i => D (i + 1) - 1) = true := by
  have hn : NF N J (fun i => ((D (i + 1) - 1 : Nat) : Int)) := nf_top ok hp (fun i hi => by have := ok.D1 (i + 1) (by omega) (by omega); omega)
  exact ⟨lev_nonneg ok hn hm, by unfold fullB; rw [nf_burn hn]; simp⟩
theorem lev_bd {N m : Nat} {D : Nat → Nat} {J : Nat → Nat → Nat} (ok : YardOk (N + 1) D J) (hN : N ≤ 7) : levI D m N (fun i => D (i + 1) - 1) ≤ 200 := by
  have h1 : sumZ (fun i => ((D (i + 1) - 1 : Nat) : Int)) N ≤ 20 * (N : Int) := sumZ_bound (fun i hi => by have := ok.D20 (i + 1) (by omega); show ((D (i + 1) - 1 : Nat) : Int) ≤ 20; omega)
  have h2 := ok.D20 0 (by omega)
  show (D 0 : Int) - m + sumZ (fun i => ((D (i + 1) - 1 : Nat) : Int)) N ≤ 200
  omega
def LevFn (w : World) (n : Int) (A B : Nat → Int) (m : Nat) (e : Ending) (w' : World) : Prop :=
  Kept w w' ∧ (goodB n A B m = false → e = .returned (.tuple #[.slice none 0 0, .int .i64 1])) ∧
  (goodB n A B m = true → 20000 < prodN (degT (degN A B m)) (n.toNat - 1) → e = .returned (.tuple #[.slice none 0 0, .int .i64 7])) ∧
  (goodB n A B m = true → prodN (degT (degN A B m)) (n.toNat - 1) ≤ 20000 → ∃ r, e = .returned (.tuple #[.slice (some ⟨r, 0, none⟩) (topL (degN A B m) m (n.toNat - 1) + 1) (topL (degN A B m) m (n.toNat - 1) + 1), .int .i64 0]) ∧
    w'.rowIs r 3 (topL (degN A B m) m (n.toNat - 1) + 1) (fun t => .int .i64 ((hist (degN A B m) (btwN A B m) m (n.toNat - 1) (prodN (degT (degN A B m)) (n.toNat - 1)) t : Nat) : Int)))

set_option maxRecDepth 100000 in
set_option maxHeartbeats 8000000 in
theorem Levels_any (w : World) (n : Int) (ev : Value) (A B : Nat → Int) (m : Nat) (hE : PairsAt w ev m A B) (hm : m ≤ 1000000) :
    Calls Try.prog 22 #[.int .i64 n, ev] w (LevFn w n A B m) := by
  obtain ⟨ea, eb, eo, ecap, rfl, hea, hec⟩ := hE
  have hE' : PairsAt w (.slice ea m ecap) m A B := ⟨ea, eb, eo, ecap, rfl, hea, hec⟩
  clear hec hea
  go_enter Try.func22, Try.ntmps22
  go_wp2_with fail
  refine (yardOf_any _ n _ _ A B m 0 0 (fun _ => 0) (fun _ _ => 0) hE' (noLists _ _ _) hm (by omega)).mono ?_
  rintro e w1 ⟨hK1, hpost⟩
  cases hg : goodB n A B m
  · rw [hg, if_neg (by simp)] at hpost
    have HG := Lib.hid hg
    subst hpost
    clear hg
    unfold zeroYard
    go_wp2_with fail
    go_ret2
    exact ⟨hK1.alloc _, (fun _ => rfl), (fun h => by rw [HG.out] at h; cases h), (fun h => by rw [HG.out] at h; cases h)⟩
  · rw [hg, if_pos rfl, if_pos (show allN _ 0 = true from rfl)] at hpost
    obtain ⟨ok, ⟨p, hpk⟩, hm20, hEd⟩ := good_ok hg
    have hds := deg_sum hEd
    have HG := Lib.hid hg
    obtain ⟨n, rfl⟩ : ∃ N : Nat, n = (N : Int) := ⟨n.toNat, by have := ok.n2; omega⟩
    unfold LevFn
    simp only [Int.toNat_natCast] at ok hpost hpk hds ⊢
    obtain ⟨bd, bj, br, rfl, hO⟩ := hpost
    have hn2 := ok.n2
    have hn8 := ok.n8
    have hn1 : 1 ≤ n := by omega
    obtain ⟨D, HDD⟩ : ∃ D, Hid (D = degN A B m) := ⟨_, rfl⟩
    obtain ⟨J, HJJ⟩ : ∃ J, Hid (J = btwN A B m) := ⟨_, rfl⟩
    rw [← HDD.out] at ok hO hds ⊢
    rw [← HJJ.out] at ok hO hpk ⊢
    have hE1 : n - 1 + 1 = n := by omega
    have ok1 : YardOk (n - 1 + 1) D J := by rw [hE1]; exact ok
    have hpk1 : Ranked (n - 1 + 1) J p := by rw [hE1]; exact hpk
    have hds1 : sumN D (n - 1 + 1) = 2 * m := by rw [hE1]; exact hds
    obtain ⟨hT0, hT1⟩ := top_lev ok1 hpk1 hds1
    have hT2 := lev_bd (m := m) ok1 (by omega)
    obtain ⟨P, HP⟩ : ∃ P, Hid (P = prodN (degT D) (n - 1)) := ⟨_, rfl⟩
    obtain ⟨L, HL⟩ : ∃ L, Hid (L = topL D m (n - 1)) := ⟨_, rfl⟩
    have hLT : (D 0 : Int) - m + sumZ (fun i => (D (i + 1) : Int) - 1) (n - 1) = (L : Int) := by
      rw [HL.out]
      unfold topL
      rw [Int.toNat_of_nonneg hT0]
      unfold levI
      congr 1
      exact sumZ_congr (fun i hi => by have := ok.D1 (i + 1) (by omega) (by omega); show (D (i + 1) : Int) - 1 = ((D (i + 1) - 1 : Nat) : Int); omega)
    have hL200 : L ≤ 200 := by rw [HL.out]; unfold topL; omega
    have HLT : Hid (∀ (w : World) (lv : Value), YardAt w n bd bj br D J → IntsAt w lv (n - 1) (fun i => (D (i + 1) : Int) - 1) → Calls Try.prog 51 #[YardV n m bd bj, lv] w fun e w' => e = .returned (.int .i64 (L : Int)) ∧ Kept w w') := fun w lv hY hL => by
      have := level_any w n m bd bj br D J lv _ hY ok hm20 hL (fun i hi => by have h1 := ok.D1 (i + 1) (by omega) (by omega); have h2 := ok.D20 (i + 1) (by omega); omega)
      rw [hLT] at this
      exact this
    have HSH : Hid (∀ (w : World), YardAt w n bd bj br D J → Calls Try.prog 50 #[YardV n m bd bj] w fun e w' => e = .returned (.int .i64 (P : Nat)) ∧ Kept w w') := fun w hY => by
      have := stableHeaps_any w n m bd bj br D J hY ok
      rw [← HP.out] at this
      exact this
    have hPd : Hid (prodN (degT (degN A B m)) ((n : Int).toNat - 1) = P) := by rw [HP.out, HDD.out]; rfl
    have hLd : Hid (topL (degN A B m) m ((n : Int).toNat - 1) = L) := by rw [HL.out, HDD.out]; rfl
    have HPK := Lib.hid hpk1
    have HT1 := Lib.hid hT1
    clear hg hds hT0 hT1 hT2 hLT hpk hpk1
    have hpl := hO.yard.row 0 (by omega)
    unfold YardV at *
    go_wp2_with fail
    have hkA := hK1.alloc (.cells #[.int .i64 n, .int .i64 m, .slice (some ⟨bd, 0, none⟩) n n, .slice (some ⟨bj, 0, none⟩) n n] 78)
    have hYA := hO.yard.kept ((Kept.refl w1).alloc (.cells #[.int .i64 n, .int .i64 m, .slice (some ⟨bd, 0, none⟩) n n, .slice (some ⟨bj, 0, none⟩) n n] 78))
    obtain ⟨c0, c1, c2, c3⟩ := YBox.new w1 n m bd bj 78
    have hsw := Kept.size hK1
    have hgl : w1.heap.size < (w1.alloc (.cells #[.int .i64 n, .int .i64 m, .slice (some ⟨bd, 0, none⟩) n n, .slice (some ⟨bj, 0, none⟩) n n] 78)).heap.size := by simp
    obtain ⟨g, HGG⟩ : ∃ g, Hid (g = w1.heap.size) := ⟨_, rfl⟩
    rw [← HGG.out] at c0 c1 c2 c3 hsw hgl ⊢
    generalize w1.alloc (.cells #[.int .i64 n, .int .i64 m, .slice (some ⟨bd, 0, none⟩) n n, .slice (some ⟨bj, 0, none⟩) n n] 78) = W at *
    refine (HSH.out _ hYA).mono ?_
    rintro e W1 ⟨rfl, hk2⟩
    have hK2 := hkA.trans hk2
    have hY := hYA.kept hk2
    have hgl2 : g < W1.heap.size := by have := Kept.size hk2; omega
    replace c0 := hk2.cellSome c0
    replace c1 := hk2.cellSome c1
    replace c2 := hk2.cellSome c2
    replace c3 := hk2.cellSome c3
    clear hkA hYA hk2 HSH hgl hpl
    by_cases hP : 20000 < P
    · have g1 : (P : Int) > 20000 := by omega
      go_wp2_with fail
      go_ret2
      exact ⟨hK2, (fun h => by rw [HG.out] at h; cases h), (fun _ _ => rfl), (fun _ h => absurd h (by rw [hPd.out]; omega))⟩
    · have g1 : ¬ (P : Int) > 20000 := by omega
      have hwL : IntKind.i64.wrap ((L : Int) + 1) = (L : Int) + 1 := IntWalk.i64_in _ (by omega)
      have hmk := fun W => mkInts ((L : Int) + 1) (L + 1) (by omega) (by omega) W
      go_wp2_with fail
      refine wp_region_held_drew (S := (fun w' => w'.cell? ⟨g, 0, none⟩ = some (.int .i64 n) ∧ w'.cell? ⟨g, 1, none⟩ = some (.int .i64 m) ∧ w'.cell? ⟨g, 2, none⟩ = some (.slice (some ⟨bd, 0, none⟩) n n) ∧ w'.cell? ⟨g, 3, none⟩ = some (.slice (some ⟨bj, 0, none⟩) n n) ∧ Kept W1 w')) (by kernel_rfl) ?_ (fun hHeld => ?_)
      · (try dsimp only)
        exact keep4 c0 c1 c2 c3 (by repeat (first | assumption | exact Kept.refl _ | apply Kept.drew | apply Kept.drewN | apply Kept.alloc | refine Kept.trans ?_ (by assumption)))
      refine wpAnyH_take (i := 0) (oi := { dst := some 23, op := Go.Op.load 78 (Go.Operand.tmp 6), type := 78, pos := "heap.go:121", after := #[], guard := none }) (v := ?v1) rfl (by kernel_rfl) (by kernel_rfl) (by kernel_rfl) (fun _ _ _ h => h) (Or.inl ⟨by rfl, ?hy1⟩) (by assumption) ?rs1
      case hy1 =>
        intro w hSw
        (try dsimp only at hSw)
        go_simp
        try with_reducible rfl
      (try simp only [Act.put, List.setIfInBounds_toArray, List.set_cons_zero, List.set_cons_succ])
      refine wpAnyH_take (i := 1) (oi := { dst := some 24, op := Go.Op.load 78 (Go.Operand.tmp 6), type := 78, pos := "heap.go:121", after := #[], guard := none }) (v := ?v2) rfl (by kernel_rfl) (by kernel_rfl) (by kernel_rfl) (fun _ _ _ h => h) (Or.inl ⟨by rfl, ?hy2⟩) (by assumption) ?rs2
      case hy2 =>
        intro w hSw
        (try dsimp only at hSw)
        go_simp
        try with_reducible rfl
      (try simp only [Act.put, List.setIfInBounds_toArray, List.set_cons_zero, List.set_cons_succ])
      refine wpAnyH_ready (rs := [2]) (by kernel_rfl) (by simp) ?_
      refine AllReadyH.cons (o := { dst := some 25, op := Go.Op.call { callee := Go.Callee.value (Go.Operand.func 52), args := #[Go.Operand.tmp 24], argTypes := #[78] }, type := 25, pos := "heap.go:121", after := #[{ on := 1, ground := Go.Ground.data }], guard := none }) rfl (fun K2 hK2 => ?_) AllReadyH.nil
      go_simp
      (go_at_call 52; refine (greatest_any _ n m bd bj br D J ?_ hn8 hn1 ok.D40).mono ?_; (exact hY.kept (by repeat (first | assumption | exact Kept.refl _ | apply Kept.drew | apply Kept.drewN | apply Kept.alloc | refine Kept.trans ?_ (by assumption)))); rintro e w4 ⟨rfl, hk4, hr4⟩)
      (try go_wp2_with fail)
      refine hK2.out _ _ ?_ (fun hHeld => ?_)
      · (try dsimp only)
        exact keep4 c0 c1 c2 c3 (by repeat (first | assumption | exact Kept.refl _ | apply Kept.drew | apply Kept.drewN | apply Kept.alloc | refine Kept.trans ?_ (by assumption)))
      clear hK2 K2
      (try simp only [Act.put, List.setIfInBounds_toArray, List.set_cons_zero, List.set_cons_succ])
      refine wpAnyH_ready (rs := [3]) (by kernel_rfl) (by simp) ?_
      refine AllReadyH.cons (o := { dst := some 26, op := Go.Op.call { callee := Go.Callee.value (Go.Operand.func 51), args := #[Go.Operand.tmp 23, Go.Operand.tmp 25], argTypes := #[78, 25] }, type := 3, pos := "heap.go:121", after := #[{ on := 0, ground := Go.Ground.data }, { on := 2, ground := Go.Ground.data }, { on := 2, ground := Go.Ground.chain }], guard := none }) rfl (fun K2 hK2 => ?_) AllReadyH.nil
      go_simp
      (go_at_call 51; refine (HLT.out _ _ ?_ ?_).mono ?_; (exact hY.kept (by repeat (first | assumption | exact Kept.refl _ | apply Kept.drew | apply Kept.drewN | apply Kept.alloc | refine Kept.trans ?_ (by assumption)))); (exact CellsAt.kept (CellsAt.of_row hr4) (by repeat (first | assumption | exact Kept.refl _ | apply Kept.drew | apply Kept.drewN | apply Kept.alloc | refine Kept.trans ?_ (by assumption)))); rintro e w5 ⟨rfl, hk5⟩)
      (try go_wp2_with fail)
      refine hK2.out _ _ ?_ (fun hHeld => ?_)
      · (try dsimp only)
        exact keep4 c0 c1 c2 c3 (by repeat (first | assumption | exact Kept.refl _ | apply Kept.drew | apply Kept.drewN | apply Kept.alloc | refine Kept.trans ?_ (by assumption)))
      clear hK2 K2
      (try simp only [Act.put, List.setIfInBounds_toArray, List.set_cons_zero, List.set_cons_succ])
      refine wpAnyH_take (i := 4) (oi := { dst := some 27, op := Go.Op.binOp Go.BinOp.add 3 (Go.Operand.tmp 26) (Go.Operand.const (Go.Value.int Go.IntKind.i64 1)) 3, type := 3, pos := "heap.go:121", after := #[{ on := 3, ground := Go.Ground.data }], guard := none }) (v := ?v3) rfl (by kernel_rfl) (by kernel_rfl) (by kernel_rfl) (fun _ _ _ h => h) (Or.inl ⟨by rfl, ?hy3⟩) (by assumption) ?rs3
      case hy3 =>
        intro w hSw
        (try dsimp only at hSw)
        go_simp
        try with_reducible rfl
      (try simp only [Act.put, List.setIfInBounds_toArray, List.set_cons_zero, List.set_cons_succ])
      refine wpAnyH_ready (rs := [5]) (by kernel_rfl) (by simp) ?_
      refine AllReadyH.cons (o := { dst := some 28, op := Go.Op.makeSlice 25 (Go.Operand.tmp 27) (Go.Operand.tmp 27), type := 25, pos := "heap.go:121", after := #[{ on := 4, ground := Go.Ground.data }, { on := 4, ground := Go.Ground.data }], guard := none }) rfl (fun K2 hK2 => ?_) AllReadyH.nil
      go_simp
      skip
      (try go_wp2_with fail)
      refine hK2.out _ _ ?_ (fun hHeld => ?_)
      · (try dsimp only)
        exact keep4 c0 c1 c2 c3 (by repeat (first | assumption | exact Kept.refl _ | apply Kept.drew | apply Kept.drewN | apply Kept.alloc | refine Kept.trans ?_ (by assumption)))
      clear hK2 K2
      (try simp only [Act.put, List.setIfInBounds_toArray, List.set_cons_zero, List.set_cons_succ])
      refine wpAnyH_take (i := 6) (oi := { dst := some 8, op := Go.Op.assign (Go.Operand.tmp 28), type := 25, pos := "heap.go:121", after := #[{ on := 5, ground := Go.Ground.data }, { on := 3, ground := Go.Ground.chain }, { on := 0, ground := Go.Ground.phase }, { on := 1, ground := Go.Ground.phase }, { on := 2, ground := Go.Ground.phase }, { on := 3, ground := Go.Ground.phase }, { on := 4, ground := Go.Ground.phase }, { on := 5, ground := Go.Ground.phase }], guard := none }) (v := ?v4) rfl (by kernel_rfl) (by kernel_rfl) (by kernel_rfl) (fun _ _ _ h => h) (Or.inl ⟨by rfl, ?hy4⟩) (by assumption) ?rs4
      case hy4 =>
        intro w hSw
        (try dsimp only at hSw)
        go_simp
        try with_reducible rfl
      (try simp only [Act.put, List.setIfInBounds_toArray, List.set_cons_zero, List.set_cons_succ])
      refine wpAnyH_done (by kernel_rfl) ?_ _
      have hk15 : Kept W1 w5 := (by repeat (first | assumption | exact Kept.refl _ | apply Kept.drew | apply Kept.drewN | apply Kept.alloc | refine Kept.trans ?_ (by assumption)))
      have hK3 := hK2.trans hk15
      have hY3 := hY.kept hk15
      have hs5 := Kept.size hk15
      replace c0 := hk15.cellSome c0
      replace c1 := hk15.cellSome c1
      replace c2 := hk15.cellSome c2
      replace c3 := hk15.cellSome c3
      have hR0 := World.rowIs_made w5 (.int .i64 0) (L + 1) 3
      have hk6 : Kept w5 (w5.alloc (.cells (madeCells #[.int .i64 0] (L + 1)) 3)) := (Kept.refl _).alloc _
      have hs6 : (w5.alloc (.cells (madeCells #[.int .i64 0] (L + 1)) 3)).heap.size = w5.heap.size + 1 := by simp
      obtain ⟨lb, HLB⟩ : ∃ lb, Hid (lb = w5.heap.size) := ⟨_, rfl⟩
      have hlb5 : w5.heap.size = lb := HLB.out.symm
      rw [← HLB.out] at hR0 hs6 ⊢
      have hmk2 := fun W => mkInts ((n : Int) - 1) (n - 1) (by omega) (by omega) W
      have hwN : IntKind.i64.wrap ((n : Int) - 1) = (n : Int) - 1 := IntWalk.i64_in _ (by omega)
      clear hmk hHeld hk4 hk5 hk15 hr4
      generalize w5.alloc (.cells (madeCells #[.int .i64 0] (L + 1)) 3) = W6 at *
      have hbdl := hY3.deg.lt
      have hbjl := hY3.top.lt
      have hbrl := fun i hi => (hY3.row i hi).lt
      go_wp2_with fail
      have hH0 := World.rowIs_made W6 (.int .i64 0) (n - 1) 3
      have hk7 : Kept W6 (W6.alloc (.cells (madeCells #[.int .i64 0] (n - 1)) 3)) := (Kept.refl _).alloc _
      obtain ⟨hb, HHB⟩ : ∃ hb, Hid (hb = lb + 1) := ⟨_, rfl⟩
      have hhb6 : W6.heap.size = hb := by rw [HHB.out]; exact hs6
      rw [hhb6] at hH0
      rw [← HHB.out]
      generalize W6.alloc (.cells (madeCells #[.int .i64 0] (n - 1)) 3) = W7 at *
      have hk57 := hk6.trans hk7
      have hY7 := hY3.kept hk57
      have hR7 := hk7.row hR0
      have hK7 := hK3.trans hk57
      replace c0 := hk57.cellSome c0
      replace c1 := hk57.cellSome c1
      replace c2 := hk57.cellSome c2
      replace c3 := hk57.cellSome c3
      have C0 := Lib.hid c0
      have C1 := Lib.hid c1
      have C2 := Lib.hid c2
      have C3 := Lib.hid c3
      have hne : hb ≠ lb := by omega
      have hbd1 : bd ≠ hb := by omega
      have hbd2 : bd ≠ lb := by omega
      have hbj1 : ¬ (bj = hb ∨ bj = lb) := by omega
      have hbr1 : ∀ i, i < n → ¬ (br i = hb ∨ br i = lb) := fun i hi => by have := hbrl i hi; omega
      have hg1 : ¬ (g = hb ∨ g = lb) := by omega
      have hwl : w.heap.size ≤ lb := by have := Kept.size hK3; omega
      have hwh : w.heap.size ≤ hb := by omega
      have HBR := Lib.hid hbr1
      have hdeg1 : ∀ j, j < n - 1 → 1 ≤ degT D j := fun j hj => ok.D1 (j + 1) (by omega) (by omega)
      have HDEG := Lib.hid hdeg1
      have hP1 : 1 ≤ P := by rw [HP.out]; exact prodN_pos hdeg1
      have HDS := Lib.hid hds1
      clear hK3 hY3 hs5 hR0 hk6 hk7 hk57 hmk2 hbrl hbjl hbdl hbr1 hY hs6 hdeg1 hds1
      go_loopg [10] P (fun q s10 wr => ∃ (k : Nat) (b : Bool), k ≤ P ∧ b = decide (k < P) ∧ q = P - k ∧ s10 = .bool b ∧ KeptX (fun t => t = hb ∨ t = lb) W7 wr ∧ wr.rowIs lb 3 (L + 1) (fun t => .int .i64 ((hist D J m (n - 1) k t : Nat) : Int)) ∧ (k < P → wr.rowIs hb 3 (n - 1) (fun i => .int .i64 ((vec (n - 1) (degT D) k i : Nat) : Int))))
      case atStart => exact ⟨0, true, Nat.zero_le _, (decide_eq_true (by omega)).symm, rfl, rfl, KeptX.refl _ _, hR7.congr (fun i _ => rfl), fun _ => hH0.congr (fun i _ => by rw [vec_zero]; rfl)⟩
      case round =>
        obtain ⟨k, b, hkP, rfl, rfl, rfl, hX, hR, hHf⟩ := hrel
        clear hR7 hH0
        by_cases hlt : k < P
        · have hH := hHf hlt
          have hbt : decide (k < P) = true := decide_eq_true hlt
          rw [hbt]
          have hYr := hY7.keptX hX (by omega) hbj1 HBR.out
          replace c0 := hX.cellSome c0 hg1
          replace c1 := hX.cellSome c1 hg1
          replace c2 := hX.cellSome c2 hg1
          replace c3 := hX.cellSome c3 hg1
          obtain ⟨bb, HBB⟩ : ∃ bb, Hid (bb = decide ((burnAll n J (fun i => ((vec (n - 1) (degT D) k i : Nat) : Int))).length = n - 1)) := ⟨_, rfl⟩
          have hvlt : ∀ j, j < n - 1 → vec (n - 1) (degT D) k j < degT D j := fun j hj => vec_lt (HDEG.out j hj) hj
          have HV := Lib.hid hvlt
          have hfb : fullB J (n - 1) (vec (n - 1) (degT D) k) = bb := by rw [HBB.out]; unfold fullB; rw [hE1]
          have HFB := Lib.hid hfb
          clear hHf hbt hvlt hfb
          go_wp2_with fail
          refine wp_region_held_drew (S := (fun w' => w'.cell? ⟨g, 0, none⟩ = some (.int .i64 n) ∧ w'.cell? ⟨g, 1, none⟩ = some (.int .i64 m) ∧ w'.cell? ⟨g, 2, none⟩ = some (.slice (some ⟨bd, 0, none⟩) n n) ∧ w'.cell? ⟨g, 3, none⟩ = some (.slice (some ⟨bj, 0, none⟩) n n) ∧ Kept wr w')) (by kernel_rfl) ?_ (fun hHeld => ?_)
          · (try dsimp only)
            exact keep4 c0 c1 c2 c3 (by repeat (first | assumption | exact Kept.refl _ | apply Kept.drew | apply Kept.drewN | apply Kept.alloc | refine Kept.trans ?_ (by assumption)))
          refine wpAnyH_take (i := 0) (oi := { dst := some 36, op := Go.Op.load 78 (Go.Operand.tmp 6), type := 78, pos := "heap.go:124", after := #[], guard := none }) (v := ?v5) rfl (by kernel_rfl) (by kernel_rfl) (by kernel_rfl) (fun _ _ _ h => h) (Or.inl ⟨by rfl, ?hy5⟩) (by assumption) ?rs5
          case hy5 =>
            intro w hSw
            (try dsimp only at hSw)
            go_simp
            try with_reducible rfl
          (try simp only [Act.put, List.setIfInBounds_toArray, List.set_cons_zero, List.set_cons_succ])
          refine wpAnyH_take (i := 1) (oi := { dst := some 37, op := Go.Op.load 78 (Go.Operand.tmp 6), type := 78, pos := "heap.go:124", after := #[], guard := none }) (v := ?v6) rfl (by kernel_rfl) (by kernel_rfl) (by kernel_rfl) (fun _ _ _ h => h) (Or.inl ⟨by rfl, ?hy6⟩) (by assumption) ?rs6
          case hy6 =>
            intro w hSw
            (try dsimp only at hSw)
            go_simp
            try with_reducible rfl
          (try simp only [Act.put, List.setIfInBounds_toArray, List.set_cons_zero, List.set_cons_succ])
          refine wpAnyH_take (i := 2) (oi := { dst := some 38, op := Go.Op.move (Go.Operand.tmp 9), type := 25, pos := "heap.go:124", after := #[], guard := none }) (v := ?v7) rfl (by kernel_rfl) (by kernel_rfl) (by kernel_rfl) (fun _ _ _ h => h) (Or.inl ⟨by rfl, ?hy7⟩) (by assumption) ?rs7
          case hy7 =>
            intro w hSw
            (try dsimp only at hSw)
            go_simp
            try with_reducible rfl
          (try simp only [Act.put, List.setIfInBounds_toArray, List.set_cons_zero, List.set_cons_succ])
          refine wpAnyH_ready (rs := [3]) (by kernel_rfl) (by simp) ?_
          refine AllReadyH.cons (o := { dst := some 39, op := Go.Op.call { callee := Go.Callee.value (Go.Operand.func 55), args := #[Go.Operand.tmp 37, Go.Operand.tmp 38], argTypes := #[78, 25] }, type := 25, pos := "heap.go:124", after := #[{ on := 1, ground := Go.Ground.data }, { on := 2, ground := Go.Ground.data }], guard := none }) rfl (fun K2 hK2 => ?_) AllReadyH.nil
          go_simp
          (go_at_call 55; refine (burn_any _ n m bd bj br D J _ (fun i => ((vec (n - 1) (degT D) k i : Nat) : Int)) ?_ hn8 hn1 ok.J40 ?_).mono ?_; (exact hYr.kept (by repeat (first | assumption | exact Kept.refl _ | apply Kept.drew | apply Kept.drewN | apply Kept.alloc | refine Kept.trans ?_ (by assumption)))); (exact CellsAt.kept (CellsAt.of_row hH) (by repeat (first | assumption | exact Kept.refl _ | apply Kept.drew | apply Kept.drewN | apply Kept.alloc | refine Kept.trans ?_ (by assumption)))); rintro e w4 ⟨ov, rfl, hk4, ho⟩; (obtain ⟨oa, ocap, rfl⟩ := own_shape ho); clear ho)
          (try go_wp2_with fail)
          refine hK2.out _ _ ?_ (fun hHeld => ?_)
          · (try dsimp only)
            exact keep4 c0 c1 c2 c3 (by repeat (first | assumption | exact Kept.refl _ | apply Kept.drew | apply Kept.drewN | apply Kept.alloc | refine Kept.trans ?_ (by assumption)))
          clear hK2 K2
          (try simp only [Act.put, List.setIfInBounds_toArray, List.set_cons_zero, List.set_cons_succ])
          refine wpAnyH_ready (rs := [4]) (by kernel_rfl) (by simp) ?_
          refine AllReadyH.cons (o := { dst := some 40, op := Go.Op.call { callee := Go.Callee.value (Go.Operand.func 54), args := #[Go.Operand.tmp 36, Go.Operand.tmp 39], argTypes := #[78, 25] }, type := 4, pos := "heap.go:124", after := #[{ on := 0, ground := Go.Ground.data }, { on := 3, ground := Go.Ground.data }, { on := 3, ground := Go.Ground.chain }], guard := none }) rfl (fun K2 hK2 => ?_) AllReadyH.nil
          go_simp
          (go_at_call 54; refine (all_any _ n m bd bj _ _ _ hn8 hn1).mono ?_; rintro e w5 ⟨rfl, hk5⟩; rw [← HBB.out])
          (try go_wp2_with fail)
          refine hK2.out _ _ ?_ (fun hHeld => ?_)
          · (try dsimp only)
            exact keep4 c0 c1 c2 c3 (by repeat (first | assumption | exact Kept.refl _ | apply Kept.drew | apply Kept.drewN | apply Kept.alloc | refine Kept.trans ?_ (by assumption)))
          clear hK2 K2
          (try simp only [Act.put, List.setIfInBounds_toArray, List.set_cons_zero, List.set_cons_succ])
          refine wpAnyH_done (by kernel_rfl) ?_ _
          have hk8 : Kept wr w5 := (by repeat (first | assumption | exact Kept.refl _ | apply Kept.drew | apply Kept.drewN | apply Kept.alloc | refine Kept.trans ?_ (by assumption)))
          have hX8 : KeptX (fun t => t = hb ∨ t = lb) W7 w5 := hX.step hk8 (fun i hi => absurd hi id)
          have hR8 := hk8.row hR
          have hH8 := hk8.row hH
          have hY8 := hYr.kept hk8
          replace c0 := hk8.cellSome c0
          replace c1 := hk8.cellSome c1
          replace c2 := hk8.cellSome c2
          replace c3 := hk8.cellSome c3
          clear hX hR hH hYr hk8 hk4 hk5 hHeld
          have hhf : ∀ t, hist D J m (n - 1) (k + 1) t = hist D J m (n - 1) k t + tally D J m (n - 1) t (vec (n - 1) (degT D) k) := fun t => rfl
          have HHF := Lib.hid hhf
          clear hhf
          cases bb
          · have hrow : w5.rowIs lb 3 (L + 1) (fun t => .int .i64 ((hist D J m (n - 1) (k + 1) t : Nat) : Int)) := hR8.congr (fun t _ => by rw [HHF.out]; unfold tally; rw [HFB.out]; simp)
            clear hR8
            go_wp2_with fail
            refine (next_any _ n m bd bj br D J hb (vec (n - 1) (degT D) k) hY8 ok hbd1 hH8 HV.out).mono ?_
            rintro e w6 ⟨hx6, hcase⟩
            have hX6 : KeptX (fun t => t = hb ∨ t = lb) W7 w6 := KeptX.step hX8 hx6 (fun i hi => Or.inl (Or.inl hi))
            have hrow6 := hx6.row hrow (show ¬ lb = hb by omega)
            rcases hcase with ⟨i, hi, hd, hu, rfl, hr6⟩ | ⟨hd, rfl, hr6⟩
            · obtain ⟨hk1, hve⟩ := vec_next HDEG.out (by rw [← HP.out]; exact hlt) hi hd hu
              rw [← HP.out] at hk1
              go_wp2_with fail
              go_roundg (P - (k + 1))
              case measure => omega
              case rel => exact ⟨k + 1, true, by omega, (decide_eq_true hk1).symm, rfl, rfl, hX6, hrow6, fun _ => by rw [hve]; exact hr6⟩
            · have hk1 := vec_last HDEG.out (by rw [← HP.out]; exact hlt) hd
              rw [← HP.out] at hk1
              go_wp2_with fail
              go_roundg (P - (k + 1))
              case measure => omega
              case rel => exact ⟨k + 1, false, by omega, (decide_eq_false (by omega)).symm, rfl, rfl, hX6, hrow6, fun h => absurd h (by omega)⟩
          · have hlv0 := full_lev ok1 HDS.out HFB.out
            have hlv1 := lev_le (D := D) (m := m) HV.out
            obtain ⟨lk, HLK⟩ : ∃ lk, Hid (lk = (levI D m (n - 1) (vec (n - 1) (degT D) k)).toNat) := ⟨_, rfl⟩
            have hlk : levI D m (n - 1) (vec (n - 1) (degT D) k) = (lk : Int) := by rw [HLK.out, Int.toNat_of_nonneg hlv0]
            have hlkL : lk ≤ L := by rw [HLK.out, HL.out]; unfold topL; omega
            have hIH : IntsAt w5 (.slice (some ⟨hb, 0, none⟩) (n - 1) (n - 1)) (n - 1) (fun i => ((vec (n - 1) (degT D) k i : Nat) : Int)) := CellsAt.of_row hH8
            have hlev := level_any w5 n m bd bj br D J _ (fun i => ((vec (n - 1) (degT D) k i : Nat) : Int)) hY8 ok hm20 hIH (fun i hi => by have h1 := HV.out i hi; have h2 := ok.D20 (i + 1) (by omega); unfold degT at h1; show 0 ≤ ((vec (n - 1) (degT D) k i : Nat) : Int) ∧ ((vec (n - 1) (degT D) k i : Nat) : Int) ≤ 20; unfold degT; omega)
            rw [show (D 0 : Int) - m + sumZ (fun i => ((vec (n - 1) (degT D) k i : Nat) : Int)) (n - 1) = (lk : Int) from hlk] at hlev
            clear hlv0 hlv1 hlk hIH
            go_wp2_with fail
            refine hlev.mono ?_
            rintro e w9 ⟨rfl, hk9⟩
            have hX9 : KeptX (fun t => t = hb ∨ t = lb) W7 w9 := hX8.step hk9 (fun i hi => absurd hi id)
            have hR9 := hk9.row hR8
            have hH9 := hk9.row hH8
            have t1 := hR9.cell (i := lk) (by omega)
            have t2 := hR9.frozen lk
            have hhv := hist_le D J m (n - 1) k lk
            obtain ⟨hv, HHV⟩ : ∃ hv, Hid (hv = hist D J m (n - 1) k lk) := ⟨_, rfl⟩
            rw [← HHV.out] at t1 hhv
            have s1 : IntKind.i64.wrap ((hv : Int) + 1) = (hv : Int) + 1 := IntWalk.i64_in _ (by omega)
            have s2 : (0 : Int) ≤ (lk : Int) := by omega
            have s3 : (lk : Int) < (L : Int) + 1 := by omega
            have hXs : KeptX (fun t => t = hb ∨ t = lb) W7 (w9.setCell ⟨lb, lk, none⟩ (.int .i64 ((hv : Int) + 1))) := hX9.setCell (p := ⟨lb, lk, none⟩) (Or.inl (Or.inr rfl)) _
            have hrow : (w9.setCell ⟨lb, lk, none⟩ (.int .i64 ((hv : Int) + 1))).rowIs lb 3 (L + 1) (fun t => .int .i64 ((hist D J m (n - 1) (k + 1) t : Nat) : Int)) := (hR9.set lk (.int .i64 ((hv : Int) + 1))).congr (fun t _ => by
              rw [HHF.out]
              unfold tally
              rw [HFB.out, ← HLK.out]
              by_cases e : t = lk
              · subst e; rw [if_pos rfl, if_pos ⟨rfl, rfl⟩, HHV.out]; rfl
              · rw [if_neg e, if_neg (fun h => e h.2.symm)]; rfl)
            have hHs := hH9.setOther (a := ⟨lb, lk, none⟩) hne (.int .i64 ((hv : Int) + 1))
            have hYs := hY7.keptX hXs (by omega) hbj1 HBR.out
            have e0 := hXs.cellSome C0.out hg1
            have e1 := hXs.cellSome C1.out hg1
            have e2 := hXs.cellSome C2.out hg1
            have e3 := hXs.cellSome C3.out hg1
            clear hX9 hR9 hH9 hR8 hH8 hlev hY8 hX8 c0 c1 c2 c3
            go_wp2_with fail
            refine (next_any _ n m bd bj br D J hb (vec (n - 1) (degT D) k) hYs ok hbd1 hHs HV.out).mono ?_
            rintro e w6 ⟨hx6, hcase⟩
            have hX6 : KeptX (fun t => t = hb ∨ t = lb) W7 w6 := KeptX.step hXs hx6 (fun i hi => Or.inl (Or.inl hi))
            have hrow6 := hx6.row hrow (show ¬ lb = hb by omega)
            rcases hcase with ⟨i, hi, hd, hu, rfl, hr6⟩ | ⟨hd, rfl, hr6⟩
            · obtain ⟨hk1, hve⟩ := vec_next HDEG.out (by rw [← HP.out]; exact hlt) hi hd hu
              rw [← HP.out] at hk1
              go_wp2_with fail
              go_roundg (P - (k + 1))
              case measure => omega
              case rel => exact ⟨k + 1, true, by omega, (decide_eq_true hk1).symm, rfl, rfl, hX6, hrow6, fun _ => by rw [hve]; exact hr6⟩
            · have hk1 := vec_last HDEG.out (by rw [← HP.out]; exact hlt) hd
              rw [← HP.out] at hk1
              go_wp2_with fail
              go_roundg (P - (k + 1))
              case measure => omega
              case rel => exact ⟨k + 1, false, by omega, (decide_eq_false (by omega)).symm, rfl, rfl, hX6, hrow6, fun h => absurd h (by omega)⟩
        · obtain rfl : k = P := by omega
          have hbf : decide (k < k) = false := decide_eq_false (by omega)
          rw [hbf]
          go_wp2_with fail
          go_ret2
          refine ⟨hK7.step hX (fun i hi => by rcases hi with h | h <;> omega), (fun h => by rw [HG.out] at h; cases h), (fun _ h => absurd h (by rw [hPd.out]; omega)), fun _ _ => ⟨lb, ?_, ?_⟩⟩
          · rw [hLd.out]; rfl
          · rw [hLd.out, hPd.out, ← HDD.out, ← HJJ.out]; exact hR
end Go.Proofs.Ytlnpipkhofhlnaa
