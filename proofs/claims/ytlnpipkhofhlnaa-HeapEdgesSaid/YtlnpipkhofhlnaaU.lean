/-
  Group, as the package exports it.
  And: Nothing and Burn, as the package exports them.
-/
import Derived.Test.YtlnpipkhofhlnaaT
import Derived.Test.YtlnpipkhofhlnaaQ
import Derived.Test.YtlnpipkhofhlnaaJ
namespace Go.Proofs.Ytlnpipkhofhlnaa
open Go.RowKit Go.Deep

theorem noLists (w : World) (len : Nat → Nat) (f : Nat → Nat → Int) : ListsAt w (.slice none 0 0) 0 len f := ⟨fun _ => undef, ⟨none, 0, 0, 0, rfl, fun h => absurd h (by omega), fun i hi => absurd hi (by omega)⟩, fun i hi => absurd hi (by omega)⟩
def facL (d : Nat → Int) : Nat → List Int
  | 0 => []
  | k + 1 => facL d k ++ (if 1 < d (k + 1) / d k then [d (k + 1) / d k] else [])
theorem facL_len (d : Nat → Int) (k : Nat) : (facL d k).length ≤ k := by
  induction k with
  | zero => simp [facL]
  | succ k ih => simp only [facL, List.length_append]; split <;> simp <;> omega
def intV (l : List Int) : List Value := l.map fun x => Value.int .i64 x
def yardDiv (n : Nat) (A B : Nat → Int) (m : Nat) : Nat → Int := outerD (n - 1) (lapM (degN A B m) (btwN A B m)) (2 ^ (n - 1))
/-- what the numbers of a yard must be, that its group be computed -/
structure DivOk (n : Nat) (A B : Nat → Int) (m : Nat) : Prop where
  det : ∀ s t, s < 2 ^ (n - 1) → t < 2 ^ (n - 1) → (bitL s (n - 1)).length = (bitL t (n - 1)).length → 0 ≤ detI (bitL s (n - 1)).length (subM (n - 1) (lapM (degN A B m) (btwN A B m)) s t) ∧ detI (bitL s (n - 1)).length (subM (n - 1) (lapM (degN A B m) (btwN A B m)) s t) ≤ big
  pos : ∀ k, k ≤ n - 1 → 1 ≤ yardDiv n A B m k ∧ yardDiv n A B m k ≤ big
def GroupFn (w : World) (n : Int) (A B : Nat → Int) (m : Nat) (e : Ending) (w' : World) : Prop :=
  Kept w w' ∧ (goodB n A B m = false → e = .returned (.tuple #[.slice none 0 0, .int .i64 1])) ∧
  (goodB n A B m = true → ∃ ov, e = .returned (.tuple #[ov, .int .i64 0]) ∧ w'.ownsRow w.heap.size 3 1 ov (facL (yardDiv n.toNat A B m) (n.toNat - 1)).length (intV (facL (yardDiv n.toNat A B m) (n.toNat - 1))))

set_option maxRecDepth 100000 in
set_option maxHeartbeats 2000000 in
theorem Group_any (w : World) (n : Int) (ev : Value) (A B : Nat → Int) (m : Nat) (hE : PairsAt w ev m A B) (hm : m ≤ 1000000) (hdv : goodB n A B m = true → DivOk n.toNat A B m) :
    Calls Try.prog 38 #[.int .i64 n, ev] w (GroupFn w n A B m) := by
  obtain ⟨ea, eb, eo, ecap, rfl, hea, hec⟩ := hE
  have hE' : PairsAt w (.slice ea m ecap) m A B := ⟨ea, eb, eo, ecap, rfl, hea, hec⟩
  clear hec hea
  obtain ⟨i0, hi, hz0, hz1, hz2⟩ := info_parts Try.info3
  go_enter Try.func38, Try.ntmps38
  go_wp2_with fail
  refine (yardOf_any _ n _ _ A B m 0 0 (fun _ => 0) (fun _ _ => 0) hE' (noLists _ _ _) hm (by omega)).mono ?_
  rintro e w1 ⟨hK1, hpost⟩
  cases hg : goodB n A B m
  · rw [hg, if_neg (by simp)] at hpost
    have HG := Lib.hid hg
    subst hpost
    clear hg hdv
    unfold zeroYard
    go_wp2_with fail
    go_ret2
    exact ⟨hK1.alloc _, (fun _ => rfl), (fun h => by rw [HG.out] at h; cases h)⟩
  · rw [hg, if_pos rfl, if_pos (show allN _ 0 = true from rfl)] at hpost
    obtain ⟨ok, _, hm20, _⟩ := good_ok hg
    have hdv' := hdv hg
    have HG := Lib.hid hg
    obtain ⟨N, rfl⟩ : ∃ N : Nat, n = (N : Int) := ⟨n.toNat, by have := ok.n2; omega⟩
    unfold GroupFn
    simp only [Int.toNat_natCast] at ok hpost hdv' ⊢
    obtain ⟨bd, bj, br, rfl, hO⟩ := hpost
    have hn2 := ok.n2
    have hn8 := ok.n8
    clear hg hdv
    unfold YardV
    go_wp2_with fail
    have hkA := hK1.alloc (.cells #[.int .i64 N, .int .i64 m, .slice (some ⟨bd, 0, none⟩) N N, .slice (some ⟨bj, 0, none⟩) N N] 78)
    refine (laplacian_any _ N m bd bj br (degN A B m) (btwN A B m) (hO.yard.kept ((Kept.refl _).alloc _)) hn8 (by omega) ok.J40).mono ?_
    rintro e w2 ⟨mb, rb, rfl, hk2, hMO⟩
    have hK2 := hkA.trans hk2
    go_wp2_with fail
    refine (divisors_any _ _ (N - 1) _ hMO.read (by omega) hdv'.det).mono ?_
    rintro e w3 ⟨db, rfl, hk3, hD⟩
    have hK3 := hK2.trans hk3
    have hpos := hdv'.pos
    have hDD : w3.rowIs db 2 (N - 1 + 1) (fun k => .int .i64 (yardDiv N A B m k)) := hD
    clear hdv' hk2 hk3 hK2 hkA hK1 hMO hO hD
    obtain ⟨d, HD⟩ : ∃ d, Hid (d = yardDiv N A B m) := ⟨_, rfl⟩
    rw [← HD.out] at hpos hDD
    have hs3 : w.heap.size ≤ w3.heap.size := Kept.size hK3
    go_wp2_with fail
    go_loopg [9, 10, 11, 26] (N - 1) (fun g ov s10 s11 i wr => ∃ k : Nat, k ≤ N - 1 ∧ g = N - 1 - k ∧ i = .int .i64 k ∧ KeptX (fun b => w3.heap.size ≤ b) w3 wr ∧ wr.ownsRow w3.heap.size 3 1 ov (facL d k).length (intV (facL d k)))
    case atStart => exact ⟨0, Nat.zero_le _, rfl, rfl, KeptX.refl _ _, World.ownsRow_nil _ _ _ _⟩
    case round =>
      obtain ⟨k, hk, rfl, rfl, hX, hO⟩ := hrel
      have hKk : Kept w3 wr := Kept.step (Kept.refl _) hX (fun i hi => hi)
      have hws : w3.heap.size ≤ wr.heap.size := KeptX.size hX
      by_cases hlt : k < N - 1
      · have hDw := hKk.row hDD
        have t1 := hDw.cell (i := k + 1) (by omega)
        have t2 := hDw.cell (i := k) (by omega)
        have p1 := hpos (k + 1) (by omega)
        have p2 := hpos k (by omega)
        have hfl := facL_len d k
        have n0 : (0 : Int) ≤ (k : Int) := by omega
        have n1 : (k : Int) < ((N - 1 + 1 : Nat) : Int) := by omega
        have n2 : (k : Int) + 1 < ((N - 1 + 1 : Nat) : Int) := by omega
        have n3 : (0 : Int) ≤ (k : Int) + 1 := by omega
        have n4 : ((k : Int) + 1).toNat = k + 1 := by omega
        have n5 : (k : Int) < (N : Int) - 1 := by omega
        have w1 : IntKind.i64.wrap ((k : Int) + 1) = (k : Int) + 1 := IntWalk.i64_in _ (by omega)
        obtain ⟨x, HX⟩ : ∃ x, Hid (x = d (k + 1)) := ⟨_, rfl⟩
        obtain ⟨y, HY⟩ : ∃ y, Hid (y = d k) := ⟨_, rfl⟩
        rw [← HX.out] at t1 p1
        rw [← HY.out] at t2 p2
        have q0 : 0 ≤ x / y := Int.ediv_nonneg (by omega) (by omega)
        have q1 : x / y ≤ x := Int.ediv_le_self _ (by omega)
        have hfs : facL d (k + 1) = facL d k ++ (if 1 < x / y then [x / y] else []) := by simp only [facL]; rw [← HX.out, ← HY.out]
        have HFS := Lib.hid hfs
        unfold big at p1 p2
        clear hDw hKk hfs
        by_cases hgt : 1 < x / y
        · go_wp2_with fail
          go_quiet (fail)
          have hX5 : KeptX (fun b => w3.heap.size ≤ b) w3 (wr.drewN nq) := hX.drewN nq
          have hO5 := own_kept hO ((Kept.refl wr).drewN nq)
          have hws5 : w3.heap.size ≤ (wr.drewN nq).heap.size := hws
          clear hX hO t1 t2 hws
          generalize wr.drewN nq = w5 at *
          go_wp2_with (first | (at_builtin; refine wpList_append_own _ rfl _ _ 25 rfl w3.heap.size 3 i0 (.int .i64 0) 1 8 Try.underlying25 hi hz0 hz1 hz2 rfl (by decide) _ _ _ rfl (hO5.alloc _) ⟨w5.heap.size, 0, none⟩ 1 1 [.int .i64 (x / y)] rfl rfl ?c1 ?c2 ?c3 ?c4 ?c5 ?_))
          case c1 => exact cell_one_new _ _ _
          case c2 => simp [Value.oneCell']
          case c3 => unfold maxLen; omega
          case c4 => omega
          case c5 => simp; omega
          intro ov' w6 hO6 hgr _
          have hX6 : KeptX (fun b => w3.heap.size ≤ b) w3 w6 := (hX5.alloc _).trans (grew_X hgr (hO5.alloc _))
          have hO7 : w6.ownsRow w3.heap.size 3 1 ov' (facL d (k + 1)).length (intV (facL d (k + 1))) := by
            rw [HFS.out, if_pos hgt, show intV (facL d k ++ [x / y]) = intV (facL d k) ++ [.int .i64 (x / y)] by simp [intV], show (facL d k ++ [x / y]).length = (facL d k).length + 1 by simp]; exact hO6
          have HX6 := Lib.hid hX6
          clear hX5 hO5 hO6 hgr hX6
          go_wp2_with fail
          go_roundg (N - 1 - (k + 1))
          case measure => omega
          case rel => exact ⟨k + 1, by omega, rfl, by go_num, HX6.out, hO7⟩
        · go_wp2_with fail
          go_quiet (fail)
          go_wp2_with fail
          go_roundg (N - 1 - (k + 1))
          case measure => omega
          case rel =>
            have e : facL d (k + 1) = facL d k := by rw [HFS.out, if_neg (show ¬ 1 < x / y by omega), List.append_nil]
            exact ⟨k + 1, by omega, rfl, by go_num, hX.drewN _, by rw [e]; exact own_kept hO ((Kept.refl wr).drewN _)⟩
      · obtain rfl : k = N - 1 := by omega
        have n5 : ¬ ((N - 1 : Nat) : Int) < (N : Int) - 1 := by omega
        have HO := Lib.hid hO
        clear hO
        go_wp2_with fail
        go_ret2
        exact ⟨hK3.trans hKk, (fun h => by rw [HG.out] at h; cases h), (fun _ => ⟨_, rfl, by rw [Int.toNat_natCast, ← HD.out]; exact own_base HO.out hs3⟩)⟩
end Go.Proofs.Ytlnpipkhofhlnaa
namespace Go.Proofs.Ytlnpipkhofhlnaa
open Go.RowKit Go.Deep

def NothingFn (w : World) (n : Int) (A B : Nat → Int) (m : Nat) (c : Int) (e : Ending) (w' : World) : Prop :=
  Kept w w' ∧ (goodB n A B m = false → e = .returned (.tuple #[.slice none 0 0, .int .i64 1])) ∧
  (goodB n A B m = true → ∃ (r : Nat) (f x : Nat → Int), e = .returned (.tuple #[.slice (some ⟨r, 1, none⟩) (n.toNat - 1) (n.toNat - 1), .int .i64 0]) ∧ w.heap.size ≤ r ∧ w'.rowIs r 3 n.toNat (fun u => .int .i64 (f u)) ∧
    Odo n.toNat (degN A B m) (btwN A B m) (atV (fun _ => 0 + moreN c)) x ∧ (∀ u, u < n.toNat → f u = fin n.toNat (degN A B m) (btwN A B m) (atV (fun _ => 0 + moreN c)) x u) ∧ ∀ u, u < n.toNat → 0 ≤ f u)

set_option maxRecDepth 100000 in
set_option maxHeartbeats 2000000 in
theorem Nothing_any (w : World) (n : Int) (ev : Value) (A B : Nat → Int) (m : Nat) (c : Int) (hE : PairsAt w ev m A B) (hm : m ≤ 1000000) (hc : goodB n A B m = true → countI n.toNat (degN A B m) (btwN A B m) = c ∧ 1 ≤ c ∧ c ≤ 100000) :
    Calls Try.prog 39 #[.int .i64 n, ev] w (NothingFn w n A B m c) := by
  obtain ⟨ea, eb, eo, ecap, rfl, hea, hec⟩ := hE
  have hE' : PairsAt w (.slice ea m ecap) m A B := ⟨ea, eb, eo, ecap, rfl, hea, hec⟩
  clear hec hea
  go_enter Try.func39, Try.ntmps39
  go_wp2_with fail
  refine (yardOf_any _ n _ _ A B m 0 0 (fun _ => 0) (fun _ _ => 0) hE' (noLists _ _ _) hm (by omega)).mono ?_
  rintro e w1 ⟨hK1, hpost⟩
  cases hg : goodB n A B m
  · rw [hg, if_neg (by simp)] at hpost
    have HG := Lib.hid hg
    subst hpost
    clear hg hc
    unfold zeroYard
    go_wp2_with fail
    go_ret2
    exact ⟨hK1.alloc _, (fun _ => rfl), (fun h => by rw [HG.out] at h; cases h)⟩
  · rw [hg, if_pos rfl, if_pos (show allN _ 0 = true from rfl)] at hpost
    obtain ⟨ok, ⟨p, hpk⟩, hm20, _⟩ := good_ok hg
    obtain ⟨hcc, hc1, hc2⟩ := hc hg
    have HG := Lib.hid hg
    obtain ⟨N, rfl⟩ : ∃ N : Nat, n = (N : Int) := ⟨n.toNat, by have := ok.n2; omega⟩
    simp only [Int.toNat_natCast] at ok hpost hpk hcc
    obtain ⟨bd, bj, br, rfl, hO⟩ := hpost
    have hn2 := ok.n2
    have hn8 := ok.n8
    have hmore := moreN_bd hc1
    obtain ⟨y, hy, hyB⟩ := hpk.stab (D := degN A B m) (h := atV (fun _ => 0 + moreN c)) (K := 101020) ok (by omega) (fun v hv => by
      unfold atV
      by_cases e : v = 0
      · rw [if_pos e]; omega
      · rw [if_neg e]; show 0 + moreN c ≤ 101020; omega)
    have HC := Lib.hid hcc
    have hmk := fun W => mkInts ((N : Int) - 1) (N - 1) (by omega) (by omega) W
    clear hg hc hcc
    unfold YardV
    go_wp2_with fail
    have hkA := hK1.alloc (.cells #[.int .i64 N, .int .i64 m, .slice (some ⟨bd, 0, none⟩) N N, .slice (some ⟨bj, 0, none⟩) N N] 78)
    have hYA := hO.yard.kept ((Kept.refl w1).alloc (.cells #[.int .i64 N, .int .i64 m, .slice (some ⟨bd, 0, none⟩) N N, .slice (some ⟨bj, 0, none⟩) N N] 78))
    obtain ⟨c0, c1, c2, c3⟩ := YBox.new w1 N m bd bj 78
    have hsw := Kept.size hK1
    obtain ⟨g, HGG⟩ : ∃ g, Hid (g = w1.heap.size) := ⟨_, rfl⟩
    rw [← HGG.out] at c0 c1 c2 c3 hsw ⊢
    generalize w1.alloc (.cells #[.int .i64 N, .int .i64 m, .slice (some ⟨bd, 0, none⟩) N N, .slice (some ⟨bj, 0, none⟩) N N] 78) = W at *
    have d0 : ∀ o, (W.alloc o).cell? ⟨g, 0, none⟩ = some (.int .i64 N) := fun o => ((Kept.refl W).alloc o).cellSome c0
    have d1 : ∀ o, (W.alloc o).cell? ⟨g, 1, none⟩ = some (.int .i64 m) := fun o => ((Kept.refl W).alloc o).cellSome c1
    have d2 : ∀ o, (W.alloc o).cell? ⟨g, 2, none⟩ = some (.slice (some ⟨bd, 0, none⟩) N N) := fun o => ((Kept.refl W).alloc o).cellSome c2
    have d3 : ∀ o, (W.alloc o).cell? ⟨g, 3, none⟩ = some (.slice (some ⟨bj, 0, none⟩) N N) := fun o => ((Kept.refl W).alloc o).cellSome c3
    have HYB : Hid (∀ v, v < N → y v ≤ 1700000000000000) := fun v hv => Int.le_trans (hyB v hv) (by decide)
    clear hyB
    have hz1 : IntKind.i64.wrap ((N : Int) - 1) = (N : Int) - 1 := IntWalk.i64_in _ (by omega)
    go_wp2_with fail
    go_region_with (first | (go_at_call 41; refine (recurrent_any _ N m bd bj br (degN A B m) (btwN A B m) _ (fun _ => 0) c y ?_ ok ?_ (fun i _ => by omega) HC.out hc1 (by omega) hy HYB.out).mono ?_; (exact hYA.kept (by repeat (first | assumption | exact Kept.refl _ | apply Kept.drew | apply Kept.drewN | apply Kept.alloc | refine Kept.trans ?_ (by assumption)))); (exact CellsAt.of_row (World.rowIs.drew (row_at W _ _ _ _ rfl))); rintro e w2 ⟨r, f, x, rfl, hk2, hr0, hR, hodo, hf, hf0⟩))
    all_goals
      go_wp2_with fail
      go_ret2
      have hKw : Kept w w2 := (by repeat (first | assumption | exact Kept.refl _ | apply Kept.drew | apply Kept.drewN | apply Kept.alloc | refine Kept.trans ?_ (by assumption)))
      have hWs := Kept.size hkA
      refine ⟨hKw, (fun h => by rw [HG.out] at h; cases h), (fun _ => ⟨r, f, x, by rw [Int.toNat_natCast]; rfl, ?_, by rw [Int.toNat_natCast]; exact hR, by rw [Int.toNat_natCast]; exact hodo, by rw [Int.toNat_natCast]; exact hf, by rw [Int.toNat_natCast]; exact hf0⟩)⟩
      simp at hr0
      omega
end Go.Proofs.Ytlnpipkhofhlnaa
