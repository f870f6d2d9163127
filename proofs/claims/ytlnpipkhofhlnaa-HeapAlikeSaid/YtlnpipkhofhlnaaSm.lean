/-
  Sum, as the package exports it.
-/
import Derived.Test.YtlnpipkhofhlnaaJ
import Derived.Test.YtlnpipkhofhlnaaLa
import Derived.StillTailTactics
namespace Go.Proofs.Ytlnpipkhofhlnaa
open Go.RowKit Go.Deep

def len2 (a b : Nat) : Nat → Nat := fun i => if i = 0 then a else b
def fun2 (f g : Nat → Int) : Nat → Nat → Int := fun i => if i = 0 then f else g
/-- the code that Sum returns before it begins -/
def code2 (n : Int) (A B : Nat → Int) (m la lb : Nat) (fa fb : Nat → Int) : Int := whyC n A B m 0 2 (len2 la lb) (fun2 fa fb)
theorem holds2 {N : Nat} {la lb : Nat} {fa fb : Nat → Int} : allN (fun i => holdsB N 0 (len2 la lb i) (fun2 fa fb i)) 2 = (holdsB N 0 la fa && holdsB N 0 lb fb) := by
  simp [allN, len2, fun2]
theorem code2_arg {n : Int} {A B : Nat → Int} {m la lb : Nat} {fa fb : Nat → Int} (h : goodB n A B m = false) : code2 n A B m la lb fa fb = 1 := by
  unfold code2 whyC; rw [h]; rfl
theorem code2_form {n : Int} {A B : Nat → Int} {m la lb : Nat} {fa fb : Nat → Int} (h : goodB n A B m = true) (h2 : (holdsB n.toNat 0 la fa && holdsB n.toNat 0 lb fb) = false) : code2 n A B m la lb fa fb = 2 := by
  unfold code2 whyC; rw [h, holds2, h2]; rfl
theorem code2_ok {n : Int} {A B : Nat → Int} {m la lb : Nat} {fa fb : Nat → Int} (h : goodB n A B m = true) (h2 : (holdsB n.toNat 0 la fa && holdsB n.toNat 0 lb fb) = true) : code2 n A B m la lb fa fb = 0 := by
  unfold code2 whyC; rw [h, holds2, h2]; rfl
def SumOk (w' : World) (n : Nat) (D : Nat → Nat) (J : Nat → Nat → Nat) (h : Nat → Int) (e : Ending) : Prop :=
  ∃ (r : Nat) (f x : Nat → Int), e = .returned (.tuple #[.slice (some ⟨r, 1, none⟩) (n - 1) (n - 1), .int .i64 0]) ∧ w'.rowIs r 3 n (fun u => .int .i64 (f u)) ∧ Odo n D J h x ∧ ∀ u, u < n → f u = fin n D J h x u
def SumFn (w : World) (n : Int) (A B : Nat → Int) (m la lb : Nat) (fa fb : Nat → Int) (e : Ending) (w' : World) : Prop :=
  Kept w w' ∧ (code2 n A B m la lb fa fb = 0 → SumOk w' n.toNat (degN A B m) (btwN A B m) (atV (fun i => fa i + fb i)) e) ∧ (code2 n A B m la lb fa fb ≠ 0 → e = .returned (.tuple #[.slice none 0 0, .int .i64 (code2 n A B m la lb fa fb)]))
def sumF (fa fb : Nat → Int) (k : Nat) : Nat → Int := fun i => if i < k then fa i + fb i else 0
theorem sumF_step {fa fb : Nat → Int} {k i : Nat} : (if i = k then fa k + fb k else sumF fa fb k i) = sumF fa fb (k + 1) i := by
  unfold sumF
  by_cases e : i = k
  · subst e; rw [if_pos rfl, if_pos (by omega)]
  · rw [if_neg e]
    by_cases e2 : i < k
    · rw [if_pos e2, if_pos (by omega)]
    · rw [if_neg e2, if_neg (by omega)]

set_option maxRecDepth 100000 in
set_option maxHeartbeats 2000000 in
theorem Sum_any (w : World) (n : Int) (ev av bv : Value) (A B : Nat → Int) (m la lb : Nat) (fa fb : Nat → Int) (hE : PairsAt w ev m A B) (hA : IntsAt w av la fa) (hB : IntsAt w bv lb fb) (hm : m ≤ 1000000) :
    Calls Try.prog 28 #[.int .i64 n, ev, av, bv] w (SumFn w n A B m la lb fa fb) := by
  obtain ⟨ea, eb, eo, ecap, rfl, hea, hec⟩ := hE
  have hE' : PairsAt w (.slice ea m ecap) m A B := ⟨ea, eb, eo, ecap, rfl, hea, hec⟩
  have hA' := hA
  have hB' := hB
  obtain ⟨a1, b1, o1, cap1, rfl, ha1, hc1⟩ := hA
  obtain ⟨a2, b2, o2, cap2, rfl, ha2, hc2⟩ := hB
  have hl1 := list2 hA' hB' 25
  have hk0 : Kept w (w.alloc (.cells #[.slice a1 la cap1, .slice a2 lb cap2] 25)) := (Kept.refl w).alloc _
  clear hec hea
  go_enter Try.func28, Try.ntmps28
  go_wp2_with fail
  refine (yardOf_any _ n _ _ A B m 0 2 (len2 la lb) (fun2 fa fb) (hE'.kept hk0) (by
    obtain ⟨vs, h1, h2⟩ := hl1
    refine ⟨vs, h1, fun i hi => ?_⟩
    have h3 := h2 i hi
    have : i = 0 ∨ i = 1 := by omega
    rcases this with rfl | rfl <;> exact h3) hm (by omega)).mono ?_
  rintro e w1 ⟨hk1, hpost⟩
  have hK1 := hk0.trans hk1
  cases hg : goodB n A B m
  · rw [hg, if_neg (by simp)] at hpost
    have hcode : Hid (code2 n A B m la lb fa fb = 1) := code2_arg hg
    subst hpost
    clear hg hl1 hc1 hc2 ha1 ha2
    unfold zeroYard
    go_wp2_with fail
    go_ret2
    exact ⟨hK1.alloc _, (fun h => by rw [hcode.out] at h; cases h), (fun _ => by rw [hcode.out]; rfl)⟩
  · rw [hg, if_pos rfl, holds2] at hpost
    obtain ⟨ok, ⟨p, hpk⟩, hm20, _⟩ := good_ok hg
    obtain ⟨N, rfl⟩ : ∃ N : Nat, n = ((N + 1 : Nat) : Int) := ⟨n.toNat - 1, by have := ok.n2; omega⟩
    unfold SumFn
    simp only [Int.toNat_natCast] at ok hpk hpost ⊢
    cases hh : (holdsB (N + 1) 0 la fa && holdsB (N + 1) 0 lb fb)
    · rw [hh, if_neg (by simp)] at hpost
      have hcode : Hid (code2 ((N + 1 : Nat) : Int) A B m la lb fa fb = 2) := code2_form hg hh
      subst hpost
      clear hg hl1 hh hc1 hc2 ha1 ha2
      unfold zeroYard
      go_wp2_with fail
      go_ret2
      exact ⟨hK1.alloc _, (fun h => by rw [hcode.out] at h; cases h), (fun _ => by rw [hcode.out]; rfl)⟩
    · rw [hh, if_pos rfl] at hpost
      have hcode : Hid (code2 ((N + 1 : Nat) : Int) A B m la lb fa fb = 0) := code2_ok hg hh
      obtain ⟨bd, bj, br, rfl, hO⟩ := hpost
      rw [Bool.and_eq_true] at hh
      obtain ⟨hla, hra⟩ := holds_range hh.1
      obtain ⟨hlb, hrb⟩ := holds_range hh.2
      simp only [Nat.add_sub_cancel] at hla hlb hra hrb
      obtain ⟨y, hy, hyB⟩ := hpk.stab (D := degN A B m) (h := atV (fun i => fa i + fb i)) (K := 2000) ok (by omega) (fun v hv => by
        unfold atV
        by_cases e : v = 0
        · rw [if_pos e]; omega
        · rw [if_neg e]; have h1 := hra (v - 1) (by omega); have h2 := hrb (v - 1) (by omega); show fa (v - 1) + fb (v - 1) ≤ 2000; omega)
      have HYB : Hid (∀ v, v < N + 1 → y v ≤ 1700000000000000) := fun v hv => Int.le_trans (hyB v hv) (by decide)
      have HRA := Lib.hid hra
      have HRB := Lib.hid hrb
      have hn2 := ok.n2
      have hn8 := ok.n8
      subst hla
      have HLB := Lib.hid hlb
      have hC1 : ∀ i, i < la → w1.cell? ⟨b1, o1 + i, none⟩ = some (.int .i64 (fa i)) := fun i hi => hK1.cellSome (hc1 i hi)
      have hC2 : ∀ i, i < la → w1.cell? ⟨b2, o2 + i, none⟩ = some (.int .i64 (fb i)) := fun i hi => hK1.cellSome (hc2 i (by omega))
      have HC1 := Lib.hid hC1
      have HC2 := Lib.hid hC2
      obtain rfl := ha1 (by omega)
      obtain rfl := ha2 (by omega)
      clear hg hl1 hh hra hrb hyB hlb hc1 hc2 ha1 ha2 hC1 hC2 hpk
      have hmk := fun W => mkInts (la : Int) la rfl (by omega) W
      unfold YardV
      go_wp2_with fail
      have hB0 : YBox ((w1.alloc (.cells #[.int .i64 ((la : Int) + 1), .int .i64 m, .slice (some ⟨bd, 0, none⟩) (la + 1) (la + 1), .slice (some ⟨bj, 0, none⟩) (la + 1) (la + 1)] 78)).alloc (.cells (madeCells #[.int .i64 0] la) 3)) w1.heap.size (la + 1) m bd bj := YBox.kept (YBox.new w1 (la + 1) m bd bj 78) ((Kept.refl _).alloc _)
      have hR0 := World.rowIs_made (w1.alloc (.cells #[.int .i64 ((la : Int) + 1), .int .i64 m, .slice (some ⟨bd, 0, none⟩) (la + 1) (la + 1), .slice (some ⟨bj, 0, none⟩) (la + 1) (la + 1)] 78)) (.int .i64 0) la 3
      rw [nblk_alloc] at hR0
      have hkW : Kept w1 ((w1.alloc (.cells #[.int .i64 ((la : Int) + 1), .int .i64 m, .slice (some ⟨bd, 0, none⟩) (la + 1) (la + 1), .slice (some ⟨bj, 0, none⟩) (la + 1) (la + 1)] 78)).alloc (.cells (madeCells #[.int .i64 0] la) 3)) := ((Kept.refl w1).alloc _).alloc _
      clear hmk
      generalize (w1.alloc (.cells #[.int .i64 ((la : Int) + 1), .int .i64 m, .slice (some ⟨bd, 0, none⟩) (la + 1) (la + 1), .slice (some ⟨bj, 0, none⟩) (la + 1) (la + 1)] 78)).alloc (.cells (madeCells #[.int .i64 0] la) 3) = W2 at *
      obtain ⟨sb, HSB⟩ : ∃ sb, Hid (sb = w1.heap.size + 1) := ⟨_, rfl⟩
      obtain ⟨g, HG⟩ : ∃ g, Hid (g = w1.heap.size) := ⟨_, rfl⟩
      have hsb : w1.heap.size ≤ sb := by rw [HSB.out]; omega
      have hgsb : g ≠ sb := by rw [HSB.out, HG.out]; omega
      rw [← HSB.out] at hR0 ⊢
      rw [← HG.out] at hB0 ⊢
      clear HSB HG
      go_loopg [33] la (fun gg i wr => ∃ k : Nat, k ≤ la ∧ gg = la - k ∧ i = .int .i64 k ∧ Kept w1 wr ∧ YBox wr g (la + 1) m bd bj ∧ wr.rowIs sb 3 la (fun i => .int .i64 (sumF fa fb k i)))
      case atStart => exact ⟨0, Nat.zero_le _, rfl, rfl, hkW, hB0, hR0.congr (fun i _ => rfl)⟩
      case round =>
        obtain ⟨k, hk, rfl, rfl, hK, hB, hR⟩ := hrel
        clear hkW hB0 hR0
        by_cases hlt : k < la
        · have t1 := hK.cellSome (HC1.out k hlt)
          have t2 := hK.cellSome (HC2.out k hlt)
          have f1 := hR.frozen k
          have t3 := hR.cell hlt
          have h1 := HRA.out k hlt
          have h2 := HRB.out k (by omega)
          have s1 : (k : Int) < (la : Int) := by omega
          have s2 : (k : Int) < (lb : Int) := by rw [HLB.out]; exact s1
          have s3 : (0 : Int) ≤ (k : Int) := by omega
          have s4 : IntKind.i64.wrap (fa k + fb k) = fa k + fb k := IntWalk.i64_in _ (by omega)
          clear h1 h2
          go_wp2_with fail
          refine wp_region_still_tail 12 (by kernel_rfl) (by kernel_rfl) ?_
          change wpStill _ _ (World.drew _) (fun a' => wpList _ _ _ _ a' (World.drew _)) _ _
          simp only [List.take_succ_cons, List.take_zero, List.drop_succ_cons, List.drop_zero]
          repeat still_step
          refine wpStill_nil ?_
          have q1 : wr.drew.cell? ⟨sb, k, none⟩ = some (.int .i64 (sumF fa fb k k)) := t3
          have q2 : wr.drew.frozen? ⟨sb, k, none⟩ = false := f1
          have hK2 := hK.drew
          have hB2 := YBox.kept hB ((Kept.refl wr).drew)
          have hR2 := (World.rowIs.set (w := wr.drew) (((Kept.refl wr).drew).row hR) k (.int .i64 (fa k + fb k))).congr (g := fun i => .int .i64 (sumF fa fb (k + 1) i)) (fun i _ => by
            rw [← sumF_step]
            by_cases e : i = k
            · rw [if_pos e, if_pos e]
            · rw [if_neg e, if_neg e])
          clear hK hB hR t1 t2 f1 t3
          generalize wr.drew = w2 at *
          go_wp2_with fail
          go_roundg (la - (k + 1))
          case measure => omega
          case rel => exact ⟨k + 1, by omega, rfl, by go_num, hK2.setCell (p := ⟨sb, k, none⟩) hsb _, hB2.set4 hgsb _ _, hR2⟩
        · obtain rfl : k = la := by omega
          have hYr := hO.yard.kept hK
          have hK3 := hK1.trans hK
          have hS : IntsAt wr (.slice (some ⟨sb, 0, none⟩) k k) k (fun i => fa i + fb i) := (CellsAt.of_row hR).congr (fun i hi => by unfold sumF; rw [if_pos hi])
          obtain ⟨c0, c1, c2, c3⟩ := hB
          have HSS := Lib.hid hS
          clear hR hS hK
          go_wp2_with fail
          refine (settle_any _ (k + 1) m bd bj br (degN A B m) (btwN A B m) _ (fun i => fa i + fb i) y hYr ok HSS.out (fun i hi => by have h1 := HRA.out i hi; have h2 := HRB.out i hi; show 0 ≤ fa i + fb i ∧ fa i + fb i ≤ 1000000000; omega) hy HYB.out).mono ?_
          rintro e w4 ⟨r, t, f, x, rfl, hk4, _, _, _, hR4, _, hodo, hf, _⟩
          go_wp2_with fail
          go_ret2
          exact ⟨hK3.trans hk4, (fun _ => ⟨r, f, x, rfl, hR4, hodo, hf⟩), fun h => absurd hcode.out h⟩
end Go.Proofs.Ytlnpipkhofhlnaa
