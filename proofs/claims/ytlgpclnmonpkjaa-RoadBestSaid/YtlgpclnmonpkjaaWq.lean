/-
  The law's Map.made.
-/
import Derived.Test.YtlgpclnmonpkjaaWl
import Derived.Test.YtlgpclnmonpkjaaWo
import Derived.Test.YtlgpclnmonpkjaaRg
namespace Go.Proofs.Ytlgpclnmonpkjaa
open Go.RowKit Go.Deep

def mN (nP : Nat) : Nat := min nP 9 + 1
def mO (p0 : Nat → Nat) (i : Nat) : Nat := if i = 0 then 0 else p0 (i - 1) % i
def mL (p1 : Nat → Nat) (i : Nat) : Nat := if i = 0 then 0 else p1 (i - 1) % 20 + 1
theorem mO_succ (p0 : Nat → Nat) (i : Nat) : mO p0 (i + 1) = p0 i % (i + 1) := by simp [mO]
theorem mL_succ (p1 : Nat → Nat) (i : Nat) : mL p1 (i + 1) = p1 i % 20 + 1 := by simp [mL]
def U8Pairs (w : World) (v : Value) (n : Nat) (f g : Nat → Nat) : Prop := ∃ (a : Option Addr) (b o cap : Nat), v = .slice a n cap ∧ (0 < n → a = some ⟨b, o, none⟩) ∧ ∀ i, i < n → f i < 256 ∧ g i < 256 ∧ w.cell? ⟨b, o + i * 2, none⟩ = some (.int .u8 ((f i : Nat) : Int)) ∧ w.cell? ⟨b, o + i * 2 + 1, none⟩ = some (.int .u8 ((g i : Nat) : Int))
def U8s (w : World) (v : Value) (n : Nat) (f : Nat → Nat) : Prop := ∃ (a : Option Addr) (b o cap : Nat), v = .slice a n cap ∧ (0 < n → a = some ⟨b, o, none⟩) ∧ ∀ i, i < n → f i < 256 ∧ w.cell? ⟨b, o + i, none⟩ = some (.int .u8 ((f i : Nat) : Int))
theorem U8Pairs.kept {w w' : World} {v : Value} {n : Nat} {f g : Nat → Nat} (h : U8Pairs w v n f g) (k : Kept w w') : U8Pairs w' v n f g := by
  obtain ⟨a, b, o, cap, e, ha, hc⟩ := h
  exact ⟨a, b, o, cap, e, ha, fun i hi => ⟨(hc i hi).1, (hc i hi).2.1, k.cellSome (hc i hi).2.2.1, k.cellSome (hc i hi).2.2.2⟩⟩
theorem U8s.kept {w w' : World} {v : Value} {n : Nat} {f : Nat → Nat} (h : U8s w v n f) (k : Kept w w') : U8s w' v n f := by
  obtain ⟨a, b, o, cap, e, ha, hc⟩ := h
  exact ⟨a, b, o, cap, e, ha, fun i hi => ⟨(hc i hi).1, k.cellSome (hc i hi).2⟩⟩

/-- two rows of ints in blocks of their own -/
def RR (w : World) (base : Nat) (ov lv : Value) (n m : Nat) (f g : Nat → Nat) : Prop := w.ownsRow base 3 1 ov n (natsL f n) ∧ w.ownsRow base 3 1 lv m (natsL g m) ∧ ov.ownBlock ≠ lv.ownBlock
theorem RR.alloc {w : World} {base : Nat} {ov lv : Value} {n m : Nat} {f g : Nat → Nat} (h : RR w base ov lv n m f g) (o : Obj) : RR (w.alloc o) base ov lv n m f g := ⟨h.1.alloc o, h.2.1.alloc o, h.2.2⟩
theorem RR.swap {w : World} {base : Nat} {ov lv : Value} {n m : Nat} {f g : Nat → Nat} (h : RR w base ov lv n m f g) : RR w base lv ov m n g f := ⟨h.2.1, h.1, fun e => h.2.2 e.symm⟩
theorem RR.grow {w w' : World} {base : Nat} {ov lv ov' : Value} {n m : Nat} {f g : Nat → Nat} (h : RR w base ov lv n m f g) (hO : w'.ownsRow base 3 1 ov' (n + 1) (natsL f n ++ [.int .i64 ((f n : Nat) : Int)])) (hgr : w.grownBy w' ov.ownBlock) (hwh : ov'.ownBlock = ov.ownBlock ∨ ov'.ownBlock = some w.heap.size) : RR w' base ov' lv (n + 1) m f g := by
  refine ⟨by rw [natsL_succ]; exact hO, h.2.1.kept hgr (.inr fun e => h.2.2 e.symm), fun e => ?_⟩
  rcases hwh with h1 | h1
  · exact h.2.2 (h1.symm.trans e)
  · have := (h.2.1.lt w.heap.size (e.symm.trans h1)).2
    omega
theorem RR.set {w : World} {base : Nat} {ov lv : Value} {n m : Nat} {f g : Nat → Nat} {np : Nat} {t : TypeId} {k : Nat} {F : Nat → Value} (h : RR w base ov lv n m f g) (hr : w.rowIs np t k F) (ht : t ≠ 3) (j : Nat) (u : Value) : RR (w.setCell ⟨np, j, none⟩ u) base ov lv n m f g :=
  have kx : KeptX (fun b => b = np) w (w.setCell ⟨np, j, none⟩ u) := (KeptX.refl (fun b => b = np) w).setCell (p := ⟨np, j, none⟩) (Or.inl rfl) u
  have hS : ∀ b c f, w.heap[b]? = some (.cells c 3 f) → base ≤ b → ¬ b = np := fun b c f hb _ e => by subst e; exact ht (row_type hr hb)
  ⟨own_keptY h.1 kx hS, own_keptY h.2.1 kx hS, h.2.2⟩
theorem own_not_row {w : World} {base e size : Nat} {v : Value} {n : Nat} {xs : List Value} {g : Nat} {t : TypeId} {k : Nat} {f : Nat → Value} (h : w.ownsRow base e size v n xs) (hr : w.rowIs g t k f) (ht : t ≠ e) : v.ownBlock ≠ some g := by
  rcases h.2 with ⟨rfl, rfl⟩ | ⟨b, cap, cur, rfl, hbg, hg, hnc, hcm, hcs, htake⟩
  · intro e; cases e
  · intro e
    injection e with e
    subst e
    exact ht (row_type hr hg)
theorem row_grownN {w w' : World} {g : Nat} {t : TypeId} {m : Nat} {f : Nat → Value} {r : Option Nat} (hr : w.rowIs g t m f) (hgr : w.grownBy w' r) (hne : r ≠ some g) : w'.rowIs g t m f :=
  KeptX.row (S := fun k => r = some k) (KeptX.grown (KeptX.refl _ _) hgr (fun _ hk => Or.inl hk)) hr hne
theorem own_set {w : World} {base e size n : Nat} {v : Value} {xs : List Value} {g : Nat} {t : TypeId} {k : Nat} {f : Nat → Value} (h : w.ownsRow base e size v n xs) (hr : w.rowIs g t k f) (ht : t ≠ e) (j : Nat) (u : Value) : (w.setCell ⟨g, j, none⟩ u).ownsRow base e size v n xs :=
  own_keptY h ((KeptX.refl (fun b => b = g) w).setCell (p := ⟨g, j, none⟩) (Or.inl rfl) u) (fun b c f hb _ e => by subst e; exact ht (row_type hr hb))
theorem own_other {w w' : World} {b1 e1 s1 n1 b2 e2 s2 n2 : Nat} {v1 v2 : Value} {xs ys : List Value} (h1 : w.ownsRow b1 e1 s1 v1 n1 xs) (h2 : w.ownsRow b2 e2 s2 v2 n2 ys) (he : e1 ≠ e2) (hgr : w.grownBy w' v2.ownBlock) : w'.ownsRow b1 e1 s1 v1 n1 xs := by
  refine h1.kept hgr ?_
  rcases h1.2 with ⟨rfl, rfl⟩ | ⟨b, cap, cur, rfl, _, hg, _⟩
  · exact .inl rfl
  · refine .inr fun e => ?_
    rcases h2.2 with ⟨rfl, rfl⟩ | ⟨b', cap', cur', rfl, _, hg', _⟩
    · cases e
    · have e' : b = b' := by injection e
      subst e'
      rw [hg] at hg'
      injection hg' with h
      injection h with _ h _
      exact he h
theorem own_mono {w : World} {base base' e size n : Nat} {v : Value} {xs : List Value} (h : w.ownsRow base e size v n xs) (hb : base' ≤ base) : w.ownsRow base' e size v n xs := by
  refine ⟨h.1, ?_⟩
  rcases h.2 with h1 | ⟨g, cap, cur, e1, hbg, h2⟩
  · exact .inl h1
  · exact .inr ⟨g, cap, cur, e1, Nat.le_trans hb hbg, h2⟩
def mA (n : Nat) (h0 : Nat → Nat) (nH i : Nat) : Nat := if nH = 0 then 0 else h0 i % n
def mH (n : Nat) (p1 h0 h1 : Nat → Nat) (nH : Nat) (whole : Bool) : Nat → Sp := fun i => (mA n h0 nH i, if 0 < mA n h0 nH i ∧ whole = false then h1 i % mL p1 (mA n h0 nH i) else 0)
def mK (nH : Nat) : Nat := max 1 (min nH 3)
def mC (n : Nat) (c0 : Nat → Nat) (i : Nat) : Nat := c0 i % n
def MadePost (w : World) (nP nH nC : Nat) (p0 p1 h0 h1 c0 : Nat → Nat) (whole : Bool) (e : Ending) (w' : World) : Prop :=
  ∃ ov lv hv cv, e = .returned (.tuple #[.agg #[ov, lv], hv, cv]) ∧ RR w' w.heap.size ov lv (mN nP) (mN nP) (mO p0) (mL p1) ∧ w'.ownsRow w.heap.size 26 2 hv (mK nH) (spsL (mH (mN nP) p1 h0 h1 nH whole) (mK nH)) ∧
    w'.ownsRow w.heap.size 3 1 cv (min nC 12) (natsL (mC (mN nP) c0) (min nC 12)) ∧ cv.ownBlock ≠ lv.ownBlock ∧ (∃ cg cc, cv = .slice (some ⟨cg, 0, none⟩) (min nC 12) cc) ∧ Kept w w'
set_option maxRecDepth 100000 in
set_option maxHeartbeats 4000000 in
theorem made_any (w : World) (vP vH vC : Value) (nP nH nC : Nat) (p0 p1 h0 h1 c0 : Nat → Nat) (hP : U8Pairs w vP nP p0 p1) (hH : U8Pairs w vH nH h0 h1) (hC : U8s w vC nC c0) (whole : Bool) :
    Calls Try.prog 45 #[.agg #[vP, vH, vC], .bool whole] w (MadePost w nP nH nC p0 p1 h0 h1 c0 whole) := by
  obtain ⟨aP, pb, po, cP, rfl, haP, hcP⟩ := hP
  obtain ⟨aH, hb, ho, cH, rfl, haH, hcH⟩ := hH
  obtain ⟨aC, cb, co, cC, rfl, haC, hcC⟩ := hC
  obtain ⟨i1, hi0, hz0, hz1, hz2⟩ := info_parts Try.info3
  obtain ⟨n0, HN0⟩ : ∃ n0, w.heap.size = n0 := ⟨_, rfl⟩
  obtain ⟨W1, hW1, hsz, m0, m1, m2, hK⟩ := newbox3 w n0 HN0 (.slice aP nP cP) (.slice aH nH cH) (.slice aC nC cC) 75
  have hrow := box2row W1 (n0 + 1) hsz (.slice none 0 0) (.slice none 0 0) 24
  obtain ⟨W2, hW2, hsz2, _, _, hK1⟩ := newbox2 W1 (n0 + 1) hsz (.slice none 0 0) (.slice none 0 0) 24
  rw [hW2] at hrow
  have hKw := hK.trans hK1
  obtain ⟨m0, m1, m2, _⟩ := keep3 m0 m1 m2 hK1
  have HP := Lib.hid (fun i hi => (show p0 i < 256 ∧ p1 i < 256 ∧ W2.cell? ⟨pb, po + i * 2, none⟩ = some (.int .u8 ((p0 i : Nat) : Int)) ∧ W2.cell? ⟨pb, po + i * 2 + 1, none⟩ = some (.int .u8 ((p1 i : Nat) : Int)) from ⟨(hcP i hi).1, (hcP i hi).2.1, hKw.cellSome (hcP i hi).2.2.1, hKw.cellSome (hcP i hi).2.2.2⟩))
  have hR1 := World.ownsRow_lit (base := (n0 + 1 + 1)) (e := 3) (size := 1) W2 #[.int .i64 0] 1 (by omega) (by unfold maxLen; omega) rfl
  obtain ⟨W3, hW3⟩ : ∃ W3, W2.alloc (.cells #[.int .i64 0] 3) = W3 := ⟨_, rfl⟩
  have hsz3 : W3.heap.size = (n0 + 1 + 1) + 1 := by rw [← hW3]; simp [hsz2]
  have hk3 : Kept W2 W3 := by rw [← hW3]; exact (Kept.refl _).alloc _
  rw [hW3, hsz2] at hR1
  have hR2 := World.ownsRow_lit (base := (n0 + 1 + 1)) (e := 3) (size := 1) W3 #[.int .i64 0] 1 (by omega) (by unfold maxLen; omega) rfl
  obtain ⟨W4, hW4⟩ : ∃ W4, W3.alloc (.cells #[.int .i64 0] 3) = W4 := ⟨_, rfl⟩
  have hsz4 : W4.heap.size = (n0 + 1 + 1) + 1 + 1 := by rw [← hW4]; simp [hsz3]
  have hk4 : Kept W3 W4 := by rw [← hW4]; exact (Kept.refl _).alloc _
  rw [hW4, hsz3] at hR2
  have hrow7 := box2row W4 ((n0 + 1 + 1) + 1 + 1) hsz4 (.slice (some ⟨n0 + 1 + 1, 0, none⟩) 1 1) (.slice (some ⟨n0 + 1 + 1 + 1, 0, none⟩) 1 1) 24
  obtain ⟨W5, hW5, hsz5, r0, r1, hk5⟩ := newbox2 W4 ((n0 + 1 + 1) + 1 + 1) hsz4 (.slice (some ⟨n0 + 1 + 1, 0, none⟩) 1 1) (.slice (some ⟨n0 + 1 + 1 + 1, 0, none⟩) 1 1) 24
  rw [hW5] at hrow7
  have hRR : RR W5 (n0 + 1 + 1) (.slice (some ⟨n0 + 1 + 1, 0, none⟩) 1 1) (.slice (some ⟨n0 + 1 + 1 + 1, 0, none⟩) 1 1) 1 1 (mO p0) (mL p1) := ⟨own_kept (own_kept hR1 hk4) hk5, own_kept hR2 hk5, by intro e; injection e with e; simp at e⟩
  have hK25 := (hk3.trans hk4).trans hk5
  go_enter Try.func45, Try.ntmps45
  go_wp2_with fail
  clear hR1 hR2 hW1 hW2 hW3 hW4
  (try rw [hW5])
  go_loopg [8] (min nP 9) (fun g s8 wr => ∃ i oa oc la lc, i ≤ min nP 9 ∧ g = min nP 9 - i ∧ s8 = .int .i64 i ∧ wr.rowIs (n0 + 1 + 1 + 1 + 1) 24 2 (bx2 (.slice oa (i + 1) oc) (.slice la (i + 1) lc)) ∧ RR wr (n0 + 1 + 1) (.slice oa (i + 1) oc) (.slice la (i + 1) lc) (i + 1) (i + 1) (mO p0) (mL p1) ∧ Kept W2 wr)
  case atStart => exact ⟨0, _, _, _, _, Nat.zero_le _, rfl, rfl, hrow7, hRR, hK25⟩
  case round =>
    clear hrow7 hRR hK25 r0 r1 hk3 hk4 hk5 hsz3 hsz4 hsz5
    obtain ⟨i, oa, oc, la, lc, hi, rfl, rfl, hr7, hRR, hW⟩ := hrel
    obtain ⟨n, HN⟩ : ∃ n, Hid (n = i + 1) := ⟨_, rfl⟩
    rw [← HN.out] at hr7 hRR
    have hnn : 1 ≤ n ∧ n ≤ 10 := by have := HN.out; omega
    have hB : (n0 + 1 + 1) ≤ wr.heap.size := by have := hW.size; omega
    have s2 := hW.cellSome m0
    have s0 : wr.cell? ⟨n0 + 1 + 1 + 1 + 1, 0, none⟩ = some (.slice oa n oc) := hr7.cell (i := 0) (by omega)
    have s1 : wr.cell? ⟨n0 + 1 + 1 + 1 + 1, 1, none⟩ = some (.slice la n lc) := hr7.cell (i := 1) (by omega)
    go_upto_region 3 with fail
    go_cut [27] (fun v27 wx => v27 = .bool (decide (i < min nP 9)) ∧ wx = wr)
    case first =>
      by_cases c1 : i < nP
      · by_cases c2 : n < 10
        · have b1 : (i : Int) < (nP : Int) := by omega
          have b2 : (n : Int) < 10 := by omega
          have d : Hid (decide (i < min nP 9) = true) := decide_eq_true (by have := HN.out; omega)
          go_wp2_with fail
          go_meet
          exact ⟨by rw [d.out], rfl⟩
        · have b1 : (i : Int) < (nP : Int) := by omega
          have b2 : ¬ (n : Int) < 10 := by omega
          have d : Hid (decide (i < min nP 9) = false) := decide_eq_false (by have := HN.out; omega)
          go_wp2_with fail
          go_meet
          exact ⟨by rw [d.out], rfl⟩
      · have b1 : ¬ (i : Int) < (nP : Int) := by omega
        have d : Hid (decide (i < min nP 9) = false) := decide_eq_false (by omega)
        go_wp2_with fail
        go_meet
        exact ⟨by rw [d.out], rfl⟩
    obtain ⟨e27, e28⟩ := hcut
    obtain rfl := e28.symm
    by_cases hlt : i < min nP 9
    · rw [decide_eq_true hlt] at e27
      subst e27
      obtain rfl := haP (by omega)
      obtain ⟨hp, hq, g1, g2⟩ := HP.out i (by omega)
      have s3 := hW.cellSome g1
      have s4 := hW.cellSome g2
      obtain ⟨p, HPp⟩ : ∃ p, Hid (p = p0 i) := ⟨_, rfl⟩
      obtain ⟨q, HQq⟩ : ∃ q, Hid (q = p1 i) := ⟨_, rfl⟩
      rw [← HPp.out] at hp s3
      rw [← HQq.out] at hq s4
      obtain ⟨x1, HX1⟩ : ∃ x1, Hid (x1 = p % n) := ⟨_, rfl⟩
      obtain ⟨x2, HX2⟩ : ∃ x2, Hid (x2 = q % 20) := ⟨_, rfl⟩
      have hx1 : x1 < n := by rw [HX1.out]; exact Nat.mod_lt _ (by omega)
      have hx2 : x2 < 20 := by rw [HX2.out]; exact Nat.mod_lt _ (by omega)
      have t1 : Int.tmod (p : Int) (n : Int) = (x1 : Int) := by rw [HX1.out, Int.tmod_eq_emod_of_nonneg (by omega)]; simp
      have t2 : Int.tmod (q : Int) 20 = (x2 : Int) := by rw [HX2.out, Int.tmod_eq_emod_of_nonneg (by omega)]; simp
      have b1 : (i : Int) < (nP : Int) := by omega
      have b2 : (n : Int) < 10 := by have := HN.out; omega
      have b3 : ¬ n = 0 := by omega
      have b5 : IntKind.i64.wrap (p : Int) = (p : Int) := IntWalk.i64_in _ (by omega)
      have b6 : IntKind.i64.wrap (q : Int) = (q : Int) := IntWalk.i64_in _ (by omega)
      have b7 : IntKind.i64.wrap (x1 : Int) = (x1 : Int) := IntWalk.i64_in _ (by omega)
      have b8 : IntKind.i64.wrap (x2 : Int) = (x2 : Int) := IntWalk.i64_in _ (by omega)
      have b9 : IntKind.i64.wrap ((x2 : Int) + 1) = (x2 : Int) + 1 := IntWalk.i64_in _ (by omega)
      have b4 : (0 : Int) ≤ (i : Int) := by omega
      have b10 : IntKind.i64.wrap ((i : Int) + 1) = (i : Int) + 1 := IntWalk.i64_in _ (by omega)
      have HXo : Hid (((x1 : Nat) : Int) = ((mO p0 n : Nat) : Int)) := by show _ = _; rw [HX1.out, HPp.out, HN.out, mO_succ]
      have HXl : Hid (((x2 : Nat) : Int) + 1 = ((mL p1 n : Nat) : Int)) := by show _ = _; rw [HX2.out, HQq.out, HN.out, mL_succ]; omega
      rw [← HPp.out] at g1
      rw [← HQq.out] at g2
      go_upto_region 1 with fail
      refine wp_region_last (S := (fun w' => w'.cell? ⟨n0 + 1 + 1 + 1 + 1, 0, none⟩ = some (.slice oa n oc) ∧ w'.cell? ⟨n0 + 1 + 1 + 1 + 1, 1, none⟩ = some (.slice la n lc) ∧ w'.cell? ⟨n0, 0, none⟩ = some (.slice (some ⟨pb, po, none⟩) nP cP) ∧ w'.cell? ⟨pb, po + i * 2, none⟩ = some (.int .u8 (p : Int)) ∧ w'.cell? ⟨pb, po + i * 2 + 1, none⟩ = some (.int .u8 (q : Int)))) 29 (by kernel_rfl) ?_ (fun hHeld => ?_)
      · (try dsimp only)
        exact ⟨s0, s1, s2, s3, s4⟩
      refine wpAnyM_take (i := 0) (oi := { dst := some 30, op := Go.Op.fieldAddr 24 (Go.Operand.tmp 7) 0, type := 0, pos := "more.go:20", after := #[], guard := none }) (v := ?v1) [29] rfl (by kernel_rfl) (by kernel_rfl) (by kernel_rfl) (fun _ _ _ h => h) (by kernel_rfl) (Or.inl ⟨by rfl, ?hy1⟩) (by assumption) ?rs1
      case hy1 =>
        intro w hSw
        (try dsimp only at hSw)
        go_simp
        try with_reducible rfl
      (try simp only [Act.put, List.setIfInBounds_toArray, List.set_cons_zero, List.set_cons_succ])
      refine wpAnyM_take (i := 1) (oi := { dst := some 31, op := Go.Op.load 22 (Go.Operand.tmp 30), type := 22, pos := "more.go:20", after := #[{ on := 0, ground := Go.Ground.data }], guard := none }) (v := ?v2) [29] rfl (by kernel_rfl) (by kernel_rfl) (by kernel_rfl) (fun _ _ _ h => h) (by kernel_rfl) (Or.inl ⟨by rfl, ?hy2⟩) (by assumption) ?rs2
      case hy2 =>
        intro w hSw
        (try dsimp only at hSw)
        go_simp
        try with_reducible rfl
      (try simp only [Act.put, List.setIfInBounds_toArray, List.set_cons_zero, List.set_cons_succ])
      refine wpAnyM_take (i := 2) (oi := { dst := some 32, op := Go.Op.fieldAddr 75 (Go.Operand.tmp 2) 0, type := 0, pos := "more.go:20", after := #[], guard := none }) (v := ?v3) [29] rfl (by kernel_rfl) (by kernel_rfl) (by kernel_rfl) (fun _ _ _ h => h) (by kernel_rfl) (Or.inl ⟨by rfl, ?hy3⟩) (by assumption) ?rs3
      case hy3 =>
        intro w hSw
        (try dsimp only at hSw)
        go_simp
        try with_reducible rfl
      (try simp only [Act.put, List.setIfInBounds_toArray, List.set_cons_zero, List.set_cons_succ])
      refine wpAnyM_take (i := 3) (oi := { dst := some 33, op := Go.Op.load 72 (Go.Operand.tmp 32), type := 72, pos := "more.go:20", after := #[{ on := 2, ground := Go.Ground.data }], guard := none }) (v := ?v4) [29] rfl (by kernel_rfl) (by kernel_rfl) (by kernel_rfl) (fun _ _ _ h => h) (by kernel_rfl) (Or.inl ⟨by rfl, ?hy4⟩) (by assumption) ?rs4
      case hy4 =>
        intro w hSw
        (try dsimp only at hSw)
        go_simp
        try with_reducible rfl
      (try simp only [Act.put, List.setIfInBounds_toArray, List.set_cons_zero, List.set_cons_succ])
      refine wpAnyM_take (i := 4) (oi := { dst := some 34, op := Go.Op.move (Go.Operand.tmp 8), type := 3, pos := "more.go:20", after := #[], guard := none }) (v := ?v5) [29] rfl (by kernel_rfl) (by kernel_rfl) (by kernel_rfl) (fun _ _ _ h => h) (by kernel_rfl) (Or.inl ⟨by rfl, ?hy5⟩) (by assumption) ?rs5
      case hy5 =>
        intro w hSw
        (try dsimp only at hSw)
        go_simp
        try with_reducible rfl
      (try simp only [Act.put, List.setIfInBounds_toArray, List.set_cons_zero, List.set_cons_succ])
      refine wpAnyM_take (i := 5) (oi := { dst := some 35, op := Go.Op.indexAddr 72 (Go.Operand.tmp 33) (Go.Operand.tmp 34), type := 0, pos := "more.go:20", after := #[{ on := 3, ground := Go.Ground.data }, { on := 4, ground := Go.Ground.data }], guard := none }) (v := ?v6) [29] rfl (by kernel_rfl) (by kernel_rfl) (by kernel_rfl) (fun _ _ _ h => h) (by kernel_rfl) (Or.inl ⟨by rfl, ?hy6⟩) (by assumption) ?rs6
      case hy6 =>
        intro w hSw
        (try dsimp only at hSw)
        go_simp
        try with_reducible rfl
      (try simp only [Act.put, List.setIfInBounds_toArray, List.set_cons_zero, List.set_cons_succ])
      refine wpAnyM_take (i := 6) (oi := { dst := some 36, op := Go.Op.indexAddr 82 (Go.Operand.tmp 35) (Go.Operand.const (Go.Value.int Go.IntKind.i64 0)), type := 0, pos := "more.go:20", after := #[{ on := 5, ground := Go.Ground.data }], guard := none }) (v := ?v7) [29] rfl (by kernel_rfl) (by kernel_rfl) (by kernel_rfl) (fun _ _ _ h => h) (by kernel_rfl) (Or.inl ⟨by rfl, ?hy7⟩) (by assumption) ?rs7
      case hy7 =>
        intro w hSw
        (try dsimp only at hSw)
        go_simp
        try with_reducible rfl
      (try simp only [Act.put, List.setIfInBounds_toArray, List.set_cons_zero, List.set_cons_succ])
      refine wpAnyM_take (i := 7) (oi := { dst := some 37, op := Go.Op.load 5 (Go.Operand.tmp 36), type := 5, pos := "more.go:20", after := #[{ on := 6, ground := Go.Ground.data }], guard := none }) (v := ?v8) [29] rfl (by kernel_rfl) (by kernel_rfl) (by kernel_rfl) (fun _ _ _ h => h) (by kernel_rfl) (Or.inl ⟨by rfl, ?hy8⟩) (by assumption) ?rs8
      case hy8 =>
        intro w hSw
        (try dsimp only at hSw)
        go_simp
        try with_reducible rfl
      (try simp only [Act.put, List.setIfInBounds_toArray, List.set_cons_zero, List.set_cons_succ])
      refine wpAnyM_take (i := 8) (oi := { dst := some 38, op := Go.Op.convert 5 3 (Go.Operand.tmp 37), type := 3, pos := "more.go:20", after := #[{ on := 7, ground := Go.Ground.data }], guard := none }) (v := ?v9) [29] rfl (by kernel_rfl) (by kernel_rfl) (by kernel_rfl) (fun _ _ _ h => h) (by kernel_rfl) (Or.inl ⟨by rfl, ?hy9⟩) (by assumption) ?rs9
      case hy9 =>
        intro w hSw
        (try dsimp only at hSw)
        go_simp
        try with_reducible rfl
      (try simp only [Act.put, List.setIfInBounds_toArray, List.set_cons_zero, List.set_cons_succ])
      refine wpAnyM_take (i := 9) (oi := { dst := some 39, op := Go.Op.fieldAddr 24 (Go.Operand.tmp 7) 0, type := 0, pos := "more.go:20", after := #[], guard := none }) (v := ?v10) [29] rfl (by kernel_rfl) (by kernel_rfl) (by kernel_rfl) (fun _ _ _ h => h) (by kernel_rfl) (Or.inl ⟨by rfl, ?hy10⟩) (by assumption) ?rs10
      case hy10 =>
        intro w hSw
        (try dsimp only at hSw)
        go_simp
        try with_reducible rfl
      (try simp only [Act.put, List.setIfInBounds_toArray, List.set_cons_zero, List.set_cons_succ])
      refine wpAnyM_take (i := 10) (oi := { dst := some 40, op := Go.Op.load 22 (Go.Operand.tmp 39), type := 22, pos := "more.go:20", after := #[{ on := 9, ground := Go.Ground.data }], guard := none }) (v := ?v11) [29] rfl (by kernel_rfl) (by kernel_rfl) (by kernel_rfl) (fun _ _ _ h => h) (by kernel_rfl) (Or.inl ⟨by rfl, ?hy11⟩) (by assumption) ?rs11
      case hy11 =>
        intro w hSw
        (try dsimp only at hSw)
        go_simp
        try with_reducible rfl
      (try simp only [Act.put, List.setIfInBounds_toArray, List.set_cons_zero, List.set_cons_succ])
      refine wpAnyM_take (i := 11) (oi := { dst := some 41, op := Go.Op.call { callee := Go.Callee.builtin Go.Builtin.len, args := #[Go.Operand.tmp 40], argTypes := #[22] }, type := 3, pos := "more.go:20", after := #[{ on := 10, ground := Go.Ground.data }], guard := none }) (v := ?v12) [29] rfl (by kernel_rfl) (by kernel_rfl) (by kernel_rfl) (fun _ _ _ h => h) (by kernel_rfl) (Or.inl ⟨by rfl, ?hy12⟩) (by assumption) ?rs12
      case hy12 =>
        intro w hSw
        (try dsimp only at hSw)
        go_simp
        try with_reducible rfl
      (try simp only [Act.put, List.setIfInBounds_toArray, List.set_cons_zero, List.set_cons_succ])
      refine wpAnyM_take (i := 12) (oi := { dst := some 42, op := Go.Op.binOp Go.BinOp.rem 3 (Go.Operand.tmp 38) (Go.Operand.tmp 41) 3, type := 3, pos := "more.go:20", after := #[{ on := 8, ground := Go.Ground.data }, { on := 11, ground := Go.Ground.data }], guard := none }) (v := ?v13) [29] rfl (by kernel_rfl) (by kernel_rfl) (by kernel_rfl) (fun _ _ _ h => h) (by kernel_rfl) (Or.inl ⟨by rfl, ?hy13⟩) (by assumption) ?rs13
      case hy13 =>
        intro w hSw
        (try dsimp only at hSw)
        go_simp
        try with_reducible rfl
      (try simp only [Act.put, List.setIfInBounds_toArray, List.set_cons_zero, List.set_cons_succ])
      refine wpAnyM_take (i := 15) (oi := { dst := some 45, op := Go.Op.fieldAddr 24 (Go.Operand.tmp 7) 1, type := 0, pos := "more.go:20", after := #[], guard := none }) (v := ?v14) [29] rfl (by kernel_rfl) (by kernel_rfl) (by kernel_rfl) (fun _ _ _ h => h) (by kernel_rfl) (Or.inl ⟨by rfl, ?hy14⟩) (by assumption) ?rs14
      case hy14 =>
        intro w hSw
        (try dsimp only at hSw)
        go_simp
        try with_reducible rfl
      (try simp only [Act.put, List.setIfInBounds_toArray, List.set_cons_zero, List.set_cons_succ])
      refine wpAnyM_take (i := 16) (oi := { dst := some 46, op := Go.Op.load 22 (Go.Operand.tmp 45), type := 22, pos := "more.go:20", after := #[{ on := 15, ground := Go.Ground.data }], guard := none }) (v := ?v15) [29] rfl (by kernel_rfl) (by kernel_rfl) (by kernel_rfl) (fun _ _ _ h => h) (by kernel_rfl) (Or.inl ⟨by rfl, ?hy15⟩) (by assumption) ?rs15
      case hy15 =>
        intro w hSw
        (try dsimp only at hSw)
        go_simp
        try with_reducible rfl
      (try simp only [Act.put, List.setIfInBounds_toArray, List.set_cons_zero, List.set_cons_succ])
      refine wpAnyM_take (i := 17) (oi := { dst := some 47, op := Go.Op.fieldAddr 75 (Go.Operand.tmp 2) 0, type := 0, pos := "more.go:20", after := #[], guard := none }) (v := ?v16) [29] rfl (by kernel_rfl) (by kernel_rfl) (by kernel_rfl) (fun _ _ _ h => h) (by kernel_rfl) (Or.inl ⟨by rfl, ?hy16⟩) (by assumption) ?rs16
      case hy16 =>
        intro w hSw
        (try dsimp only at hSw)
        go_simp
        try with_reducible rfl
      (try simp only [Act.put, List.setIfInBounds_toArray, List.set_cons_zero, List.set_cons_succ])
      refine wpAnyM_take (i := 18) (oi := { dst := some 48, op := Go.Op.load 72 (Go.Operand.tmp 47), type := 72, pos := "more.go:20", after := #[{ on := 17, ground := Go.Ground.data }], guard := none }) (v := ?v17) [29] rfl (by kernel_rfl) (by kernel_rfl) (by kernel_rfl) (fun _ _ _ h => h) (by kernel_rfl) (Or.inl ⟨by rfl, ?hy17⟩) (by assumption) ?rs17
      case hy17 =>
        intro w hSw
        (try dsimp only at hSw)
        go_simp
        try with_reducible rfl
      (try simp only [Act.put, List.setIfInBounds_toArray, List.set_cons_zero, List.set_cons_succ])
      refine wpAnyM_take (i := 19) (oi := { dst := some 49, op := Go.Op.move (Go.Operand.tmp 8), type := 3, pos := "more.go:20", after := #[], guard := none }) (v := ?v18) [29] rfl (by kernel_rfl) (by kernel_rfl) (by kernel_rfl) (fun _ _ _ h => h) (by kernel_rfl) (Or.inl ⟨by rfl, ?hy18⟩) (by assumption) ?rs18
      case hy18 =>
        intro w hSw
        (try dsimp only at hSw)
        go_simp
        try with_reducible rfl
      (try simp only [Act.put, List.setIfInBounds_toArray, List.set_cons_zero, List.set_cons_succ])
      refine wpAnyM_take (i := 20) (oi := { dst := some 50, op := Go.Op.indexAddr 72 (Go.Operand.tmp 48) (Go.Operand.tmp 49), type := 0, pos := "more.go:20", after := #[{ on := 18, ground := Go.Ground.data }, { on := 19, ground := Go.Ground.data }], guard := none }) (v := ?v19) [29] rfl (by kernel_rfl) (by kernel_rfl) (by kernel_rfl) (fun _ _ _ h => h) (by kernel_rfl) (Or.inl ⟨by rfl, ?hy19⟩) (by assumption) ?rs19
      case hy19 =>
        intro w hSw
        (try dsimp only at hSw)
        go_simp
        try with_reducible rfl
      (try simp only [Act.put, List.setIfInBounds_toArray, List.set_cons_zero, List.set_cons_succ])
      refine wpAnyM_take (i := 21) (oi := { dst := some 51, op := Go.Op.indexAddr 82 (Go.Operand.tmp 50) (Go.Operand.const (Go.Value.int Go.IntKind.i64 1)), type := 0, pos := "more.go:20", after := #[{ on := 20, ground := Go.Ground.data }], guard := none }) (v := ?v20) [29] rfl (by kernel_rfl) (by kernel_rfl) (by kernel_rfl) (fun _ _ _ h => h) (by kernel_rfl) (Or.inl ⟨by rfl, ?hy20⟩) (by assumption) ?rs20
      case hy20 =>
        intro w hSw
        (try dsimp only at hSw)
        go_simp
        try with_reducible rfl
      (try simp only [Act.put, List.setIfInBounds_toArray, List.set_cons_zero, List.set_cons_succ])
      refine wpAnyM_take (i := 22) (oi := { dst := some 52, op := Go.Op.load 5 (Go.Operand.tmp 51), type := 5, pos := "more.go:20", after := #[{ on := 21, ground := Go.Ground.data }], guard := none }) (v := ?v21) [29] rfl (by kernel_rfl) (by kernel_rfl) (by kernel_rfl) (fun _ _ _ h => h) (by kernel_rfl) (Or.inl ⟨by rfl, ?hy21⟩) (by assumption) ?rs21
      case hy21 =>
        intro w hSw
        (try dsimp only at hSw)
        go_simp
        try with_reducible rfl
      (try simp only [Act.put, List.setIfInBounds_toArray, List.set_cons_zero, List.set_cons_succ])
      refine wpAnyM_take (i := 23) (oi := { dst := some 53, op := Go.Op.convert 5 3 (Go.Operand.tmp 52), type := 3, pos := "more.go:20", after := #[{ on := 22, ground := Go.Ground.data }], guard := none }) (v := ?v22) [29] rfl (by kernel_rfl) (by kernel_rfl) (by kernel_rfl) (fun _ _ _ h => h) (by kernel_rfl) (Or.inl ⟨by rfl, ?hy22⟩) (by assumption) ?rs22
      case hy22 =>
        intro w hSw
        (try dsimp only at hSw)
        go_simp
        try with_reducible rfl
      (try simp only [Act.put, List.setIfInBounds_toArray, List.set_cons_zero, List.set_cons_succ])
      refine wpAnyM_take (i := 24) (oi := { dst := some 54, op := Go.Op.binOp Go.BinOp.rem 3 (Go.Operand.tmp 53) (Go.Operand.const (Go.Value.int Go.IntKind.i64 20)) 3, type := 3, pos := "more.go:20", after := #[{ on := 23, ground := Go.Ground.data }], guard := none }) (v := ?v23) [29] rfl (by kernel_rfl) (by kernel_rfl) (by kernel_rfl) (fun _ _ _ h => h) (by kernel_rfl) (Or.inl ⟨by rfl, ?hy23⟩) (by assumption) ?rs23
      case hy23 =>
        intro w hSw
        (try dsimp only at hSw)
        go_simp
        try with_reducible rfl
      (try simp only [Act.put, List.setIfInBounds_toArray, List.set_cons_zero, List.set_cons_succ])
      refine wpAnyM_take (i := 25) (oi := { dst := some 55, op := Go.Op.binOp Go.BinOp.add 3 (Go.Operand.tmp 54) (Go.Operand.const (Go.Value.int Go.IntKind.i64 1)) 3, type := 3, pos := "more.go:20", after := #[{ on := 24, ground := Go.Ground.data }], guard := none }) (v := ?v24) [29] rfl (by kernel_rfl) (by kernel_rfl) (by kernel_rfl) (fun _ _ _ h => h) (by kernel_rfl) (Or.inl ⟨by rfl, ?hy24⟩) (by assumption) ?rs24
      case hy24 =>
        intro w hSw
        (try dsimp only at hSw)
        go_simp
        try with_reducible rfl
      (try simp only [Act.put, List.setIfInBounds_toArray, List.set_cons_zero, List.set_cons_succ])
      refine wpAnyM_ready (rs := [13, 26]) (by kernel_rfl) (by simp) ?_
      refine AllReadyM.cons (o := { dst := some 43, op := Go.Op.buildSlice 22 1 #[(0, Go.Operand.tmp 42)], type := 22, pos := "more.go:20", after := #[{ on := 12, ground := Go.Ground.data }], guard := none }) rfl (fun K13 hK13 => ?_) (AllReadyM.cons (o := { dst := some 56, op := Go.Op.buildSlice 22 1 #[(0, Go.Operand.tmp 55)], type := 22, pos := "more.go:20", after := #[{ on := 25, ground := Go.Ground.data }], guard := none }) rfl (fun K26 hK26 => ?_) AllReadyM.nil)
      · skip
        go_simp
        skip
        (try go_wp2_with fail)
        have hne13 : (Value.slice oa n oc).ownBlock ≠ some wr.heap.size := fun e => Nat.lt_irrefl _ (hRR.1.lt _ e).2
        obtain ⟨a13, ha13⟩ : ∃ a, a = (World.drew (World.alloc wr (.cells #[(.int .i64 (x1 : Int))] 3))) := ⟨_, rfl⟩
        have hk13 : Kept wr a13 := by rw [ha13]; exact ((Kept.refl _).alloc _).drew
        have hRR : RR (World.drew (World.alloc wr (.cells #[(.int .i64 (x1 : Int))] 3))) (n0 + 1 + 1) (.slice oa n oc) (.slice la n lc) n n (mO p0) (mL p1) := hRR.alloc (.cells #[(.int .i64 (x1 : Int))] 3)
        have hW := hW.trans hk13
        have hr7 := hk13.row hr7
        rw [← ha13] at hRR
        have hn13 : ∀ (j : Nat) u, [(.int .i64 (x1 : Int))][j]? = some u → (World.drew (World.alloc wr (.cells #[(.int .i64 (x1 : Int))] 3))).cell? ((⟨wr.heap.size, 0, none⟩ : Addr).add j) = some u := cell_one_new wr (.int .i64 (x1 : Int)) 3
        rw [← ha13] at hn13 ⊢
        clear ha13
        have s0 : a13.cell? ⟨n0 + 1 + 1 + 1 + 1, 0, none⟩ = some (.slice oa n oc) := hr7.cell (i := 0) (by omega)
        have s1 : a13.cell? ⟨n0 + 1 + 1 + 1 + 1, 1, none⟩ = some (.slice la n lc) := hr7.cell (i := 1) (by omega)
        have s2 := hW.cellSome m0
        have s3 := hW.cellSome g1
        have s4 := hW.cellSome g2
        refine hK13.out _ _ ?_ (fun hHeld => ?_)
        · (try dsimp only)
          exact ⟨s0, s1, s2, s3, s4⟩
        (try simp only [Act.put, List.setIfInBounds_toArray, List.set_cons_zero, List.set_cons_succ])
        refine wpAnyM_ready (rs := [14, 26]) (by kernel_rfl) (by simp) ?_
        refine AllReadyM.cons (o := { dst := some 44, op := Go.Op.call { callee := Go.Callee.builtin Go.Builtin.append, args := #[Go.Operand.tmp 31, Go.Operand.tmp 43], argTypes := #[22, 22] }, type := 22, pos := "more.go:20", after := #[{ on := 1, ground := Go.Ground.data }, { on := 13, ground := Go.Ground.data }], guard := none }) rfl (fun K14 hK14 => ?_) (AllReadyM.cons (o := { dst := some 56, op := Go.Op.buildSlice 22 1 #[(0, Go.Operand.tmp 55)], type := 22, pos := "more.go:20", after := #[{ on := 25, ground := Go.Ground.data }], guard := none }) rfl (fun K26 hK26 => ?_) AllReadyM.nil)
        · skip
          rw [if_pos (by rfl)]
          refine wp_append_where _ _ _ 22 rfl (n0 + 1 + 1) 3 i1 (.int .i64 0) 1 8 Try.underlying22 hi0 hz0 hz1 hz2 rfl (by decide) _ _ _ (by rfl) hRR.1 ⟨wr.heap.size, 0, none⟩ 1 1 [(.int .i64 (x1 : Int))] (by rfl) rfl hn13 (by simp [Value.oneCell']) (by decide) (by unfold maxLen; omega) (by omega) (by have := hW.size; omega) ?_
          intro ov14 a14 hO14 hgr14 hwh14
          rw [HXo.out] at hO14
          have hr7 := row_grownN hr7 hgr14 (own_not_row hRR.1 hr7 (by decide))
          have hW := hW.grown hgr14 (fun k hk => by have := (hRR.1.lt k hk).1; omega)
          have hRR := hRR.grow hO14 hgr14 hwh14
          obtain ⟨v14, c14, rfl⟩ := own_shape hRR.1
          have s0 : a14.cell? ⟨n0 + 1 + 1 + 1 + 1, 0, none⟩ = some (.slice oa n oc) := hr7.cell (i := 0) (by omega)
          have s1 : a14.cell? ⟨n0 + 1 + 1 + 1 + 1, 1, none⟩ = some (.slice la n lc) := hr7.cell (i := 1) (by omega)
          have s2 := hW.cellSome m0
          have s3 := hW.cellSome g1
          have s4 := hW.cellSome g2
          refine hK14.out _ _ ?_ (fun hHeld => ?_)
          · (try dsimp only)
            exact ⟨s0, s1, s2, s3, s4⟩
          (try simp only [Act.put, List.setIfInBounds_toArray, List.set_cons_zero, List.set_cons_succ])
          refine wpAnyM_ready (rs := [26]) (by kernel_rfl) (by simp) ?_
          refine AllReadyM.cons (o := { dst := some 56, op := Go.Op.buildSlice 22 1 #[(0, Go.Operand.tmp 55)], type := 22, pos := "more.go:20", after := #[{ on := 25, ground := Go.Ground.data }], guard := none }) rfl (fun K26 hK26 => ?_) AllReadyM.nil
          go_simp
          skip
          (try go_wp2_with fail)
          obtain ⟨a26, ha26⟩ : ∃ a, a = (World.alloc a14 (.cells #[(.int .i64 ((x2 : Int) + 1))] 3)) := ⟨_, rfl⟩
          have hk26 : Kept a14 a26 := by rw [ha26]; exact (Kept.refl _).alloc _
          have hRR : RR (World.alloc a14 (.cells #[(.int .i64 ((x2 : Int) + 1))] 3)) (n0 + 1 + 1) (.slice v14 (n + 1) c14) (.slice la n lc) (n + 1) n (mO p0) (mL p1) := hRR.alloc (.cells #[(.int .i64 ((x2 : Int) + 1))] 3)
          have hW := hW.trans hk26
          have hr7 := hk26.row hr7
          rw [← ha26] at hRR
          have hn26 : ∀ (j : Nat) u, [(.int .i64 ((x2 : Int) + 1))][j]? = some u → (World.alloc a14 (.cells #[(.int .i64 ((x2 : Int) + 1))] 3)).cell? ((⟨a14.heap.size, 0, none⟩ : Addr).add j) = some u := cell_one_new a14 (.int .i64 ((x2 : Int) + 1)) 3
          rw [← ha26] at hn26 ⊢
          clear ha26
          have s0 : a26.cell? ⟨n0 + 1 + 1 + 1 + 1, 0, none⟩ = some (.slice oa n oc) := hr7.cell (i := 0) (by omega)
          have s1 : a26.cell? ⟨n0 + 1 + 1 + 1 + 1, 1, none⟩ = some (.slice la n lc) := hr7.cell (i := 1) (by omega)
          have s2 := hW.cellSome m0
          have s3 := hW.cellSome g1
          have s4 := hW.cellSome g2
          refine hK26.out _ _ ?_ (fun hHeld => ?_)
          · (try dsimp only)
            exact ⟨s0, s1, s2, s3, s4⟩
          (try simp only [Act.put, List.setIfInBounds_toArray, List.set_cons_zero, List.set_cons_succ])
          refine wpAnyM_ready (rs := [27]) (by kernel_rfl) (by simp) ?_
          refine AllReadyM.cons (o := { dst := some 57, op := Go.Op.call { callee := Go.Callee.builtin Go.Builtin.append, args := #[Go.Operand.tmp 46, Go.Operand.tmp 56], argTypes := #[22, 22] }, type := 22, pos := "more.go:20", after := #[{ on := 16, ground := Go.Ground.data }, { on := 26, ground := Go.Ground.data }, { on := 14, ground := Go.Ground.chain }], guard := none }) rfl (fun K27 hK27 => ?_) AllReadyM.nil
          rw [if_pos (by rfl)]
          refine wp_append_where _ _ _ 22 rfl (n0 + 1 + 1) 3 i1 (.int .i64 0) 1 8 Try.underlying22 hi0 hz0 hz1 hz2 rfl (by decide) _ _ _ (by rfl) hRR.2.1 ⟨a14.heap.size, 0, none⟩ 1 1 [(.int .i64 ((x2 : Int) + 1))] (by rfl) rfl hn26 (by simp [Value.oneCell']) (by decide) (by unfold maxLen; omega) (by omega) (by have := hW.size; omega) ?_
          intro ov27 a27 hO27 hgr27 hwh27
          rw [HXl.out] at hO27
          have hr7 := row_grownN hr7 hgr27 (own_not_row hRR.2.1 hr7 (by decide))
          have hW := hW.grown hgr27 (fun k hk => by have := (hRR.2.1.lt k hk).1; omega)
          have hRR := (hRR.swap.grow hO27 hgr27 hwh27).swap
          obtain ⟨v27, c27, rfl⟩ := own_shape hRR.2.1
          have s0 : a27.cell? ⟨n0 + 1 + 1 + 1 + 1, 0, none⟩ = some (.slice oa n oc) := hr7.cell (i := 0) (by omega)
          have s1 : a27.cell? ⟨n0 + 1 + 1 + 1 + 1, 1, none⟩ = some (.slice la n lc) := hr7.cell (i := 1) (by omega)
          have s2 := hW.cellSome m0
          have s3 := hW.cellSome g1
          have s4 := hW.cellSome g2
          refine hK27.out _ _ ?_ (fun hHeld => ?_)
          · (try dsimp only)
            exact ⟨s0, s1, s2, s3, s4⟩
          (try simp only [Act.put, List.setIfInBounds_toArray, List.set_cons_zero, List.set_cons_succ])
          refine wpAnyM_take (i := 28) (oi := { dst := some 58, op := Go.Op.build 24 #[(0, Go.Operand.tmp 44), (1, Go.Operand.tmp 57)], type := 24, pos := "more.go:20", after := #[{ on := 14, ground := Go.Ground.data }, { on := 27, ground := Go.Ground.data }], guard := none }) (v := ?v25) [29] rfl (by kernel_rfl) (by kernel_rfl) (by kernel_rfl) (fun _ _ _ h => h) (by kernel_rfl) (Or.inl ⟨by rfl, ?hy25⟩) (by assumption) ?rs25
          case hy25 =>
            intro w hSw
            (try dsimp only at hSw)
            go_simp
            try with_reducible rfl
          (try simp only [Act.put, List.setIfInBounds_toArray, List.set_cons_zero, List.set_cons_succ])
          refine wpAnyM_ready (rs := [29]) (by kernel_rfl) (by simp) ?_
          refine AllReadyM.atLast (o := { dst := none, op := Go.Op.store 24 (Go.Operand.tmp 7) (Go.Operand.tmp 58), type := 0, pos := "more.go:20", after := #[{ on := 28, ground := Go.Ground.data }, { on := 27, ground := Go.Ground.chain }, { on := 0, ground := Go.Ground.phase }, { on := 1, ground := Go.Ground.phase }, { on := 2, ground := Go.Ground.phase }, { on := 3, ground := Go.Ground.phase }, { on := 4, ground := Go.Ground.phase }, { on := 5, ground := Go.Ground.phase }, { on := 6, ground := Go.Ground.phase }, { on := 7, ground := Go.Ground.phase }, { on := 8, ground := Go.Ground.phase }, { on := 9, ground := Go.Ground.phase }, { on := 10, ground := Go.Ground.phase }, { on := 11, ground := Go.Ground.phase }, { on := 12, ground := Go.Ground.phase }, { on := 13, ground := Go.Ground.phase }, { on := 14, ground := Go.Ground.phase }, { on := 15, ground := Go.Ground.phase }, { on := 16, ground := Go.Ground.phase }, { on := 17, ground := Go.Ground.phase }, { on := 18, ground := Go.Ground.phase }, { on := 19, ground := Go.Ground.phase }, { on := 20, ground := Go.Ground.phase }, { on := 21, ground := Go.Ground.phase }, { on := 22, ground := Go.Ground.phase }, { on := 23, ground := Go.Ground.phase }, { on := 24, ground := Go.Ground.phase }, { on := 25, ground := Go.Ground.phase }, { on := 26, ground := Go.Ground.phase }, { on := 27, ground := Go.Ground.phase }, { on := 28, ground := Go.Ground.phase }], guard := none }) rfl (fun K29 hK29 => ?_) AllReadyM.nil
          obtain ⟨f0, f1, t0, t1, _, _, hKF⟩ := fin2a hr7 (Kept.refl a27) hW (by omega) (.slice v14 (n + 1) c14) (.slice v27 (n + 1) c27)
          have hr7f := box2_set hr7 (.slice v14 (n + 1) c14) (.slice v27 (n + 1) c27)
          have hRRf := (hRR.set hr7 (by decide) 0 (.slice v14 (n + 1) c14)).set (hr7.set 0 (.slice v14 (n + 1) c14)) (by decide) 1 (.slice v27 (n + 1) c27)
          go_simp
          skip
          (try go_wp2_with fail)
          refine hK29.out _ _ ?_
          (try simp only [Act.put, List.setIfInBounds_toArray, List.set_cons_zero, List.set_cons_succ])
          refine wpAnyM_done (by kernel_rfl) ?_ _
          go_wp2_with fail
          obtain rfl := HN.out
          go_roundg (min nP 9 - (i + 1))
          case measure => omega
          case rel => exact ⟨i + 1, _, _, _, _, by omega, rfl, by go_num, hr7f, hRRf, hKF⟩
        · skip
          go_simp
          skip
          (try go_wp2_with fail)
          have hne26 : (Value.slice oa n oc).ownBlock ≠ some a13.heap.size := fun e => Nat.lt_irrefl _ (hRR.1.lt _ e).2
          obtain ⟨a26, ha26⟩ : ∃ a, a = (World.alloc a13 (.cells #[(.int .i64 ((x2 : Int) + 1))] 3)) := ⟨_, rfl⟩
          have hk26 : Kept a13 a26 := by rw [ha26]; exact (Kept.refl _).alloc _
          have hRR : RR (World.alloc a13 (.cells #[(.int .i64 ((x2 : Int) + 1))] 3)) (n0 + 1 + 1) (.slice oa n oc) (.slice la n lc) n n (mO p0) (mL p1) := hRR.alloc (.cells #[(.int .i64 ((x2 : Int) + 1))] 3)
          have hW := hW.trans hk26
          have hr7 := hk26.row hr7
          rw [← ha26] at hRR
          have hn26 : ∀ (j : Nat) u, [(.int .i64 ((x2 : Int) + 1))][j]? = some u → (World.alloc a13 (.cells #[(.int .i64 ((x2 : Int) + 1))] 3)).cell? ((⟨a13.heap.size, 0, none⟩ : Addr).add j) = some u := cell_one_new a13 (.int .i64 ((x2 : Int) + 1)) 3
          rw [← ha26] at hn26 ⊢
          clear ha26
          have s0 : a26.cell? ⟨n0 + 1 + 1 + 1 + 1, 0, none⟩ = some (.slice oa n oc) := hr7.cell (i := 0) (by omega)
          have s1 : a26.cell? ⟨n0 + 1 + 1 + 1 + 1, 1, none⟩ = some (.slice la n lc) := hr7.cell (i := 1) (by omega)
          have s2 := hW.cellSome m0
          have s3 := hW.cellSome g1
          have s4 := hW.cellSome g2
          have hn13 := fun j u h => hk26.cellSome (hn13 j u h)
          refine hK26.out _ _ ?_ (fun hHeld => ?_)
          · (try dsimp only)
            exact ⟨s0, s1, s2, s3, s4⟩
          (try simp only [Act.put, List.setIfInBounds_toArray, List.set_cons_zero, List.set_cons_succ])
          refine wpAnyM_ready (rs := [14]) (by kernel_rfl) (by simp) ?_
          refine AllReadyM.cons (o := { dst := some 44, op := Go.Op.call { callee := Go.Callee.builtin Go.Builtin.append, args := #[Go.Operand.tmp 31, Go.Operand.tmp 43], argTypes := #[22, 22] }, type := 22, pos := "more.go:20", after := #[{ on := 1, ground := Go.Ground.data }, { on := 13, ground := Go.Ground.data }], guard := none }) rfl (fun K14 hK14 => ?_) AllReadyM.nil
          rw [if_pos (by rfl)]
          refine wp_append_where _ _ _ 22 rfl (n0 + 1 + 1) 3 i1 (.int .i64 0) 1 8 Try.underlying22 hi0 hz0 hz1 hz2 rfl (by decide) _ _ _ (by rfl) hRR.1 ⟨wr.heap.size, 0, none⟩ 1 1 [(.int .i64 (x1 : Int))] (by rfl) rfl hn13 (by simp [Value.oneCell']) (by decide) (by unfold maxLen; omega) (by omega) (by have := hW.size; omega) ?_
          intro ov14 a14 hO14 hgr14 hwh14
          rw [HXo.out] at hO14
          have hn26 := fun j u h => hgr14.cell (hn26 j u h) (fun e => by rw [add_at] at e; exact hne26 e.symm)
          have hr7 := row_grownN hr7 hgr14 (own_not_row hRR.1 hr7 (by decide))
          have hW := hW.grown hgr14 (fun k hk => by have := (hRR.1.lt k hk).1; omega)
          have hRR := hRR.grow hO14 hgr14 hwh14
          obtain ⟨v14, c14, rfl⟩ := own_shape hRR.1
          have s0 : a14.cell? ⟨n0 + 1 + 1 + 1 + 1, 0, none⟩ = some (.slice oa n oc) := hr7.cell (i := 0) (by omega)
          have s1 : a14.cell? ⟨n0 + 1 + 1 + 1 + 1, 1, none⟩ = some (.slice la n lc) := hr7.cell (i := 1) (by omega)
          have s2 := hW.cellSome m0
          have s3 := hW.cellSome g1
          have s4 := hW.cellSome g2
          refine hK14.out _ _ ?_ (fun hHeld => ?_)
          · (try dsimp only)
            exact ⟨s0, s1, s2, s3, s4⟩
          (try simp only [Act.put, List.setIfInBounds_toArray, List.set_cons_zero, List.set_cons_succ])
          refine wpAnyM_ready (rs := [27]) (by kernel_rfl) (by simp) ?_
          refine AllReadyM.cons (o := { dst := some 57, op := Go.Op.call { callee := Go.Callee.builtin Go.Builtin.append, args := #[Go.Operand.tmp 46, Go.Operand.tmp 56], argTypes := #[22, 22] }, type := 22, pos := "more.go:20", after := #[{ on := 16, ground := Go.Ground.data }, { on := 26, ground := Go.Ground.data }, { on := 14, ground := Go.Ground.chain }], guard := none }) rfl (fun K27 hK27 => ?_) AllReadyM.nil
          rw [if_pos (by rfl)]
          refine wp_append_where _ _ _ 22 rfl (n0 + 1 + 1) 3 i1 (.int .i64 0) 1 8 Try.underlying22 hi0 hz0 hz1 hz2 rfl (by decide) _ _ _ (by rfl) hRR.2.1 ⟨a13.heap.size, 0, none⟩ 1 1 [(.int .i64 ((x2 : Int) + 1))] (by rfl) rfl hn26 (by simp [Value.oneCell']) (by decide) (by unfold maxLen; omega) (by omega) (by have := hW.size; omega) ?_
          intro ov27 a27 hO27 hgr27 hwh27
          rw [HXl.out] at hO27
          have hr7 := row_grownN hr7 hgr27 (own_not_row hRR.2.1 hr7 (by decide))
          have hW := hW.grown hgr27 (fun k hk => by have := (hRR.2.1.lt k hk).1; omega)
          have hRR := (hRR.swap.grow hO27 hgr27 hwh27).swap
          obtain ⟨v27, c27, rfl⟩ := own_shape hRR.2.1
          have s0 : a27.cell? ⟨n0 + 1 + 1 + 1 + 1, 0, none⟩ = some (.slice oa n oc) := hr7.cell (i := 0) (by omega)
          have s1 : a27.cell? ⟨n0 + 1 + 1 + 1 + 1, 1, none⟩ = some (.slice la n lc) := hr7.cell (i := 1) (by omega)
          have s2 := hW.cellSome m0
          have s3 := hW.cellSome g1
          have s4 := hW.cellSome g2
          refine hK27.out _ _ ?_ (fun hHeld => ?_)
          · (try dsimp only)
            exact ⟨s0, s1, s2, s3, s4⟩
          (try simp only [Act.put, List.setIfInBounds_toArray, List.set_cons_zero, List.set_cons_succ])
          refine wpAnyM_take (i := 28) (oi := { dst := some 58, op := Go.Op.build 24 #[(0, Go.Operand.tmp 44), (1, Go.Operand.tmp 57)], type := 24, pos := "more.go:20", after := #[{ on := 14, ground := Go.Ground.data }, { on := 27, ground := Go.Ground.data }], guard := none }) (v := ?v26) [29] rfl (by kernel_rfl) (by kernel_rfl) (by kernel_rfl) (fun _ _ _ h => h) (by kernel_rfl) (Or.inl ⟨by rfl, ?hy26⟩) (by assumption) ?rs26
          case hy26 =>
            intro w hSw
            (try dsimp only at hSw)
            go_simp
            try with_reducible rfl
          (try simp only [Act.put, List.setIfInBounds_toArray, List.set_cons_zero, List.set_cons_succ])
          refine wpAnyM_ready (rs := [29]) (by kernel_rfl) (by simp) ?_
          refine AllReadyM.atLast (o := { dst := none, op := Go.Op.store 24 (Go.Operand.tmp 7) (Go.Operand.tmp 58), type := 0, pos := "more.go:20", after := #[{ on := 28, ground := Go.Ground.data }, { on := 27, ground := Go.Ground.chain }, { on := 0, ground := Go.Ground.phase }, { on := 1, ground := Go.Ground.phase }, { on := 2, ground := Go.Ground.phase }, { on := 3, ground := Go.Ground.phase }, { on := 4, ground := Go.Ground.phase }, { on := 5, ground := Go.Ground.phase }, { on := 6, ground := Go.Ground.phase }, { on := 7, ground := Go.Ground.phase }, { on := 8, ground := Go.Ground.phase }, { on := 9, ground := Go.Ground.phase }, { on := 10, ground := Go.Ground.phase }, { on := 11, ground := Go.Ground.phase }, { on := 12, ground := Go.Ground.phase }, { on := 13, ground := Go.Ground.phase }, { on := 14, ground := Go.Ground.phase }, { on := 15, ground := Go.Ground.phase }, { on := 16, ground := Go.Ground.phase }, { on := 17, ground := Go.Ground.phase }, { on := 18, ground := Go.Ground.phase }, { on := 19, ground := Go.Ground.phase }, { on := 20, ground := Go.Ground.phase }, { on := 21, ground := Go.Ground.phase }, { on := 22, ground := Go.Ground.phase }, { on := 23, ground := Go.Ground.phase }, { on := 24, ground := Go.Ground.phase }, { on := 25, ground := Go.Ground.phase }, { on := 26, ground := Go.Ground.phase }, { on := 27, ground := Go.Ground.phase }, { on := 28, ground := Go.Ground.phase }], guard := none }) rfl (fun K29 hK29 => ?_) AllReadyM.nil
          obtain ⟨f0, f1, t0, t1, _, _, hKF⟩ := fin2a hr7 (Kept.refl a27) hW (by omega) (.slice v14 (n + 1) c14) (.slice v27 (n + 1) c27)
          have hr7f := box2_set hr7 (.slice v14 (n + 1) c14) (.slice v27 (n + 1) c27)
          have hRRf := (hRR.set hr7 (by decide) 0 (.slice v14 (n + 1) c14)).set (hr7.set 0 (.slice v14 (n + 1) c14)) (by decide) 1 (.slice v27 (n + 1) c27)
          go_simp
          skip
          (try go_wp2_with fail)
          refine hK29.out _ _ ?_
          (try simp only [Act.put, List.setIfInBounds_toArray, List.set_cons_zero, List.set_cons_succ])
          refine wpAnyM_done (by kernel_rfl) ?_ _
          go_wp2_with fail
          obtain rfl := HN.out
          go_roundg (min nP 9 - (i + 1))
          case measure => omega
          case rel => exact ⟨i + 1, _, _, _, _, by omega, rfl, by go_num, hr7f, hRRf, hKF⟩
      · skip
        go_simp
        skip
        (try go_wp2_with fail)
        have hne26 : (Value.slice oa n oc).ownBlock ≠ some wr.heap.size := fun e => Nat.lt_irrefl _ (hRR.1.lt _ e).2
        obtain ⟨a26, ha26⟩ : ∃ a, a = (World.drew (World.alloc wr (.cells #[(.int .i64 ((x2 : Int) + 1))] 3))) := ⟨_, rfl⟩
        have hk26 : Kept wr a26 := by rw [ha26]; exact ((Kept.refl _).alloc _).drew
        have hRR : RR (World.drew (World.alloc wr (.cells #[(.int .i64 ((x2 : Int) + 1))] 3))) (n0 + 1 + 1) (.slice oa n oc) (.slice la n lc) n n (mO p0) (mL p1) := hRR.alloc (.cells #[(.int .i64 ((x2 : Int) + 1))] 3)
        have hW := hW.trans hk26
        have hr7 := hk26.row hr7
        rw [← ha26] at hRR
        have hn26 : ∀ (j : Nat) u, [(.int .i64 ((x2 : Int) + 1))][j]? = some u → (World.drew (World.alloc wr (.cells #[(.int .i64 ((x2 : Int) + 1))] 3))).cell? ((⟨wr.heap.size, 0, none⟩ : Addr).add j) = some u := cell_one_new wr (.int .i64 ((x2 : Int) + 1)) 3
        rw [← ha26] at hn26 ⊢
        clear ha26
        have s0 : a26.cell? ⟨n0 + 1 + 1 + 1 + 1, 0, none⟩ = some (.slice oa n oc) := hr7.cell (i := 0) (by omega)
        have s1 : a26.cell? ⟨n0 + 1 + 1 + 1 + 1, 1, none⟩ = some (.slice la n lc) := hr7.cell (i := 1) (by omega)
        have s2 := hW.cellSome m0
        have s3 := hW.cellSome g1
        have s4 := hW.cellSome g2
        refine hK26.out _ _ ?_ (fun hHeld => ?_)
        · (try dsimp only)
          exact ⟨s0, s1, s2, s3, s4⟩
        (try simp only [Act.put, List.setIfInBounds_toArray, List.set_cons_zero, List.set_cons_succ])
        refine wpAnyM_ready (rs := [13]) (by kernel_rfl) (by simp) ?_
        refine AllReadyM.cons (o := { dst := some 43, op := Go.Op.buildSlice 22 1 #[(0, Go.Operand.tmp 42)], type := 22, pos := "more.go:20", after := #[{ on := 12, ground := Go.Ground.data }], guard := none }) rfl (fun K13 hK13 => ?_) AllReadyM.nil
        go_simp
        skip
        (try go_wp2_with fail)
        have hne13 : (Value.slice oa n oc).ownBlock ≠ some a26.heap.size := fun e => Nat.lt_irrefl _ (hRR.1.lt _ e).2
        obtain ⟨a13, ha13⟩ : ∃ a, a = (World.alloc a26 (.cells #[(.int .i64 (x1 : Int))] 3)) := ⟨_, rfl⟩
        have hk13 : Kept a26 a13 := by rw [ha13]; exact (Kept.refl _).alloc _
        have hRR : RR (World.alloc a26 (.cells #[(.int .i64 (x1 : Int))] 3)) (n0 + 1 + 1) (.slice oa n oc) (.slice la n lc) n n (mO p0) (mL p1) := hRR.alloc (.cells #[(.int .i64 (x1 : Int))] 3)
        have hW := hW.trans hk13
        have hr7 := hk13.row hr7
        rw [← ha13] at hRR
        have hn13 : ∀ (j : Nat) u, [(.int .i64 (x1 : Int))][j]? = some u → (World.alloc a26 (.cells #[(.int .i64 (x1 : Int))] 3)).cell? ((⟨a26.heap.size, 0, none⟩ : Addr).add j) = some u := cell_one_new a26 (.int .i64 (x1 : Int)) 3
        rw [← ha13] at hn13 ⊢
        clear ha13
        have s0 : a13.cell? ⟨n0 + 1 + 1 + 1 + 1, 0, none⟩ = some (.slice oa n oc) := hr7.cell (i := 0) (by omega)
        have s1 : a13.cell? ⟨n0 + 1 + 1 + 1 + 1, 1, none⟩ = some (.slice la n lc) := hr7.cell (i := 1) (by omega)
        have s2 := hW.cellSome m0
        have s3 := hW.cellSome g1
        have s4 := hW.cellSome g2
        have hn26 := fun j u h => hk13.cellSome (hn26 j u h)
        refine hK13.out _ _ ?_ (fun hHeld => ?_)
        · (try dsimp only)
          exact ⟨s0, s1, s2, s3, s4⟩
        (try simp only [Act.put, List.setIfInBounds_toArray, List.set_cons_zero, List.set_cons_succ])
        refine wpAnyM_ready (rs := [14]) (by kernel_rfl) (by simp) ?_
        refine AllReadyM.cons (o := { dst := some 44, op := Go.Op.call { callee := Go.Callee.builtin Go.Builtin.append, args := #[Go.Operand.tmp 31, Go.Operand.tmp 43], argTypes := #[22, 22] }, type := 22, pos := "more.go:20", after := #[{ on := 1, ground := Go.Ground.data }, { on := 13, ground := Go.Ground.data }], guard := none }) rfl (fun K14 hK14 => ?_) AllReadyM.nil
        rw [if_pos (by rfl)]
        refine wp_append_where _ _ _ 22 rfl (n0 + 1 + 1) 3 i1 (.int .i64 0) 1 8 Try.underlying22 hi0 hz0 hz1 hz2 rfl (by decide) _ _ _ (by rfl) hRR.1 ⟨a26.heap.size, 0, none⟩ 1 1 [(.int .i64 (x1 : Int))] (by rfl) rfl hn13 (by simp [Value.oneCell']) (by decide) (by unfold maxLen; omega) (by omega) (by have := hW.size; omega) ?_
        intro ov14 a14 hO14 hgr14 hwh14
        rw [HXo.out] at hO14
        have hn26 := fun j u h => hgr14.cell (hn26 j u h) (fun e => by rw [add_at] at e; exact hne26 e.symm)
        have hr7 := row_grownN hr7 hgr14 (own_not_row hRR.1 hr7 (by decide))
        have hW := hW.grown hgr14 (fun k hk => by have := (hRR.1.lt k hk).1; omega)
        have hRR := hRR.grow hO14 hgr14 hwh14
        obtain ⟨v14, c14, rfl⟩ := own_shape hRR.1
        have s0 : a14.cell? ⟨n0 + 1 + 1 + 1 + 1, 0, none⟩ = some (.slice oa n oc) := hr7.cell (i := 0) (by omega)
        have s1 : a14.cell? ⟨n0 + 1 + 1 + 1 + 1, 1, none⟩ = some (.slice la n lc) := hr7.cell (i := 1) (by omega)
        have s2 := hW.cellSome m0
        have s3 := hW.cellSome g1
        have s4 := hW.cellSome g2
        refine hK14.out _ _ ?_ (fun hHeld => ?_)
        · (try dsimp only)
          exact ⟨s0, s1, s2, s3, s4⟩
        (try simp only [Act.put, List.setIfInBounds_toArray, List.set_cons_zero, List.set_cons_succ])
        refine wpAnyM_ready (rs := [27]) (by kernel_rfl) (by simp) ?_
        refine AllReadyM.cons (o := { dst := some 57, op := Go.Op.call { callee := Go.Callee.builtin Go.Builtin.append, args := #[Go.Operand.tmp 46, Go.Operand.tmp 56], argTypes := #[22, 22] }, type := 22, pos := "more.go:20", after := #[{ on := 16, ground := Go.Ground.data }, { on := 26, ground := Go.Ground.data }, { on := 14, ground := Go.Ground.chain }], guard := none }) rfl (fun K27 hK27 => ?_) AllReadyM.nil
        rw [if_pos (by rfl)]
        refine wp_append_where _ _ _ 22 rfl (n0 + 1 + 1) 3 i1 (.int .i64 0) 1 8 Try.underlying22 hi0 hz0 hz1 hz2 rfl (by decide) _ _ _ (by rfl) hRR.2.1 ⟨wr.heap.size, 0, none⟩ 1 1 [(.int .i64 ((x2 : Int) + 1))] (by rfl) rfl hn26 (by simp [Value.oneCell']) (by decide) (by unfold maxLen; omega) (by omega) (by have := hW.size; omega) ?_
        intro ov27 a27 hO27 hgr27 hwh27
        rw [HXl.out] at hO27
        have hr7 := row_grownN hr7 hgr27 (own_not_row hRR.2.1 hr7 (by decide))
        have hW := hW.grown hgr27 (fun k hk => by have := (hRR.2.1.lt k hk).1; omega)
        have hRR := (hRR.swap.grow hO27 hgr27 hwh27).swap
        obtain ⟨v27, c27, rfl⟩ := own_shape hRR.2.1
        have s0 : a27.cell? ⟨n0 + 1 + 1 + 1 + 1, 0, none⟩ = some (.slice oa n oc) := hr7.cell (i := 0) (by omega)
        have s1 : a27.cell? ⟨n0 + 1 + 1 + 1 + 1, 1, none⟩ = some (.slice la n lc) := hr7.cell (i := 1) (by omega)
        have s2 := hW.cellSome m0
        have s3 := hW.cellSome g1
        have s4 := hW.cellSome g2
        refine hK27.out _ _ ?_ (fun hHeld => ?_)
        · (try dsimp only)
          exact ⟨s0, s1, s2, s3, s4⟩
        (try simp only [Act.put, List.setIfInBounds_toArray, List.set_cons_zero, List.set_cons_succ])
        refine wpAnyM_take (i := 28) (oi := { dst := some 58, op := Go.Op.build 24 #[(0, Go.Operand.tmp 44), (1, Go.Operand.tmp 57)], type := 24, pos := "more.go:20", after := #[{ on := 14, ground := Go.Ground.data }, { on := 27, ground := Go.Ground.data }], guard := none }) (v := ?v27) [29] rfl (by kernel_rfl) (by kernel_rfl) (by kernel_rfl) (fun _ _ _ h => h) (by kernel_rfl) (Or.inl ⟨by rfl, ?hy27⟩) (by assumption) ?rs27
        case hy27 =>
          intro w hSw
          (try dsimp only at hSw)
          go_simp
          try with_reducible rfl
        (try simp only [Act.put, List.setIfInBounds_toArray, List.set_cons_zero, List.set_cons_succ])
        refine wpAnyM_ready (rs := [29]) (by kernel_rfl) (by simp) ?_
        refine AllReadyM.atLast (o := { dst := none, op := Go.Op.store 24 (Go.Operand.tmp 7) (Go.Operand.tmp 58), type := 0, pos := "more.go:20", after := #[{ on := 28, ground := Go.Ground.data }, { on := 27, ground := Go.Ground.chain }, { on := 0, ground := Go.Ground.phase }, { on := 1, ground := Go.Ground.phase }, { on := 2, ground := Go.Ground.phase }, { on := 3, ground := Go.Ground.phase }, { on := 4, ground := Go.Ground.phase }, { on := 5, ground := Go.Ground.phase }, { on := 6, ground := Go.Ground.phase }, { on := 7, ground := Go.Ground.phase }, { on := 8, ground := Go.Ground.phase }, { on := 9, ground := Go.Ground.phase }, { on := 10, ground := Go.Ground.phase }, { on := 11, ground := Go.Ground.phase }, { on := 12, ground := Go.Ground.phase }, { on := 13, ground := Go.Ground.phase }, { on := 14, ground := Go.Ground.phase }, { on := 15, ground := Go.Ground.phase }, { on := 16, ground := Go.Ground.phase }, { on := 17, ground := Go.Ground.phase }, { on := 18, ground := Go.Ground.phase }, { on := 19, ground := Go.Ground.phase }, { on := 20, ground := Go.Ground.phase }, { on := 21, ground := Go.Ground.phase }, { on := 22, ground := Go.Ground.phase }, { on := 23, ground := Go.Ground.phase }, { on := 24, ground := Go.Ground.phase }, { on := 25, ground := Go.Ground.phase }, { on := 26, ground := Go.Ground.phase }, { on := 27, ground := Go.Ground.phase }, { on := 28, ground := Go.Ground.phase }], guard := none }) rfl (fun K29 hK29 => ?_) AllReadyM.nil
        obtain ⟨f0, f1, t0, t1, _, _, hKF⟩ := fin2a hr7 (Kept.refl a27) hW (by omega) (.slice v14 (n + 1) c14) (.slice v27 (n + 1) c27)
        have hr7f := box2_set hr7 (.slice v14 (n + 1) c14) (.slice v27 (n + 1) c27)
        have hRRf := (hRR.set hr7 (by decide) 0 (.slice v14 (n + 1) c14)).set (hr7.set 0 (.slice v14 (n + 1) c14)) (by decide) 1 (.slice v27 (n + 1) c27)
        go_simp
        skip
        (try go_wp2_with fail)
        refine hK29.out _ _ ?_
        (try simp only [Act.put, List.setIfInBounds_toArray, List.set_cons_zero, List.set_cons_succ])
        refine wpAnyM_done (by kernel_rfl) ?_ _
        go_wp2_with fail
        obtain rfl := HN.out
        go_roundg (min nP 9 - (i + 1))
        case measure => omega
        case rel => exact ⟨i + 1, _, _, _, _, by omega, rfl, by go_num, hr7f, hRRf, hKF⟩
    · rw [decide_eq_false hlt] at e27
      subst e27
      have hnm : Hid (n = mN nP) := by show _ = _; have := HN.out; unfold mN; omega
      obtain ⟨V, rfl⟩ : ∃ V : World, V = wr := ⟨_, rfl⟩
      have hcl := Lib.hid HN.out
      clear s0 s1 s2
      obtain ⟨lb, lcc, hle⟩ := own_some hRR.2.1 hnn.1
      injection hle with e1 e2 e3
      subst e1
      subst e3
      have hcel7 : V.cell? ⟨n0 + 1 + 1 + 1 + 1, 0, none⟩ = some (.slice oa n oc) := hr7.cell (i := 0) (by omega)
      have hcel8 : V.cell? ⟨n0 + 1 + 1 + 1 + 1, 1, none⟩ = some (.slice (some ⟨lb, 0, none⟩) n lc) := hr7.cell (i := 1) (by omega)
      have hmb1 := hW.cellSome m1
      have hmb2 := hW.cellSome m2
      have HH := Lib.hid (fun i hi => (show h0 i < 256 ∧ h1 i < 256 ∧ V.cell? ⟨hb, ho + i * 2, none⟩ = some (.int .u8 ((h0 i : Nat) : Int)) ∧ V.cell? ⟨hb, ho + i * 2 + 1, none⟩ = some (.int .u8 ((h1 i : Nat) : Int)) from ⟨(hcH i hi).1, (hcH i hi).2.1, (hKw.trans hW).cellSome (hcH i hi).2.2.1, (hKw.trans hW).cellSome (hcH i hi).2.2.2⟩))
      have HC := Lib.hid (fun i hi => (show c0 i < 256 ∧ V.cell? ⟨cb, co + i, none⟩ = some (.int .u8 ((c0 i : Nat) : Int)) from ⟨(hcC i hi).1, (hKw.trans hW).cellSome (hcC i hi).2⟩))
      have HLV := Lib.hid (fun x (hx : x < n) => (show V.cell? ⟨lb, x, none⟩ = some (.int .i64 ((mL p1 x : Nat) : Int)) from by rw [hRR.2.1.cellAt x (by omega)]; simp [natsL, hx]))
      have hrwV := hW.row hrow
      obtain ⟨v0, HV0⟩ : ∃ v0, V.heap.size = v0 := ⟨_, rfl⟩
      obtain ⟨j1, hj0, hy0, hy1, hy2⟩ := info_parts Try.infoSpot
      have hQ0 := own_zeroT V v0 26 2 (by omega)
      obtain ⟨V1, hV1⟩ : ∃ V1, V.alloc (.cells #[] 26) = V1 := ⟨_, rfl⟩
      have hsv1 : V1.heap.size = v0 + 1 := by rw [← hV1]; simp [HV0]
      have hkv1 : Kept V V1 := by rw [← hV1]; exact (Kept.refl _).alloc _
      rw [hV1, HV0] at hQ0
      have hQ1 := own_zeroT V1 v0 3 1 (by omega)
      have hQ0' := hQ0.alloc (.cells #[] 3)
      obtain ⟨V2, hV2⟩ : ∃ V2, V1.alloc (.cells #[] 3) = V2 := ⟨_, rfl⟩
      have hkv2 : Kept V1 V2 := by rw [← hV2]; exact (Kept.refl _).alloc _
      rw [hV2, hsv1] at hQ1
      rw [hV2] at hQ0'
      have hKV := hkv1.trans hkv2
      clear hcP hcH hcC HP hQ0 hkv1 hkv2
      go_wp2_with fail
      (try rw [hV2])
      go_loopg [9, 11] (min nH 3) (fun g s9 s11 wr => ∃ j ha hc, j ≤ min nH 3 ∧ g = min nH 3 - j ∧ s11 = .int .i64 j ∧ s9 = .slice ha j hc ∧ wr.ownsRow v0 26 2 (.slice ha j hc) j (spsL (mH n p1 h0 h1 nH whole) j) ∧ wr.ownsRow v0 3 1 (.slice (some ⟨v0 + 1, 0, none⟩) 0 0) 0 [] ∧ Kept V wr)
      case atStart => exact ⟨0, _, _, Nat.zero_le _, rfl, rfl, rfl, hQ0', hQ1, hKV⟩
      case round =>
        clear hQ0' hQ1 hKV hV1 hV2 hsv1
        obtain ⟨j, ha, hc, hj, rfl, rfl, rfl, hO, hQ, hKi⟩ := hrel
        go_upto_region 8 with fail
        go_cut [69] (fun v69 wx => v69 = .bool (decide (j < min nH 3)) ∧ wx = wr)
        case first =>
          have z1 := hKi.cellSome hmb1
          by_cases c1 : j < nH
          · by_cases c2 : j < 3
            · have b1 : (j : Int) < (nH : Int) := by omega
              have b2 : (j : Int) < 3 := by omega
              have d : Hid (decide (j < min nH 3) = true) := decide_eq_true (by omega)
              go_wp2_with fail
              go_meet
              exact ⟨by rw [d.out], rfl⟩
            · have b1 : (j : Int) < (nH : Int) := by omega
              have b2 : ¬ (j : Int) < 3 := by omega
              have d : Hid (decide (j < min nH 3) = false) := decide_eq_false (by omega)
              go_wp2_with fail
              go_meet
              exact ⟨by rw [d.out], rfl⟩
          · have b1 : ¬ (j : Int) < (nH : Int) := by omega
            have d : Hid (decide (j < min nH 3) = false) := decide_eq_false (by omega)
            go_wp2_with fail
            go_meet
            exact ⟨by rw [d.out], rfl⟩
        obtain ⟨e69, e70⟩ := hcut
        obtain rfl := e70.symm
        by_cases hlt2 : j < min nH 3
        · rw [decide_eq_true hlt2] at e69
          subst e69
          obtain rfl := haH (by omega)
          obtain ⟨hp, hq, g1, g2⟩ := HH.out j (by omega)
          have z1 := hKi.cellSome hmb1
          have z2 := hKi.cellSome hcel7
          have z3 := hKi.cellSome g1
          have z4 := hKi.cellSome g2
          have z5 := hKi.cellSome hcel8
          obtain ⟨p, HPp⟩ : ∃ p, Hid (p = h0 j) := ⟨_, rfl⟩
          obtain ⟨q, HQq⟩ : ∃ q, Hid (q = h1 j) := ⟨_, rfl⟩
          rw [← HPp.out] at hp z3
          rw [← HQq.out] at hq z4
          obtain ⟨x, HX⟩ : ∃ x, Hid (x = p % n) := ⟨_, rfl⟩
          have hx : x < n := by rw [HX.out]; exact Nat.mod_lt _ (by omega)
          have t1 : Int.tmod (p : Int) (n : Int) = (x : Int) := by rw [HX.out, Int.tmod_eq_emod_of_nonneg (by omega)]; simp
          have hxA : Hid (mA n h0 nH j = x) := by show _ = _; unfold mA; rw [if_neg (by omega), ← HPp.out, HX.out]
          have b1 : (j : Int) < (nH : Int) := by omega
          have b3 : ¬ n = 0 := by omega
          have b4 : (0 : Int) ≤ (j : Int) := by omega
          have b5 : IntKind.i64.wrap (p : Int) = (p : Int) := IntWalk.i64_in _ (by omega)
          have b6 : IntKind.i64.wrap (q : Int) = (q : Int) := IntWalk.i64_in _ (by omega)
          have b7 : IntKind.i64.wrap (x : Int) = (x : Int) := IntWalk.i64_in _ (by omega)
          have b10 : IntKind.i64.wrap ((j : Int) + 1) = (j : Int) + 1 := IntWalk.i64_in _ (by omega)
          clear g1 g2
          go_upto_region 10 with fail
          refine wp_region_held_drew (S := (fun w' => w'.cell? ⟨n0, 1, none⟩ = some (.slice (some ⟨hb, ho, none⟩) nH cH) ∧ w'.cell? ⟨n0 + 1 + 1 + 1 + 1, 0, none⟩ = some (.slice oa n oc) ∧ w'.cell? ⟨hb, ho + j * 2, none⟩ = some (.int .u8 (p : Int)))) (by kernel_rfl) ?_ (fun hHeld => ?_)
          · (try dsimp only)
            exact ⟨z1, z2, z3⟩
          refine wpAnyH_take (i := 0) (oi := { dst := some 72, op := Go.Op.fieldAddr 75 (Go.Operand.tmp 2) 1, type := 0, pos := "more.go:24", after := #[], guard := none }) (v := ?v28) rfl (by kernel_rfl) (by kernel_rfl) (by kernel_rfl) (fun _ _ _ h => h) (Or.inl ⟨by rfl, ?hy28⟩) (by assumption) ?rs28
          case hy28 =>
            intro w hSw
            (try dsimp only at hSw)
            go_simp
            try with_reducible rfl
          (try simp only [Act.put, List.setIfInBounds_toArray, List.set_cons_zero, List.set_cons_succ])
          refine wpAnyH_take (i := 1) (oi := { dst := some 73, op := Go.Op.load 72 (Go.Operand.tmp 72), type := 72, pos := "more.go:24", after := #[{ on := 0, ground := Go.Ground.data }], guard := none }) (v := ?v29) rfl (by kernel_rfl) (by kernel_rfl) (by kernel_rfl) (fun _ _ _ h => h) (Or.inl ⟨by rfl, ?hy29⟩) (by assumption) ?rs29
          case hy29 =>
            intro w hSw
            (try dsimp only at hSw)
            go_simp
            try with_reducible rfl
          (try simp only [Act.put, List.setIfInBounds_toArray, List.set_cons_zero, List.set_cons_succ])
          refine wpAnyH_take (i := 2) (oi := { dst := some 74, op := Go.Op.move (Go.Operand.tmp 11), type := 3, pos := "more.go:24", after := #[], guard := none }) (v := ?v30) rfl (by kernel_rfl) (by kernel_rfl) (by kernel_rfl) (fun _ _ _ h => h) (Or.inl ⟨by rfl, ?hy30⟩) (by assumption) ?rs30
          case hy30 =>
            intro w hSw
            (try dsimp only at hSw)
            go_simp
            try with_reducible rfl
          (try simp only [Act.put, List.setIfInBounds_toArray, List.set_cons_zero, List.set_cons_succ])
          refine wpAnyH_take (i := 3) (oi := { dst := some 75, op := Go.Op.indexAddr 72 (Go.Operand.tmp 73) (Go.Operand.tmp 74), type := 0, pos := "more.go:24", after := #[{ on := 1, ground := Go.Ground.data }, { on := 2, ground := Go.Ground.data }], guard := none }) (v := ?v31) rfl (by kernel_rfl) (by kernel_rfl) (by kernel_rfl) (fun _ _ _ h => h) (Or.inl ⟨by rfl, ?hy31⟩) (by assumption) ?rs31
          case hy31 =>
            intro w hSw
            (try dsimp only at hSw)
            go_simp
            try with_reducible rfl
          (try simp only [Act.put, List.setIfInBounds_toArray, List.set_cons_zero, List.set_cons_succ])
          refine wpAnyH_take (i := 4) (oi := { dst := some 76, op := Go.Op.indexAddr 82 (Go.Operand.tmp 75) (Go.Operand.const (Go.Value.int Go.IntKind.i64 0)), type := 0, pos := "more.go:24", after := #[{ on := 3, ground := Go.Ground.data }], guard := none }) (v := ?v32) rfl (by kernel_rfl) (by kernel_rfl) (by kernel_rfl) (fun _ _ _ h => h) (Or.inl ⟨by rfl, ?hy32⟩) (by assumption) ?rs32
          case hy32 =>
            intro w hSw
            (try dsimp only at hSw)
            go_simp
            try with_reducible rfl
          (try simp only [Act.put, List.setIfInBounds_toArray, List.set_cons_zero, List.set_cons_succ])
          refine wpAnyH_take (i := 5) (oi := { dst := some 77, op := Go.Op.load 5 (Go.Operand.tmp 76), type := 5, pos := "more.go:24", after := #[{ on := 4, ground := Go.Ground.data }], guard := none }) (v := ?v33) rfl (by kernel_rfl) (by kernel_rfl) (by kernel_rfl) (fun _ _ _ h => h) (Or.inl ⟨by rfl, ?hy33⟩) (by assumption) ?rs33
          case hy33 =>
            intro w hSw
            (try dsimp only at hSw)
            go_simp
            try with_reducible rfl
          (try simp only [Act.put, List.setIfInBounds_toArray, List.set_cons_zero, List.set_cons_succ])
          refine wpAnyH_take (i := 6) (oi := { dst := some 78, op := Go.Op.convert 5 3 (Go.Operand.tmp 77), type := 3, pos := "more.go:24", after := #[{ on := 5, ground := Go.Ground.data }], guard := none }) (v := ?v34) rfl (by kernel_rfl) (by kernel_rfl) (by kernel_rfl) (fun _ _ _ h => h) (Or.inl ⟨by rfl, ?hy34⟩) (by assumption) ?rs34
          case hy34 =>
            intro w hSw
            (try dsimp only at hSw)
            go_simp
            try with_reducible rfl
          (try simp only [Act.put, List.setIfInBounds_toArray, List.set_cons_zero, List.set_cons_succ])
          refine wpAnyH_take (i := 7) (oi := { dst := some 79, op := Go.Op.fieldAddr 24 (Go.Operand.tmp 7) 0, type := 0, pos := "more.go:24", after := #[], guard := none }) (v := ?v35) rfl (by kernel_rfl) (by kernel_rfl) (by kernel_rfl) (fun _ _ _ h => h) (Or.inl ⟨by rfl, ?hy35⟩) (by assumption) ?rs35
          case hy35 =>
            intro w hSw
            (try dsimp only at hSw)
            go_simp
            try with_reducible rfl
          (try simp only [Act.put, List.setIfInBounds_toArray, List.set_cons_zero, List.set_cons_succ])
          refine wpAnyH_take (i := 8) (oi := { dst := some 80, op := Go.Op.load 22 (Go.Operand.tmp 79), type := 22, pos := "more.go:24", after := #[{ on := 7, ground := Go.Ground.data }], guard := none }) (v := ?v36) rfl (by kernel_rfl) (by kernel_rfl) (by kernel_rfl) (fun _ _ _ h => h) (Or.inl ⟨by rfl, ?hy36⟩) (by assumption) ?rs36
          case hy36 =>
            intro w hSw
            (try dsimp only at hSw)
            go_simp
            try with_reducible rfl
          (try simp only [Act.put, List.setIfInBounds_toArray, List.set_cons_zero, List.set_cons_succ])
          refine wpAnyH_take (i := 9) (oi := { dst := some 81, op := Go.Op.call { callee := Go.Callee.builtin Go.Builtin.len, args := #[Go.Operand.tmp 80], argTypes := #[22] }, type := 3, pos := "more.go:24", after := #[{ on := 8, ground := Go.Ground.data }], guard := none }) (v := ?v37) rfl (by kernel_rfl) (by kernel_rfl) (by kernel_rfl) (fun _ _ _ h => h) (Or.inl ⟨by rfl, ?hy37⟩) (by assumption) ?rs37
          case hy37 =>
            intro w hSw
            (try dsimp only at hSw)
            go_simp
            try with_reducible rfl
          (try simp only [Act.put, List.setIfInBounds_toArray, List.set_cons_zero, List.set_cons_succ])
          refine wpAnyH_take (i := 10) (oi := { dst := some 82, op := Go.Op.binOp Go.BinOp.rem 3 (Go.Operand.tmp 78) (Go.Operand.tmp 81) 3, type := 3, pos := "more.go:24", after := #[{ on := 6, ground := Go.Ground.data }, { on := 9, ground := Go.Ground.data }], guard := none }) (v := ?v38) rfl (by kernel_rfl) (by kernel_rfl) (by kernel_rfl) (fun _ _ _ h => h) (Or.inl ⟨by rfl, ?hy38⟩) (by assumption) ?rs38
          case hy38 =>
            intro w hSw
            (try dsimp only at hSw)
            go_simp
            try with_reducible rfl
          (try simp only [Act.put, List.setIfInBounds_toArray, List.set_cons_zero, List.set_cons_succ])
          refine wpAnyH_take (i := 11) (oi := { dst := some 83, op := Go.Op.build 26 #[(0, Go.Operand.tmp 82)], type := 26, pos := "more.go:24", after := #[{ on := 10, ground := Go.Ground.data }], guard := none }) (v := ?v39) rfl (by kernel_rfl) (by kernel_rfl) (by kernel_rfl) (fun _ _ _ h => h) (Or.inl ⟨by rfl, ?hy39⟩) (by assumption) ?rs39
          case hy39 =>
            intro w hSw
            (try dsimp only at hSw)
            go_simp
            try with_reducible rfl
          (try simp only [Act.put, List.setIfInBounds_toArray, List.set_cons_zero, List.set_cons_succ])
          refine wpAnyH_ready (rs := [12]) (by kernel_rfl) (by simp) ?_
          refine AllReadyH.cons (o := { dst := some 12, op := Go.Op.alloc 26, type := 0, pos := "more.go:24", after := #[], guard := none }) rfl (fun K12 hK12 => ?_) AllReadyH.nil
          go_simp
          skip
          (try go_wp2_with fail)
          have hkb := (Kept.refl wr).alloc (.cells #[.int .i64 0, .int .i64 0] 26)
          refine hK12.out _ _ ?_ (fun hHeld => ?_)
          · (try dsimp only)
            exact ⟨(hkb.cellSome z1), (hkb.cellSome z2), (hkb.cellSome z3)⟩
          (try simp only [Act.put, List.setIfInBounds_toArray, List.set_cons_zero, List.set_cons_succ])
          refine wpAnyH_ready (rs := [13]) (by kernel_rfl) (by simp) ?_
          refine AllReadyH.cons (o := { dst := none, op := Go.Op.store 26 (Go.Operand.tmp 12) (Go.Operand.tmp 83), type := 0, pos := "more.go:24", after := #[{ on := 12, ground := Go.Ground.data }, { on := 11, ground := Go.Ground.data }, { on := 0, ground := Go.Ground.phase }, { on := 1, ground := Go.Ground.phase }, { on := 2, ground := Go.Ground.phase }, { on := 3, ground := Go.Ground.phase }, { on := 4, ground := Go.Ground.phase }, { on := 5, ground := Go.Ground.phase }, { on := 6, ground := Go.Ground.phase }, { on := 7, ground := Go.Ground.phase }, { on := 8, ground := Go.Ground.phase }, { on := 9, ground := Go.Ground.phase }, { on := 10, ground := Go.Ground.phase }, { on := 11, ground := Go.Ground.phase }, { on := 12, ground := Go.Ground.phase }], guard := none }) rfl (fun K13 hK13 => ?_) AllReadyH.nil
          go_simp
          skip
          (try go_wp2_with fail)
          have hrw := box2row wr wr.heap.size rfl (.int .i64 (x : Int)) (.int .i64 0) 26
          obtain ⟨U, hU⟩ : ∃ U, World.drew (World.alloc wr (.cells #[.int .i64 (x : Int), .int .i64 0] 26)) = U := ⟨_, rfl⟩
          have hKU : Kept wr U := by rw [← hU]; exact ((Kept.refl _).alloc _).drew
          have rowU : U.rowIs wr.heap.size 26 2 (bx2 (.int .i64 (x : Int)) (.int .i64 0)) := by rw [← hU]; exact hrw
          have y0 : U.cell? ⟨wr.heap.size, 0, none⟩ = some (.int .i64 (x : Int)) := rowU.cell (i := 0) (by omega)
          have y1 : U.cell? ⟨wr.heap.size, 1, none⟩ = some (.int .i64 0) := rowU.cell (i := 1) (by omega)
          rw [hU]
          clear hU hrw
          refine hK13.out _ _ ?_ (fun hHeld => ?_)
          · (try dsimp only)
            exact ⟨hKU.cellSome z1, hKU.cellSome z2, hKU.cellSome z3⟩
          (try simp only [Act.put, List.setIfInBounds_toArray, List.set_cons_zero, List.set_cons_succ])
          refine wpAnyH_done (by kernel_rfl) ?_ _
          rcases Nat.eq_zero_or_pos x with hx0 | hx0
          · have b20 : ¬ (0 : Int) < (x : Int) := by omega
            have HJ : Hid (mH n p1 h0 h1 nH whole j = (x, 0)) := by show _ = _; unfold mH; rw [hxA.out, if_neg (by omega)]
            clear hx0
            have hu8 : Kept U (U.alloc (.cells #[.int .i64 (x : Int), .int .i64 (0 : Int)] 26)) := (Kept.refl U).alloc _
            have hK8 := (hKi.trans hKU).trans hu8
            have hO8 := own_kept hO (hKU.trans hu8)
            have hQ8 := own_kept hQ (hKU.trans hu8)
            have hB8 : v0 ≤ (U.alloc (.cells #[.int .i64 (x : Int), .int .i64 (0 : Int)] 26)).heap.size := by have := hK8.size; omega
            go_wp2_with (first | (at_builtin; refine wpList_append_where _ rfl _ _ 36 rfl v0 26 j1 (.agg #[.int .i64 0, .int .i64 0]) 2 16 Try.underlying36 hj0 hy0 hy1 hy2 rfl (by decide) _ _ _ rfl hO8 ⟨_, 0, none⟩ 1 1 [.int .i64 (x : Int), .int .i64 (0 : Int)] rfl rfl (two_news _ _ _ _) (by simp [Value.oneCell']) (by decide) (by unfold maxLen; omega) (by omega) (by first | exact hB8 | (simp at hB8 ⊢; omega)) ?_))
            intro ov9 w9 hO9 hgr9 hwh9
            have hKz := hK8.grown hgr9 (fun k hk => by have := (hO8.lt k hk).1; omega)
            have hQ9 := own_other hQ8 hO8 (by decide) hgr9
            obtain ⟨va, vc, rfl⟩ := own_shape hO9
            have hOf : w9.ownsRow v0 26 2 (.slice va (j + 1) vc) (j + 1) (spsL (mH n p1 h0 h1 nH whole) (j + 1)) := by
              have e : spsL (mH n p1 h0 h1 nH whole) (j + 1) = spsL (mH n p1 h0 h1 nH whole) j ++ [.int .i64 (((mH n p1 h0 h1 nH whole j).1 : Nat) : Int), .int .i64 (((mH n p1 h0 h1 nH whole j).2 : Nat) : Int)] := rfl
              rw [e, HJ.out]
              exact hO9
            go_wp2_with fail
            go_roundg (min nH 3 - (j + 1))
            case measure => omega
            case rel => exact ⟨j + 1, _, _, by omega, rfl, by go_num, rfl, hOf, hQ9, hKz⟩
          · have b20 : (0 : Int) < (x : Int) := by omega
            cases whole with
            | true =>
              have HJ : Hid (mH n p1 h0 h1 nH true j = (x, 0)) := by show _ = _; unfold mH; rw [hxA.out, if_neg (by simp)]
              have hu8 : Kept U (U.alloc (.cells #[.int .i64 (x : Int), .int .i64 (0 : Int)] 26)) := (Kept.refl U).alloc _
              have hK8 := (hKi.trans hKU).trans hu8
              have hO8 := own_kept hO (hKU.trans hu8)
              have hQ8 := own_kept hQ (hKU.trans hu8)
              have hB8 : v0 ≤ (U.alloc (.cells #[.int .i64 (x : Int), .int .i64 (0 : Int)] 26)).heap.size := by have := hK8.size; omega
              go_wp2_with (first | (at_builtin; refine wpList_append_where _ rfl _ _ 36 rfl v0 26 j1 (.agg #[.int .i64 0, .int .i64 0]) 2 16 Try.underlying36 hj0 hy0 hy1 hy2 rfl (by decide) _ _ _ rfl hO8 ⟨_, 0, none⟩ 1 1 [.int .i64 (x : Int), .int .i64 (0 : Int)] rfl rfl (two_news _ _ _ _) (by simp [Value.oneCell']) (by decide) (by unfold maxLen; omega) (by omega) (by first | exact hB8 | (simp at hB8 ⊢; omega)) ?_))
              intro ov9 w9 hO9 hgr9 hwh9
              have hKz := hK8.grown hgr9 (fun k hk => by have := (hO8.lt k hk).1; omega)
              have hQ9 := own_other hQ8 hO8 (by decide) hgr9
              obtain ⟨va, vc, rfl⟩ := own_shape hO9
              have hOf : w9.ownsRow v0 26 2 (.slice va (j + 1) vc) (j + 1) (spsL (mH n p1 h0 h1 nH true) (j + 1)) := by
                have e : spsL (mH n p1 h0 h1 nH true) (j + 1) = spsL (mH n p1 h0 h1 nH true) j ++ [.int .i64 (((mH n p1 h0 h1 nH true j).1 : Nat) : Int), .int .i64 (((mH n p1 h0 h1 nH true j).2 : Nat) : Int)] := rfl
                rw [e, HJ.out]
                exact hO9
              go_wp2_with fail
              go_roundg (min nH 3 - (j + 1))
              case measure => omega
              case rel => exact ⟨j + 1, _, _, by omega, rfl, by go_num, rfl, hOf, hQ9, hKz⟩
            | false =>
              obtain ⟨l, HL⟩ : ∃ l, Hid (l = mL p1 x) := ⟨_, rfl⟩
              have hl : 1 ≤ l ∧ l ≤ 20 := by rw [HL.out]; unfold mL; rw [if_neg (by omega)]; exact ⟨by omega, by have := Nat.mod_lt (p1 (x - 1)) (show 0 < 20 by omega); omega⟩
              obtain ⟨y, HY⟩ : ∃ y, Hid (y = q % l) := ⟨_, rfl⟩
              have hy : y < l := by rw [HY.out]; exact Nat.mod_lt _ (by omega)
              have t5 : Int.tmod (q : Int) (l : Int) = (y : Int) := by rw [HY.out, Int.tmod_eq_emod_of_nonneg (by omega)]; simp
              have b21 : ¬ l = 0 := by omega
              have b22 : (x : Int) < (n : Int) := by omega
              have b23 : (0 : Int) ≤ (x : Int) := by omega
              have HJ : Hid (mH n p1 h0 h1 nH false j = (x, y)) := by show _ = _; unfold mH; rw [hxA.out, if_pos ⟨hx0, rfl⟩, HY.out, HQq.out, HL.out]
              have z6 : U.cell? ⟨lb, x, none⟩ = some (.int .i64 (l : Int)) := (hKi.trans hKU).cellSome (by rw [HL.out]; exact HLV.out x hx)
              have z1 := hKU.cellSome z1
              have z4 := hKU.cellSome z4
              have z5 := hKU.cellSome z5
              go_upto_region 12 with fail
              refine wp_region_last (S := (fun w' => w'.cell? ⟨n0, 1, none⟩ = some (.slice (some ⟨hb, ho, none⟩) nH cH) ∧ w'.cell? ⟨hb, ho + j * 2 + 1, none⟩ = some (.int .u8 (q : Int)) ∧ w'.cell? ⟨n0 + 1 + 1 + 1 + 1, 1, none⟩ = some (.slice (some ⟨lb, 0, none⟩) n lc) ∧ w'.cell? ⟨wr.heap.size, 0, none⟩ = some (.int .i64 (x : Int)) ∧ w'.cell? ⟨lb, x, none⟩ = some (.int .i64 (l : Int)))) 15 (by kernel_rfl) ?_ (fun hHeld => ?_)
              · (try dsimp only)
                exact ⟨z1, z4, z5, y0, z6⟩
              refine wpAnyM_take (i := 0) (oi := { dst := some 91, op := Go.Op.fieldAddr 75 (Go.Operand.tmp 2) 1, type := 0, pos := "more.go:26", after := #[], guard := none }) (v := ?v40) [15] rfl (by kernel_rfl) (by kernel_rfl) (by kernel_rfl) (fun _ _ _ h => h) (by kernel_rfl) (Or.inl ⟨by rfl, ?hy40⟩) (by assumption) ?rs40
              case hy40 =>
                intro w hSw
                (try dsimp only at hSw)
                go_simp
                try with_reducible rfl
              (try simp only [Act.put, List.setIfInBounds_toArray, List.set_cons_zero, List.set_cons_succ])
              refine wpAnyM_take (i := 1) (oi := { dst := some 92, op := Go.Op.load 72 (Go.Operand.tmp 91), type := 72, pos := "more.go:26", after := #[{ on := 0, ground := Go.Ground.data }], guard := none }) (v := ?v41) [15] rfl (by kernel_rfl) (by kernel_rfl) (by kernel_rfl) (fun _ _ _ h => h) (by kernel_rfl) (Or.inl ⟨by rfl, ?hy41⟩) (by assumption) ?rs41
              case hy41 =>
                intro w hSw
                (try dsimp only at hSw)
                go_simp
                try with_reducible rfl
              (try simp only [Act.put, List.setIfInBounds_toArray, List.set_cons_zero, List.set_cons_succ])
              refine wpAnyM_take (i := 2) (oi := { dst := some 93, op := Go.Op.move (Go.Operand.tmp 11), type := 3, pos := "more.go:26", after := #[], guard := none }) (v := ?v42) [15] rfl (by kernel_rfl) (by kernel_rfl) (by kernel_rfl) (fun _ _ _ h => h) (by kernel_rfl) (Or.inl ⟨by rfl, ?hy42⟩) (by assumption) ?rs42
              case hy42 =>
                intro w hSw
                (try dsimp only at hSw)
                go_simp
                try with_reducible rfl
              (try simp only [Act.put, List.setIfInBounds_toArray, List.set_cons_zero, List.set_cons_succ])
              refine wpAnyM_take (i := 3) (oi := { dst := some 94, op := Go.Op.indexAddr 72 (Go.Operand.tmp 92) (Go.Operand.tmp 93), type := 0, pos := "more.go:26", after := #[{ on := 1, ground := Go.Ground.data }, { on := 2, ground := Go.Ground.data }], guard := none }) (v := ?v43) [15] rfl (by kernel_rfl) (by kernel_rfl) (by kernel_rfl) (fun _ _ _ h => h) (by kernel_rfl) (Or.inl ⟨by rfl, ?hy43⟩) (by assumption) ?rs43
              case hy43 =>
                intro w hSw
                (try dsimp only at hSw)
                go_simp
                try with_reducible rfl
              (try simp only [Act.put, List.setIfInBounds_toArray, List.set_cons_zero, List.set_cons_succ])
              refine wpAnyM_take (i := 4) (oi := { dst := some 95, op := Go.Op.indexAddr 82 (Go.Operand.tmp 94) (Go.Operand.const (Go.Value.int Go.IntKind.i64 1)), type := 0, pos := "more.go:26", after := #[{ on := 3, ground := Go.Ground.data }], guard := none }) (v := ?v44) [15] rfl (by kernel_rfl) (by kernel_rfl) (by kernel_rfl) (fun _ _ _ h => h) (by kernel_rfl) (Or.inl ⟨by rfl, ?hy44⟩) (by assumption) ?rs44
              case hy44 =>
                intro w hSw
                (try dsimp only at hSw)
                go_simp
                try with_reducible rfl
              (try simp only [Act.put, List.setIfInBounds_toArray, List.set_cons_zero, List.set_cons_succ])
              refine wpAnyM_take (i := 5) (oi := { dst := some 96, op := Go.Op.load 5 (Go.Operand.tmp 95), type := 5, pos := "more.go:26", after := #[{ on := 4, ground := Go.Ground.data }], guard := none }) (v := ?v45) [15] rfl (by kernel_rfl) (by kernel_rfl) (by kernel_rfl) (fun _ _ _ h => h) (by kernel_rfl) (Or.inl ⟨by rfl, ?hy45⟩) (by assumption) ?rs45
              case hy45 =>
                intro w hSw
                (try dsimp only at hSw)
                go_simp
                try with_reducible rfl
              (try simp only [Act.put, List.setIfInBounds_toArray, List.set_cons_zero, List.set_cons_succ])
              refine wpAnyM_take (i := 6) (oi := { dst := some 97, op := Go.Op.convert 5 3 (Go.Operand.tmp 96), type := 3, pos := "more.go:26", after := #[{ on := 5, ground := Go.Ground.data }], guard := none }) (v := ?v46) [15] rfl (by kernel_rfl) (by kernel_rfl) (by kernel_rfl) (fun _ _ _ h => h) (by kernel_rfl) (Or.inl ⟨by rfl, ?hy46⟩) (by assumption) ?rs46
              case hy46 =>
                intro w hSw
                (try dsimp only at hSw)
                go_simp
                try with_reducible rfl
              (try simp only [Act.put, List.setIfInBounds_toArray, List.set_cons_zero, List.set_cons_succ])
              refine wpAnyM_take (i := 7) (oi := { dst := some 98, op := Go.Op.fieldAddr 24 (Go.Operand.tmp 7) 1, type := 0, pos := "more.go:26", after := #[], guard := none }) (v := ?v47) [15] rfl (by kernel_rfl) (by kernel_rfl) (by kernel_rfl) (fun _ _ _ h => h) (by kernel_rfl) (Or.inl ⟨by rfl, ?hy47⟩) (by assumption) ?rs47
              case hy47 =>
                intro w hSw
                (try dsimp only at hSw)
                go_simp
                try with_reducible rfl
              (try simp only [Act.put, List.setIfInBounds_toArray, List.set_cons_zero, List.set_cons_succ])
              refine wpAnyM_take (i := 8) (oi := { dst := some 99, op := Go.Op.load 22 (Go.Operand.tmp 98), type := 22, pos := "more.go:26", after := #[{ on := 7, ground := Go.Ground.data }], guard := none }) (v := ?v48) [15] rfl (by kernel_rfl) (by kernel_rfl) (by kernel_rfl) (fun _ _ _ h => h) (by kernel_rfl) (Or.inl ⟨by rfl, ?hy48⟩) (by assumption) ?rs48
              case hy48 =>
                intro w hSw
                (try dsimp only at hSw)
                go_simp
                try with_reducible rfl
              (try simp only [Act.put, List.setIfInBounds_toArray, List.set_cons_zero, List.set_cons_succ])
              refine wpAnyM_take (i := 9) (oi := { dst := some 100, op := Go.Op.fieldAddr 26 (Go.Operand.tmp 12) 0, type := 0, pos := "more.go:26", after := #[], guard := none }) (v := ?v49) [15] rfl (by kernel_rfl) (by kernel_rfl) (by kernel_rfl) (fun _ _ _ h => h) (by kernel_rfl) (Or.inl ⟨by rfl, ?hy49⟩) (by assumption) ?rs49
              case hy49 =>
                intro w hSw
                (try dsimp only at hSw)
                go_simp
                try with_reducible rfl
              (try simp only [Act.put, List.setIfInBounds_toArray, List.set_cons_zero, List.set_cons_succ])
              refine wpAnyM_take (i := 10) (oi := { dst := some 101, op := Go.Op.load 3 (Go.Operand.tmp 100), type := 3, pos := "more.go:26", after := #[{ on := 9, ground := Go.Ground.data }], guard := none }) (v := ?v50) [15] rfl (by kernel_rfl) (by kernel_rfl) (by kernel_rfl) (fun _ _ _ h => h) (by kernel_rfl) (Or.inl ⟨by rfl, ?hy50⟩) (by assumption) ?rs50
              case hy50 =>
                intro w hSw
                (try dsimp only at hSw)
                go_simp
                try with_reducible rfl
              (try simp only [Act.put, List.setIfInBounds_toArray, List.set_cons_zero, List.set_cons_succ])
              refine wpAnyM_take (i := 11) (oi := { dst := some 102, op := Go.Op.indexAddr 22 (Go.Operand.tmp 99) (Go.Operand.tmp 101), type := 0, pos := "more.go:26", after := #[{ on := 8, ground := Go.Ground.data }, { on := 10, ground := Go.Ground.data }], guard := none }) (v := ?v51) [15] rfl (by kernel_rfl) (by kernel_rfl) (by kernel_rfl) (fun _ _ _ h => h) (by kernel_rfl) (Or.inl ⟨by rfl, ?hy51⟩) (by assumption) ?rs51
              case hy51 =>
                intro w hSw
                (try dsimp only at hSw)
                go_simp
                try with_reducible rfl
              (try simp only [Act.put, List.setIfInBounds_toArray, List.set_cons_zero, List.set_cons_succ])
              refine wpAnyM_take (i := 12) (oi := { dst := some 103, op := Go.Op.load 3 (Go.Operand.tmp 102), type := 3, pos := "more.go:26", after := #[{ on := 11, ground := Go.Ground.data }], guard := none }) (v := ?v52) [15] rfl (by kernel_rfl) (by kernel_rfl) (by kernel_rfl) (fun _ _ _ h => h) (by kernel_rfl) (Or.inl ⟨by rfl, ?hy52⟩) (by assumption) ?rs52
              case hy52 =>
                intro w hSw
                (try dsimp only at hSw)
                go_simp
                try with_reducible rfl
              (try simp only [Act.put, List.setIfInBounds_toArray, List.set_cons_zero, List.set_cons_succ])
              refine wpAnyM_take (i := 13) (oi := { dst := some 104, op := Go.Op.binOp Go.BinOp.rem 3 (Go.Operand.tmp 97) (Go.Operand.tmp 103) 3, type := 3, pos := "more.go:26", after := #[{ on := 6, ground := Go.Ground.data }, { on := 12, ground := Go.Ground.data }], guard := none }) (v := ?v53) [15] rfl (by kernel_rfl) (by kernel_rfl) (by kernel_rfl) (fun _ _ _ h => h) (by kernel_rfl) (Or.inl ⟨by rfl, ?hy53⟩) (by assumption) ?rs53
              case hy53 =>
                intro w hSw
                (try dsimp only at hSw)
                go_simp
                try with_reducible rfl
              (try simp only [Act.put, List.setIfInBounds_toArray, List.set_cons_zero, List.set_cons_succ])
              refine wpAnyM_take (i := 14) (oi := { dst := some 105, op := Go.Op.fieldAddr 26 (Go.Operand.tmp 12) 1, type := 0, pos := "more.go:26", after := #[{ on := 0, ground := Go.Ground.phase }, { on := 1, ground := Go.Ground.phase }, { on := 2, ground := Go.Ground.phase }, { on := 3, ground := Go.Ground.phase }, { on := 4, ground := Go.Ground.phase }, { on := 5, ground := Go.Ground.phase }, { on := 6, ground := Go.Ground.phase }, { on := 7, ground := Go.Ground.phase }, { on := 8, ground := Go.Ground.phase }, { on := 9, ground := Go.Ground.phase }, { on := 10, ground := Go.Ground.phase }, { on := 11, ground := Go.Ground.phase }, { on := 12, ground := Go.Ground.phase }, { on := 13, ground := Go.Ground.phase }], guard := none }) (v := ?v54) [15] rfl (by kernel_rfl) (by kernel_rfl) (by kernel_rfl) (fun _ _ _ h => h) (by kernel_rfl) (Or.inl ⟨by rfl, ?hy54⟩) (by assumption) ?rs54
              case hy54 =>
                intro w hSw
                (try dsimp only at hSw)
                go_simp
                try with_reducible rfl
              (try simp only [Act.put, List.setIfInBounds_toArray, List.set_cons_zero, List.set_cons_succ])
              refine wpAnyM_ready (rs := [15]) (by kernel_rfl) (by simp) ?_
              refine AllReadyM.atLast (o := { dst := none, op := Go.Op.store 3 (Go.Operand.tmp 105) (Go.Operand.tmp 104), type := 0, pos := "more.go:26", after := #[{ on := 14, ground := Go.Ground.data }, { on := 13, ground := Go.Ground.data }, { on := 0, ground := Go.Ground.phase }, { on := 1, ground := Go.Ground.phase }, { on := 2, ground := Go.Ground.phase }, { on := 3, ground := Go.Ground.phase }, { on := 4, ground := Go.Ground.phase }, { on := 5, ground := Go.Ground.phase }, { on := 6, ground := Go.Ground.phase }, { on := 7, ground := Go.Ground.phase }, { on := 8, ground := Go.Ground.phase }, { on := 9, ground := Go.Ground.phase }, { on := 10, ground := Go.Ground.phase }, { on := 11, ground := Go.Ground.phase }, { on := 12, ground := Go.Ground.phase }, { on := 13, ground := Go.Ground.phase }], guard := none }) rfl (fun K15 hK15 => ?_) AllReadyM.nil
              have fz := rowU.frozen 1
              go_simp
              skip
              (try go_wp2_with fail)
              obtain ⟨U2, hU2⟩ : ∃ U2, World.drew (World.setCell U ⟨wr.heap.size, 1, none⟩ (.int .i64 (y : Int))) = U2 := ⟨_, rfl⟩
              have hKU : Kept wr U2 := by rw [← hU2]; exact (hKU.setCell (p := ⟨wr.heap.size, 1, none⟩) (Nat.le_refl _) _).drew
              have rowU2 : U2.rowIs wr.heap.size 26 2 (bx2 (.int .i64 (x : Int)) (.int .i64 (y : Int))) := by
                rw [← hU2]
                exact (rowU.set 1 (.int .i64 (y : Int))).congr (fun i hi => by
                  have : i = 0 ∨ i = 1 := by omega
                  rcases this with rfl | rfl <;> simp [bx2])
              have y0 : U2.cell? ⟨wr.heap.size, 0, none⟩ = some (.int .i64 (x : Int)) := rowU2.cell (i := 0) (by omega)
              have y1 : U2.cell? ⟨wr.heap.size, 1, none⟩ = some (.int .i64 (y : Int)) := rowU2.cell (i := 1) (by omega)
              rw [hU2]
              clear hU2 rowU rowU2
              refine hK15.out _ _ ?_
              (try simp only [Act.put, List.setIfInBounds_toArray, List.set_cons_zero, List.set_cons_succ])
              refine wpAnyM_done (by kernel_rfl) ?_ _
              have hu8 : Kept U2 (U2.alloc (.cells #[.int .i64 (x : Int), .int .i64 (y : Int)] 26)) := (Kept.refl U2).alloc _
              have hK8 := (hKi.trans hKU).trans hu8
              have hO8 := own_kept hO (hKU.trans hu8)
              have hQ8 := own_kept hQ (hKU.trans hu8)
              have hB8 : v0 ≤ (U2.alloc (.cells #[.int .i64 (x : Int), .int .i64 (y : Int)] 26)).heap.size := by have := hK8.size; omega
              go_wp2_with (first | (at_builtin; refine wpList_append_where _ rfl _ _ 36 rfl v0 26 j1 (.agg #[.int .i64 0, .int .i64 0]) 2 16 Try.underlying36 hj0 hy0 hy1 hy2 rfl (by decide) _ _ _ rfl hO8 ⟨_, 0, none⟩ 1 1 [.int .i64 (x : Int), .int .i64 (y : Int)] rfl rfl (two_news _ _ _ _) (by simp [Value.oneCell']) (by decide) (by unfold maxLen; omega) (by omega) (by first | exact hB8 | (simp at hB8 ⊢; omega)) ?_))
              intro ov9 w9 hO9 hgr9 hwh9
              have hKz := hK8.grown hgr9 (fun k hk => by have := (hO8.lt k hk).1; omega)
              have hQ9 := own_other hQ8 hO8 (by decide) hgr9
              obtain ⟨va, vc, rfl⟩ := own_shape hO9
              have hOf : w9.ownsRow v0 26 2 (.slice va (j + 1) vc) (j + 1) (spsL (mH n p1 h0 h1 nH false) (j + 1)) := by
                have e : spsL (mH n p1 h0 h1 nH false) (j + 1) = spsL (mH n p1 h0 h1 nH false) j ++ [.int .i64 (((mH n p1 h0 h1 nH false j).1 : Nat) : Int), .int .i64 (((mH n p1 h0 h1 nH false j).2 : Nat) : Int)] := rfl
                rw [e, HJ.out]
                exact hO9
              go_wp2_with fail
              go_roundg (min nH 3 - (j + 1))
              case measure => omega
              case rel => exact ⟨j + 1, _, _, by omega, rfl, by go_num, rfl, hOf, hQ9, hKz⟩
        · skip
          rw [decide_eq_false hlt2] at e69
          subst e69
          obtain ⟨K, HK⟩ : ∃ K, Hid (K = mK nH) := ⟨_, rfl⟩
          by_cases cz : nH = 0
          · have hj0' : j = 0 := by omega
            subst hj0'
            have hu8 : Kept wr (wr.alloc (.cells #[.int .i64 0, .int .i64 0] 26)) := (Kept.refl wr).alloc _
            have hK8 := hKi.trans hu8
            have hO8 := own_kept hO hu8
            have hQ8 := own_kept hQ hu8
            have hB8 : v0 ≤ (wr.alloc (.cells #[.int .i64 0, .int .i64 0] 26)).heap.size := by have := hK8.size; omega
            have HJ : Hid (spsL (mH n p1 h0 h1 nH whole) K = [.int .i64 0, .int .i64 0]) := by
              have e1 : mK nH = 1 := by unfold mK; omega
              have e2 : mH n p1 h0 h1 nH whole 0 = (0, 0) := by unfold mH mA; rw [if_pos cz]; rfl
              show _ = _
              rw [HK.out, e1]
              show ([] ++ [Value.int .i64 (((mH n p1 h0 h1 nH whole 0).1 : Nat) : Int), Value.int .i64 (((mH n p1 h0 h1 nH whole 0).2 : Nat) : Int)] : List Value) = _
              rw [e2]
              rfl
            have HK1 : Hid (K = 1) := by show _ = _; rw [HK.out]; unfold mK; omega
            clear cz
            go_wp2_with (first | (at_builtin; refine wpList_append_where _ rfl _ _ 36 rfl v0 26 j1 (.agg #[.int .i64 0, .int .i64 0]) 2 16 Try.underlying36 hj0 hy0 hy1 hy2 rfl (by decide) _ _ _ rfl hO8 ⟨_, 0, none⟩ 1 1 [.int .i64 0, .int .i64 0] rfl rfl (two_news _ _ _ _) (by simp [Value.oneCell']) (by decide) (by unfold maxLen; omega) (by omega) (by first | exact hB8 | (simp at hB8 ⊢; omega)) ?_))
            intro ov9 X hO9 hgr9 hwh9
            have hKX := hK8.grown hgr9 (fun k hk => by have := (hO8.lt k hk).1; omega)
            have hQX := own_other hQ8 hO8 (by decide) hgr9
            obtain ⟨va, vc, rfl⟩ := own_shape hO9
            have hOX : X.ownsRow v0 26 2 (.slice va K vc) K (spsL (mH n p1 h0 h1 nH whole) K) := by
              rw [HJ.out, HK1.out]
              exact hO9
            rw [show (.slice va (0 + 1) vc : Value) = .slice va K vc by rw [HK1.out]] at *
            clear hO8 hQ8 hO9 hgr9 hwh9 hO hQ hKi hu8 hK8 hB8
            go_wp2_with fail
            go_loopg [10, 13] (min nC 12) (fun g s10 s13 wr => ∃ j ca cc, j ≤ min nC 12 ∧ g = min nC 12 - j ∧ s13 = .int .i64 j ∧ s10 = .slice (some ⟨ca, 0, none⟩) j cc ∧ wr.ownsRow v0 3 1 (.slice (some ⟨ca, 0, none⟩) j cc) j (natsL (mC n c0) j) ∧ wr.ownsRow v0 26 2 (.slice va K vc) K (spsL (mH n p1 h0 h1 nH whole) K) ∧ Kept V wr)
            case atStart => exact ⟨0, _, _, Nat.zero_le _, rfl, rfl, rfl, hQX, hOX, hKX⟩
            case round =>
              clear hQX hOX hKX
              obtain ⟨j, ca, cc, hj, rfl, rfl, rfl, hO, hQ, hKi⟩ := hrel
              go_upto_region 17 with fail
              go_cut [125] (fun v125 wx => v125 = .bool (decide (j < min nC 12)) ∧ wx = wr)
              case first =>
                have z1 := hKi.cellSome hmb2
                by_cases c1 : j < nC
                · by_cases c2 : j < 12
                  · have b1 : (j : Int) < (nC : Int) := by omega
                    have b2 : (j : Int) < 12 := by omega
                    have d : Hid (decide (j < min nC 12) = true) := decide_eq_true (by omega)
                    go_wp2_with fail
                    go_meet
                    exact ⟨by rw [d.out], rfl⟩
                  · have b1 : (j : Int) < (nC : Int) := by omega
                    have b2 : ¬ (j : Int) < 12 := by omega
                    have d : Hid (decide (j < min nC 12) = false) := decide_eq_false (by omega)
                    go_wp2_with fail
                    go_meet
                    exact ⟨by rw [d.out], rfl⟩
                · have b1 : ¬ (j : Int) < (nC : Int) := by omega
                  have d : Hid (decide (j < min nC 12) = false) := decide_eq_false (by omega)
                  go_wp2_with fail
                  go_meet
                  exact ⟨by rw [d.out], rfl⟩
              obtain ⟨e125, e126⟩ := hcut
              obtain rfl := e126.symm
              by_cases hlt3 : j < min nC 12
              · rw [decide_eq_true hlt3] at e125
                subst e125
                obtain rfl := haC (by omega)
                obtain ⟨hp, g1⟩ := HC.out j (by omega)
                have z1 := hKi.cellSome hmb2
                have z2 := hKi.cellSome hcel7
                obtain ⟨p, HPp⟩ : ∃ p, Hid (p = c0 j) := ⟨_, rfl⟩
                rw [← HPp.out] at hp g1
                have z3 := hKi.cellSome g1
                obtain ⟨x, HX⟩ : ∃ x, Hid (x = p % n) := ⟨_, rfl⟩
                have hx : x < n := by rw [HX.out]; exact Nat.mod_lt _ (by omega)
                have t1 : Int.tmod (p : Int) (n : Int) = (x : Int) := by rw [HX.out, Int.tmod_eq_emod_of_nonneg (by omega)]; simp
                have HXC : Hid (x = mC n c0 j) := by show _ = _; unfold mC; rw [HX.out, HPp.out]
                have b1 : (j : Int) < (nC : Int) := by omega
                have b3 : ¬ n = 0 := by omega
                have b4 : (0 : Int) ≤ (j : Int) := by omega
                have b5 : IntKind.i64.wrap (p : Int) = (p : Int) := IntWalk.i64_in _ (by omega)
                have b7 : IntKind.i64.wrap (x : Int) = (x : Int) := IntWalk.i64_in _ (by omega)
                have b10 : IntKind.i64.wrap ((j : Int) + 1) = (j : Int) + 1 := IntWalk.i64_in _ (by omega)
                go_upto_region 19 with fail
                refine wp_region_held_drew (S := (fun w' => w'.cell? ⟨n0, 2, none⟩ = some (.slice (some ⟨cb, co, none⟩) nC cC) ∧ w'.cell? ⟨n0 + 1 + 1 + 1 + 1, 0, none⟩ = some (.slice oa n oc) ∧ w'.cell? ⟨cb, co + j, none⟩ = some (.int .u8 (p : Int)))) (by kernel_rfl) ?_ (fun hHeld => ?_)
                · (try dsimp only)
                  exact ⟨z1, z2, z3⟩
                refine wpAnyH_take (i := 0) (oi := { dst := some 128, op := Go.Op.move (Go.Operand.tmp 10), type := 22, pos := "more.go:34", after := #[], guard := none }) (v := ?v55) rfl (by kernel_rfl) (by kernel_rfl) (by kernel_rfl) (fun _ _ _ h => h) (Or.inl ⟨by rfl, ?hy55⟩) (by assumption) ?rs55
                case hy55 =>
                  intro w hSw
                  (try dsimp only at hSw)
                  go_simp
                  try with_reducible rfl
                (try simp only [Act.put, List.setIfInBounds_toArray, List.set_cons_zero, List.set_cons_succ])
                refine wpAnyH_take (i := 1) (oi := { dst := some 129, op := Go.Op.fieldAddr 75 (Go.Operand.tmp 2) 2, type := 0, pos := "more.go:34", after := #[], guard := none }) (v := ?v56) rfl (by kernel_rfl) (by kernel_rfl) (by kernel_rfl) (fun _ _ _ h => h) (Or.inl ⟨by rfl, ?hy56⟩) (by assumption) ?rs56
                case hy56 =>
                  intro w hSw
                  (try dsimp only at hSw)
                  go_simp
                  try with_reducible rfl
                (try simp only [Act.put, List.setIfInBounds_toArray, List.set_cons_zero, List.set_cons_succ])
                refine wpAnyH_take (i := 2) (oi := { dst := some 130, op := Go.Op.load 73 (Go.Operand.tmp 129), type := 73, pos := "more.go:34", after := #[{ on := 1, ground := Go.Ground.data }], guard := none }) (v := ?v57) rfl (by kernel_rfl) (by kernel_rfl) (by kernel_rfl) (fun _ _ _ h => h) (Or.inl ⟨by rfl, ?hy57⟩) (by assumption) ?rs57
                case hy57 =>
                  intro w hSw
                  (try dsimp only at hSw)
                  go_simp
                  try with_reducible rfl
                (try simp only [Act.put, List.setIfInBounds_toArray, List.set_cons_zero, List.set_cons_succ])
                refine wpAnyH_take (i := 3) (oi := { dst := some 131, op := Go.Op.move (Go.Operand.tmp 13), type := 3, pos := "more.go:34", after := #[], guard := none }) (v := ?v58) rfl (by kernel_rfl) (by kernel_rfl) (by kernel_rfl) (fun _ _ _ h => h) (Or.inl ⟨by rfl, ?hy58⟩) (by assumption) ?rs58
                case hy58 =>
                  intro w hSw
                  (try dsimp only at hSw)
                  go_simp
                  try with_reducible rfl
                (try simp only [Act.put, List.setIfInBounds_toArray, List.set_cons_zero, List.set_cons_succ])
                refine wpAnyH_take (i := 4) (oi := { dst := some 132, op := Go.Op.indexAddr 73 (Go.Operand.tmp 130) (Go.Operand.tmp 131), type := 0, pos := "more.go:34", after := #[{ on := 2, ground := Go.Ground.data }, { on := 3, ground := Go.Ground.data }], guard := none }) (v := ?v59) rfl (by kernel_rfl) (by kernel_rfl) (by kernel_rfl) (fun _ _ _ h => h) (Or.inl ⟨by rfl, ?hy59⟩) (by assumption) ?rs59
                case hy59 =>
                  intro w hSw
                  (try dsimp only at hSw)
                  go_simp
                  try with_reducible rfl
                (try simp only [Act.put, List.setIfInBounds_toArray, List.set_cons_zero, List.set_cons_succ])
                refine wpAnyH_take (i := 5) (oi := { dst := some 133, op := Go.Op.load 5 (Go.Operand.tmp 132), type := 5, pos := "more.go:34", after := #[{ on := 4, ground := Go.Ground.data }], guard := none }) (v := ?v60) rfl (by kernel_rfl) (by kernel_rfl) (by kernel_rfl) (fun _ _ _ h => h) (Or.inl ⟨by rfl, ?hy60⟩) (by assumption) ?rs60
                case hy60 =>
                  intro w hSw
                  (try dsimp only at hSw)
                  go_simp
                  try with_reducible rfl
                (try simp only [Act.put, List.setIfInBounds_toArray, List.set_cons_zero, List.set_cons_succ])
                refine wpAnyH_take (i := 6) (oi := { dst := some 134, op := Go.Op.convert 5 3 (Go.Operand.tmp 133), type := 3, pos := "more.go:34", after := #[{ on := 5, ground := Go.Ground.data }], guard := none }) (v := ?v61) rfl (by kernel_rfl) (by kernel_rfl) (by kernel_rfl) (fun _ _ _ h => h) (Or.inl ⟨by rfl, ?hy61⟩) (by assumption) ?rs61
                case hy61 =>
                  intro w hSw
                  (try dsimp only at hSw)
                  go_simp
                  try with_reducible rfl
                (try simp only [Act.put, List.setIfInBounds_toArray, List.set_cons_zero, List.set_cons_succ])
                refine wpAnyH_take (i := 7) (oi := { dst := some 135, op := Go.Op.fieldAddr 24 (Go.Operand.tmp 7) 0, type := 0, pos := "more.go:34", after := #[], guard := none }) (v := ?v62) rfl (by kernel_rfl) (by kernel_rfl) (by kernel_rfl) (fun _ _ _ h => h) (Or.inl ⟨by rfl, ?hy62⟩) (by assumption) ?rs62
                case hy62 =>
                  intro w hSw
                  (try dsimp only at hSw)
                  go_simp
                  try with_reducible rfl
                (try simp only [Act.put, List.setIfInBounds_toArray, List.set_cons_zero, List.set_cons_succ])
                refine wpAnyH_take (i := 8) (oi := { dst := some 136, op := Go.Op.load 22 (Go.Operand.tmp 135), type := 22, pos := "more.go:34", after := #[{ on := 7, ground := Go.Ground.data }], guard := none }) (v := ?v63) rfl (by kernel_rfl) (by kernel_rfl) (by kernel_rfl) (fun _ _ _ h => h) (Or.inl ⟨by rfl, ?hy63⟩) (by assumption) ?rs63
                case hy63 =>
                  intro w hSw
                  (try dsimp only at hSw)
                  go_simp
                  try with_reducible rfl
                (try simp only [Act.put, List.setIfInBounds_toArray, List.set_cons_zero, List.set_cons_succ])
                refine wpAnyH_take (i := 9) (oi := { dst := some 137, op := Go.Op.call { callee := Go.Callee.builtin Go.Builtin.len, args := #[Go.Operand.tmp 136], argTypes := #[22] }, type := 3, pos := "more.go:34", after := #[{ on := 8, ground := Go.Ground.data }], guard := none }) (v := ?v64) rfl (by kernel_rfl) (by kernel_rfl) (by kernel_rfl) (fun _ _ _ h => h) (Or.inl ⟨by rfl, ?hy64⟩) (by assumption) ?rs64
                case hy64 =>
                  intro w hSw
                  (try dsimp only at hSw)
                  go_simp
                  try with_reducible rfl
                (try simp only [Act.put, List.setIfInBounds_toArray, List.set_cons_zero, List.set_cons_succ])
                refine wpAnyH_take (i := 10) (oi := { dst := some 138, op := Go.Op.binOp Go.BinOp.rem 3 (Go.Operand.tmp 134) (Go.Operand.tmp 137) 3, type := 3, pos := "more.go:34", after := #[{ on := 6, ground := Go.Ground.data }, { on := 9, ground := Go.Ground.data }], guard := none }) (v := ?v65) rfl (by kernel_rfl) (by kernel_rfl) (by kernel_rfl) (fun _ _ _ h => h) (Or.inl ⟨by rfl, ?hy65⟩) (by assumption) ?rs65
                case hy65 =>
                  intro w hSw
                  (try dsimp only at hSw)
                  go_simp
                  try with_reducible rfl
                (try simp only [Act.put, List.setIfInBounds_toArray, List.set_cons_zero, List.set_cons_succ])
                refine wpAnyH_ready (rs := [11]) (by kernel_rfl) (by simp) ?_
                refine AllReadyH.cons (o := { dst := some 139, op := Go.Op.buildSlice 22 1 #[(0, Go.Operand.tmp 138)], type := 22, pos := "more.go:34", after := #[{ on := 10, ground := Go.Ground.data }], guard := none }) rfl (fun K11 hK11 => ?_) AllReadyH.nil
                go_simp
                skip
                (try go_wp2_with fail)
                have hka : Kept wr (World.drew (World.alloc wr (.cells #[.int .i64 (x : Int)] 3))) := ((Kept.refl _).alloc _).drew
                have hn11 : ∀ (j : Nat) u, [Value.int .i64 (x : Int)][j]? = some u → (World.drew (World.alloc wr (.cells #[.int .i64 (x : Int)] 3))).cell? ((⟨wr.heap.size, 0, none⟩ : Addr).add j) = some u := cell_one_new wr _ 3
                have hO8 := own_kept hO hka
                have hQ8 := own_kept hQ hka
                have hK8 := hKi.trans hka
                obtain ⟨U, hU⟩ : ∃ U, (World.drew (World.alloc wr (.cells #[.int .i64 (x : Int)] 3))) = U := ⟨_, rfl⟩
                rw [hU] at hn11 hO8 hQ8 hK8 hka ⊢
                clear hU
                refine hK11.out _ _ ?_ (fun hHeld => ?_)
                · (try dsimp only)
                  exact ⟨hka.cellSome z1, hka.cellSome z2, hka.cellSome z3⟩
                (try simp only [Act.put, List.setIfInBounds_toArray, List.set_cons_zero, List.set_cons_succ])
                refine wpAnyH_ready (rs := [12]) (by kernel_rfl) (by simp) ?_
                refine AllReadyH.cons (o := { dst := some 140, op := Go.Op.call { callee := Go.Callee.builtin Go.Builtin.append, args := #[Go.Operand.tmp 128, Go.Operand.tmp 139], argTypes := #[22, 22] }, type := 22, pos := "more.go:34", after := #[{ on := 0, ground := Go.Ground.data }, { on := 11, ground := Go.Ground.data }], guard := none }) rfl (fun K12 hK12 => ?_) AllReadyH.nil
                rw [if_pos (by rfl)]
                refine wp_append_where _ _ _ 22 rfl v0 3 i1 (.int .i64 0) 1 8 Try.underlying22 hi0 hz0 hz1 hz2 rfl (by decide) _ _ _ (by rfl) hO8 ⟨wr.heap.size, 0, none⟩ 1 1 [.int .i64 (x : Int)] (by rfl) rfl hn11 (by simp [Value.oneCell']) (by decide) (by unfold maxLen; omega) (by omega) (by have := hK8.size; omega) ?_
                intro ov9 w9 hO9 hgr9 hwh9
                have hKz := hK8.grown hgr9 (fun k hk => by have := (hO8.lt k hk).1; omega)
                have hQ9 := own_other hQ8 hO8 (by decide) hgr9
                obtain ⟨wa, wc2, rfl⟩ := own_some hO9 (by omega)
                have hOf : w9.ownsRow v0 3 1 (.slice (some ⟨wa, 0, none⟩) (j + 1) wc2) (j + 1) (natsL (mC n c0) (j + 1)) := by
                  rw [natsL_succ, ← HXC.out]
                  exact hO9
                refine hK12.out _ _ ?_ (fun hHeld => ?_)
                · (try dsimp only)
                  exact ⟨hKz.cellSome hmb2, hKz.cellSome hcel7, hKz.cellSome g1⟩
                (try simp only [Act.put, List.setIfInBounds_toArray, List.set_cons_zero, List.set_cons_succ])
                refine wpAnyH_take (i := 13) (oi := { dst := some 10, op := Go.Op.assign (Go.Operand.tmp 140), type := 22, pos := "more.go:34", after := #[{ on := 12, ground := Go.Ground.data }, { on := 12, ground := Go.Ground.chain }, { on := 0, ground := Go.Ground.phase }, { on := 1, ground := Go.Ground.phase }, { on := 2, ground := Go.Ground.phase }, { on := 3, ground := Go.Ground.phase }, { on := 4, ground := Go.Ground.phase }, { on := 5, ground := Go.Ground.phase }, { on := 6, ground := Go.Ground.phase }, { on := 7, ground := Go.Ground.phase }, { on := 8, ground := Go.Ground.phase }, { on := 9, ground := Go.Ground.phase }, { on := 10, ground := Go.Ground.phase }, { on := 11, ground := Go.Ground.phase }, { on := 12, ground := Go.Ground.phase }], guard := none }) (v := ?v66) rfl (by kernel_rfl) (by kernel_rfl) (by kernel_rfl) (fun _ _ _ h => h) (Or.inl ⟨by rfl, ?hy66⟩) (by assumption) ?rs66
                case hy66 =>
                  intro w hSw
                  (try dsimp only at hSw)
                  go_simp
                  try with_reducible rfl
                (try simp only [Act.put, List.setIfInBounds_toArray, List.set_cons_zero, List.set_cons_succ])
                refine wpAnyH_done (by kernel_rfl) ?_ _
                go_wp2_with fail
                go_roundg (min nC 12 - (j + 1))
                case measure => omega
                case rel => exact ⟨j + 1, _, _, by omega, rfl, by go_num, rfl, hOf, hQ9, hKz⟩
              · rw [decide_eq_false hlt3] at e125
                subst e125
                obtain ⟨m, HM⟩ : ∃ m, Hid (m = min nC 12) := ⟨_, rfl⟩
                obtain rfl : j = m := by rw [HM.out]; omega
                have z2 := hKi.cellSome hcel7
                have z5 := hKi.cellSome hcel8
                have hge : w.heap.size ≤ n0 + 1 := by omega
                obtain ⟨f0, f1, t0, t1, r0, r1, hKF⟩ := fin2a hrow (hW.trans hKi) (hKw.trans (hW.trans hKi)) hge (.slice oa n oc) (.slice (some ⟨lb, 0, none⟩) n lc)
                have hrl := (hW.trans hKi).row hrow
                have hR9 : RR wr (n0 + 1 + 1) (.slice oa n oc) (.slice (some ⟨lb, 0, none⟩) n lc) n n (mO p0) (mL p1) := ⟨own_kept hRR.1 hKi, own_kept hRR.2.1 hKi, hRR.2.2⟩
                have hR10 := (hR9.set hrl (by decide) 0 (.slice oa n oc)).set (hrl.set 0 (.slice oa n oc)) (by decide) 1 (.slice (some ⟨lb, 0, none⟩) n lc)
                have hQ10 := own_set (own_set hQ hrl (by decide) 0 (.slice oa n oc)) (hrl.set 0 (.slice oa n oc)) (by decide) 1 (.slice (some ⟨lb, 0, none⟩) n lc)
                have hO10 := own_set (own_set hO hrl (by decide) 0 (.slice oa n oc)) (hrl.set 0 (.slice oa n oc)) (by decide) 1 (.slice (some ⟨lb, 0, none⟩) n lc)
                have hne10 : (Value.slice (some ⟨ca, 0, none⟩) j cc).ownBlock ≠ (Value.slice (some ⟨lb, 0, none⟩) n lc).ownBlock := fun e => by
                  have g1 := (hRR.2.1.lt lb rfl).2
                  have g2 := (hO.lt lb e).1
                  omega
                go_wp2_with fail
                obtain rfl := hnm.out
                obtain rfl := HK.out
                obtain rfl := HM.out
                exact bodyPost_ret (v := .tuple #[.agg #[.slice oa (mN nP) oc, .slice (some ⟨lb, 0, none⟩) (mN nP) lc], .slice va (mK nH) vc, .slice (some ⟨ca, 0, none⟩) (min nC 12) cc]) (by simp [results, Try.results45, go_sem, r0, r1]) rfl ⟨_, _, _, _, rfl, ⟨own_mono hR10.1 (by omega), own_mono hR10.2.1 (by omega), hR10.2.2⟩, own_mono hQ10 (by omega), own_mono hO10 (by omega), hne10, ⟨_, _, rfl⟩, hKF⟩
          · have b1 : ((j : Int) == 0) = false := by simp; omega
            obtain ⟨X, HX⟩ : ∃ X, X = wr := ⟨_, rfl⟩
            have HKj : Hid (K = j) := by show _ = _; rw [HK.out]; unfold mK; omega
            obtain rfl := HKj.out
            have hKX := hKi
            have hQX := hQ
            have hOX := hO
            obtain ⟨va, rfl⟩ : ∃ va, va = ha := ⟨_, rfl⟩
            obtain ⟨vc, rfl⟩ : ∃ vc, vc = hc := ⟨_, rfl⟩
            clear hO hQ hKi HX
            have b9 : ¬ K = 0 := by omega
            go_wp2_with fail
            go_loopg [10, 13] (min nC 12) (fun g s10 s13 wr => ∃ j ca cc, j ≤ min nC 12 ∧ g = min nC 12 - j ∧ s13 = .int .i64 j ∧ s10 = .slice (some ⟨ca, 0, none⟩) j cc ∧ wr.ownsRow v0 3 1 (.slice (some ⟨ca, 0, none⟩) j cc) j (natsL (mC n c0) j) ∧ wr.ownsRow v0 26 2 (.slice va K vc) K (spsL (mH n p1 h0 h1 nH whole) K) ∧ Kept V wr)
            case atStart => exact ⟨0, _, _, Nat.zero_le _, rfl, rfl, rfl, hQX, hOX, hKX⟩
            case round =>
              clear hQX hOX hKX
              obtain ⟨j, ca, cc, hj, rfl, rfl, rfl, hO, hQ, hKi⟩ := hrel
              go_upto_region 17 with fail
              go_cut [125] (fun v125 wx => v125 = .bool (decide (j < min nC 12)) ∧ wx = wr)
              case first =>
                have z1 := hKi.cellSome hmb2
                by_cases c1 : j < nC
                · by_cases c2 : j < 12
                  · have b1 : (j : Int) < (nC : Int) := by omega
                    have b2 : (j : Int) < 12 := by omega
                    have d : Hid (decide (j < min nC 12) = true) := decide_eq_true (by omega)
                    go_wp2_with fail
                    go_meet
                    exact ⟨by rw [d.out], rfl⟩
                  · have b1 : (j : Int) < (nC : Int) := by omega
                    have b2 : ¬ (j : Int) < 12 := by omega
                    have d : Hid (decide (j < min nC 12) = false) := decide_eq_false (by omega)
                    go_wp2_with fail
                    go_meet
                    exact ⟨by rw [d.out], rfl⟩
                · have b1 : ¬ (j : Int) < (nC : Int) := by omega
                  have d : Hid (decide (j < min nC 12) = false) := decide_eq_false (by omega)
                  go_wp2_with fail
                  go_meet
                  exact ⟨by rw [d.out], rfl⟩
              obtain ⟨e125, e126⟩ := hcut
              obtain rfl := e126.symm
              by_cases hlt3 : j < min nC 12
              · rw [decide_eq_true hlt3] at e125
                subst e125
                obtain rfl := haC (by omega)
                obtain ⟨hp, g1⟩ := HC.out j (by omega)
                have z1 := hKi.cellSome hmb2
                have z2 := hKi.cellSome hcel7
                obtain ⟨p, HPp⟩ : ∃ p, Hid (p = c0 j) := ⟨_, rfl⟩
                rw [← HPp.out] at hp g1
                have z3 := hKi.cellSome g1
                obtain ⟨x, HX⟩ : ∃ x, Hid (x = p % n) := ⟨_, rfl⟩
                have hx : x < n := by rw [HX.out]; exact Nat.mod_lt _ (by omega)
                have t1 : Int.tmod (p : Int) (n : Int) = (x : Int) := by rw [HX.out, Int.tmod_eq_emod_of_nonneg (by omega)]; simp
                have HXC : Hid (x = mC n c0 j) := by show _ = _; unfold mC; rw [HX.out, HPp.out]
                have b1 : (j : Int) < (nC : Int) := by omega
                have b3 : ¬ n = 0 := by omega
                have b4 : (0 : Int) ≤ (j : Int) := by omega
                have b5 : IntKind.i64.wrap (p : Int) = (p : Int) := IntWalk.i64_in _ (by omega)
                have b7 : IntKind.i64.wrap (x : Int) = (x : Int) := IntWalk.i64_in _ (by omega)
                have b10 : IntKind.i64.wrap ((j : Int) + 1) = (j : Int) + 1 := IntWalk.i64_in _ (by omega)
                go_upto_region 19 with fail
                refine wp_region_held_drew (S := (fun w' => w'.cell? ⟨n0, 2, none⟩ = some (.slice (some ⟨cb, co, none⟩) nC cC) ∧ w'.cell? ⟨n0 + 1 + 1 + 1 + 1, 0, none⟩ = some (.slice oa n oc) ∧ w'.cell? ⟨cb, co + j, none⟩ = some (.int .u8 (p : Int)))) (by kernel_rfl) ?_ (fun hHeld => ?_)
                · (try dsimp only)
                  exact ⟨z1, z2, z3⟩
                refine wpAnyH_take (i := 0) (oi := { dst := some 128, op := Go.Op.move (Go.Operand.tmp 10), type := 22, pos := "more.go:34", after := #[], guard := none }) (v := ?v67) rfl (by kernel_rfl) (by kernel_rfl) (by kernel_rfl) (fun _ _ _ h => h) (Or.inl ⟨by rfl, ?hy67⟩) (by assumption) ?rs67
                case hy67 =>
                  intro w hSw
                  (try dsimp only at hSw)
                  go_simp
                  try with_reducible rfl
                (try simp only [Act.put, List.setIfInBounds_toArray, List.set_cons_zero, List.set_cons_succ])
                refine wpAnyH_take (i := 1) (oi := { dst := some 129, op := Go.Op.fieldAddr 75 (Go.Operand.tmp 2) 2, type := 0, pos := "more.go:34", after := #[], guard := none }) (v := ?v68) rfl (by kernel_rfl) (by kernel_rfl) (by kernel_rfl) (fun _ _ _ h => h) (Or.inl ⟨by rfl, ?hy68⟩) (by assumption) ?rs68
                case hy68 =>
                  intro w hSw
                  (try dsimp only at hSw)
                  go_simp
                  try with_reducible rfl
                (try simp only [Act.put, List.setIfInBounds_toArray, List.set_cons_zero, List.set_cons_succ])
                refine wpAnyH_take (i := 2) (oi := { dst := some 130, op := Go.Op.load 73 (Go.Operand.tmp 129), type := 73, pos := "more.go:34", after := #[{ on := 1, ground := Go.Ground.data }], guard := none }) (v := ?v69) rfl (by kernel_rfl) (by kernel_rfl) (by kernel_rfl) (fun _ _ _ h => h) (Or.inl ⟨by rfl, ?hy69⟩) (by assumption) ?rs69
                case hy69 =>
                  intro w hSw
                  (try dsimp only at hSw)
                  go_simp
                  try with_reducible rfl
                (try simp only [Act.put, List.setIfInBounds_toArray, List.set_cons_zero, List.set_cons_succ])
                refine wpAnyH_take (i := 3) (oi := { dst := some 131, op := Go.Op.move (Go.Operand.tmp 13), type := 3, pos := "more.go:34", after := #[], guard := none }) (v := ?v70) rfl (by kernel_rfl) (by kernel_rfl) (by kernel_rfl) (fun _ _ _ h => h) (Or.inl ⟨by rfl, ?hy70⟩) (by assumption) ?rs70
                case hy70 =>
                  intro w hSw
                  (try dsimp only at hSw)
                  go_simp
                  try with_reducible rfl
                (try simp only [Act.put, List.setIfInBounds_toArray, List.set_cons_zero, List.set_cons_succ])
                refine wpAnyH_take (i := 4) (oi := { dst := some 132, op := Go.Op.indexAddr 73 (Go.Operand.tmp 130) (Go.Operand.tmp 131), type := 0, pos := "more.go:34", after := #[{ on := 2, ground := Go.Ground.data }, { on := 3, ground := Go.Ground.data }], guard := none }) (v := ?v71) rfl (by kernel_rfl) (by kernel_rfl) (by kernel_rfl) (fun _ _ _ h => h) (Or.inl ⟨by rfl, ?hy71⟩) (by assumption) ?rs71
                case hy71 =>
                  intro w hSw
                  (try dsimp only at hSw)
                  go_simp
                  try with_reducible rfl
                (try simp only [Act.put, List.setIfInBounds_toArray, List.set_cons_zero, List.set_cons_succ])
                refine wpAnyH_take (i := 5) (oi := { dst := some 133, op := Go.Op.load 5 (Go.Operand.tmp 132), type := 5, pos := "more.go:34", after := #[{ on := 4, ground := Go.Ground.data }], guard := none }) (v := ?v72) rfl (by kernel_rfl) (by kernel_rfl) (by kernel_rfl) (fun _ _ _ h => h) (Or.inl ⟨by rfl, ?hy72⟩) (by assumption) ?rs72
                case hy72 =>
                  intro w hSw
                  (try dsimp only at hSw)
                  go_simp
                  try with_reducible rfl
                (try simp only [Act.put, List.setIfInBounds_toArray, List.set_cons_zero, List.set_cons_succ])
                refine wpAnyH_take (i := 6) (oi := { dst := some 134, op := Go.Op.convert 5 3 (Go.Operand.tmp 133), type := 3, pos := "more.go:34", after := #[{ on := 5, ground := Go.Ground.data }], guard := none }) (v := ?v73) rfl (by kernel_rfl) (by kernel_rfl) (by kernel_rfl) (fun _ _ _ h => h) (Or.inl ⟨by rfl, ?hy73⟩) (by assumption) ?rs73
                case hy73 =>
                  intro w hSw
                  (try dsimp only at hSw)
                  go_simp
                  try with_reducible rfl
                (try simp only [Act.put, List.setIfInBounds_toArray, List.set_cons_zero, List.set_cons_succ])
                refine wpAnyH_take (i := 7) (oi := { dst := some 135, op := Go.Op.fieldAddr 24 (Go.Operand.tmp 7) 0, type := 0, pos := "more.go:34", after := #[], guard := none }) (v := ?v74) rfl (by kernel_rfl) (by kernel_rfl) (by kernel_rfl) (fun _ _ _ h => h) (Or.inl ⟨by rfl, ?hy74⟩) (by assumption) ?rs74
                case hy74 =>
                  intro w hSw
                  (try dsimp only at hSw)
                  go_simp
                  try with_reducible rfl
                (try simp only [Act.put, List.setIfInBounds_toArray, List.set_cons_zero, List.set_cons_succ])
                refine wpAnyH_take (i := 8) (oi := { dst := some 136, op := Go.Op.load 22 (Go.Operand.tmp 135), type := 22, pos := "more.go:34", after := #[{ on := 7, ground := Go.Ground.data }], guard := none }) (v := ?v75) rfl (by kernel_rfl) (by kernel_rfl) (by kernel_rfl) (fun _ _ _ h => h) (Or.inl ⟨by rfl, ?hy75⟩) (by assumption) ?rs75
                case hy75 =>
                  intro w hSw
                  (try dsimp only at hSw)
                  go_simp
                  try with_reducible rfl
                (try simp only [Act.put, List.setIfInBounds_toArray, List.set_cons_zero, List.set_cons_succ])
                refine wpAnyH_take (i := 9) (oi := { dst := some 137, op := Go.Op.call { callee := Go.Callee.builtin Go.Builtin.len, args := #[Go.Operand.tmp 136], argTypes := #[22] }, type := 3, pos := "more.go:34", after := #[{ on := 8, ground := Go.Ground.data }], guard := none }) (v := ?v76) rfl (by kernel_rfl) (by kernel_rfl) (by kernel_rfl) (fun _ _ _ h => h) (Or.inl ⟨by rfl, ?hy76⟩) (by assumption) ?rs76
                case hy76 =>
                  intro w hSw
                  (try dsimp only at hSw)
                  go_simp
                  try with_reducible rfl
                (try simp only [Act.put, List.setIfInBounds_toArray, List.set_cons_zero, List.set_cons_succ])
                refine wpAnyH_take (i := 10) (oi := { dst := some 138, op := Go.Op.binOp Go.BinOp.rem 3 (Go.Operand.tmp 134) (Go.Operand.tmp 137) 3, type := 3, pos := "more.go:34", after := #[{ on := 6, ground := Go.Ground.data }, { on := 9, ground := Go.Ground.data }], guard := none }) (v := ?v77) rfl (by kernel_rfl) (by kernel_rfl) (by kernel_rfl) (fun _ _ _ h => h) (Or.inl ⟨by rfl, ?hy77⟩) (by assumption) ?rs77
                case hy77 =>
                  intro w hSw
                  (try dsimp only at hSw)
                  go_simp
                  try with_reducible rfl
                (try simp only [Act.put, List.setIfInBounds_toArray, List.set_cons_zero, List.set_cons_succ])
                refine wpAnyH_ready (rs := [11]) (by kernel_rfl) (by simp) ?_
                refine AllReadyH.cons (o := { dst := some 139, op := Go.Op.buildSlice 22 1 #[(0, Go.Operand.tmp 138)], type := 22, pos := "more.go:34", after := #[{ on := 10, ground := Go.Ground.data }], guard := none }) rfl (fun K11 hK11 => ?_) AllReadyH.nil
                go_simp
                skip
                (try go_wp2_with fail)
                have hka : Kept wr (World.drew (World.alloc wr (.cells #[.int .i64 (x : Int)] 3))) := ((Kept.refl _).alloc _).drew
                have hn11 : ∀ (j : Nat) u, [Value.int .i64 (x : Int)][j]? = some u → (World.drew (World.alloc wr (.cells #[.int .i64 (x : Int)] 3))).cell? ((⟨wr.heap.size, 0, none⟩ : Addr).add j) = some u := cell_one_new wr _ 3
                have hO8 := own_kept hO hka
                have hQ8 := own_kept hQ hka
                have hK8 := hKi.trans hka
                obtain ⟨U, hU⟩ : ∃ U, (World.drew (World.alloc wr (.cells #[.int .i64 (x : Int)] 3))) = U := ⟨_, rfl⟩
                rw [hU] at hn11 hO8 hQ8 hK8 hka ⊢
                clear hU
                refine hK11.out _ _ ?_ (fun hHeld => ?_)
                · (try dsimp only)
                  exact ⟨hka.cellSome z1, hka.cellSome z2, hka.cellSome z3⟩
                (try simp only [Act.put, List.setIfInBounds_toArray, List.set_cons_zero, List.set_cons_succ])
                refine wpAnyH_ready (rs := [12]) (by kernel_rfl) (by simp) ?_
                refine AllReadyH.cons (o := { dst := some 140, op := Go.Op.call { callee := Go.Callee.builtin Go.Builtin.append, args := #[Go.Operand.tmp 128, Go.Operand.tmp 139], argTypes := #[22, 22] }, type := 22, pos := "more.go:34", after := #[{ on := 0, ground := Go.Ground.data }, { on := 11, ground := Go.Ground.data }], guard := none }) rfl (fun K12 hK12 => ?_) AllReadyH.nil
                rw [if_pos (by rfl)]
                refine wp_append_where _ _ _ 22 rfl v0 3 i1 (.int .i64 0) 1 8 Try.underlying22 hi0 hz0 hz1 hz2 rfl (by decide) _ _ _ (by rfl) hO8 ⟨wr.heap.size, 0, none⟩ 1 1 [.int .i64 (x : Int)] (by rfl) rfl hn11 (by simp [Value.oneCell']) (by decide) (by unfold maxLen; omega) (by omega) (by have := hK8.size; omega) ?_
                intro ov9 w9 hO9 hgr9 hwh9
                have hKz := hK8.grown hgr9 (fun k hk => by have := (hO8.lt k hk).1; omega)
                have hQ9 := own_other hQ8 hO8 (by decide) hgr9
                obtain ⟨wa, wc2, rfl⟩ := own_some hO9 (by omega)
                have hOf : w9.ownsRow v0 3 1 (.slice (some ⟨wa, 0, none⟩) (j + 1) wc2) (j + 1) (natsL (mC n c0) (j + 1)) := by
                  rw [natsL_succ, ← HXC.out]
                  exact hO9
                refine hK12.out _ _ ?_ (fun hHeld => ?_)
                · (try dsimp only)
                  exact ⟨hKz.cellSome hmb2, hKz.cellSome hcel7, hKz.cellSome g1⟩
                (try simp only [Act.put, List.setIfInBounds_toArray, List.set_cons_zero, List.set_cons_succ])
                refine wpAnyH_take (i := 13) (oi := { dst := some 10, op := Go.Op.assign (Go.Operand.tmp 140), type := 22, pos := "more.go:34", after := #[{ on := 12, ground := Go.Ground.data }, { on := 12, ground := Go.Ground.chain }, { on := 0, ground := Go.Ground.phase }, { on := 1, ground := Go.Ground.phase }, { on := 2, ground := Go.Ground.phase }, { on := 3, ground := Go.Ground.phase }, { on := 4, ground := Go.Ground.phase }, { on := 5, ground := Go.Ground.phase }, { on := 6, ground := Go.Ground.phase }, { on := 7, ground := Go.Ground.phase }, { on := 8, ground := Go.Ground.phase }, { on := 9, ground := Go.Ground.phase }, { on := 10, ground := Go.Ground.phase }, { on := 11, ground := Go.Ground.phase }, { on := 12, ground := Go.Ground.phase }], guard := none }) (v := ?v78) rfl (by kernel_rfl) (by kernel_rfl) (by kernel_rfl) (fun _ _ _ h => h) (Or.inl ⟨by rfl, ?hy78⟩) (by assumption) ?rs78
                case hy78 =>
                  intro w hSw
                  (try dsimp only at hSw)
                  go_simp
                  try with_reducible rfl
                (try simp only [Act.put, List.setIfInBounds_toArray, List.set_cons_zero, List.set_cons_succ])
                refine wpAnyH_done (by kernel_rfl) ?_ _
                go_wp2_with fail
                go_roundg (min nC 12 - (j + 1))
                case measure => omega
                case rel => exact ⟨j + 1, _, _, by omega, rfl, by go_num, rfl, hOf, hQ9, hKz⟩
              · rw [decide_eq_false hlt3] at e125
                subst e125
                obtain ⟨m, HM⟩ : ∃ m, Hid (m = min nC 12) := ⟨_, rfl⟩
                obtain rfl : j = m := by rw [HM.out]; omega
                have z2 := hKi.cellSome hcel7
                have z5 := hKi.cellSome hcel8
                have hge : w.heap.size ≤ n0 + 1 := by omega
                obtain ⟨f0, f1, t0, t1, r0, r1, hKF⟩ := fin2a hrow (hW.trans hKi) (hKw.trans (hW.trans hKi)) hge (.slice oa n oc) (.slice (some ⟨lb, 0, none⟩) n lc)
                have hrl := (hW.trans hKi).row hrow
                have hR9 : RR wr (n0 + 1 + 1) (.slice oa n oc) (.slice (some ⟨lb, 0, none⟩) n lc) n n (mO p0) (mL p1) := ⟨own_kept hRR.1 hKi, own_kept hRR.2.1 hKi, hRR.2.2⟩
                have hR10 := (hR9.set hrl (by decide) 0 (.slice oa n oc)).set (hrl.set 0 (.slice oa n oc)) (by decide) 1 (.slice (some ⟨lb, 0, none⟩) n lc)
                have hQ10 := own_set (own_set hQ hrl (by decide) 0 (.slice oa n oc)) (hrl.set 0 (.slice oa n oc)) (by decide) 1 (.slice (some ⟨lb, 0, none⟩) n lc)
                have hO10 := own_set (own_set hO hrl (by decide) 0 (.slice oa n oc)) (hrl.set 0 (.slice oa n oc)) (by decide) 1 (.slice (some ⟨lb, 0, none⟩) n lc)
                have hne10 : (Value.slice (some ⟨ca, 0, none⟩) j cc).ownBlock ≠ (Value.slice (some ⟨lb, 0, none⟩) n lc).ownBlock := fun e => by
                  have g1 := (hRR.2.1.lt lb rfl).2
                  have g2 := (hO.lt lb e).1
                  omega
                go_wp2_with fail
                obtain rfl := hnm.out
                obtain rfl := HK.out
                obtain rfl := HM.out
                exact bodyPost_ret (v := .tuple #[.agg #[.slice oa (mN nP) oc, .slice (some ⟨lb, 0, none⟩) (mN nP) lc], .slice va (mK nH) vc, .slice (some ⟨ca, 0, none⟩) (min nC 12) cc]) (by simp [results, Try.results45, go_sem, r0, r1]) rfl ⟨_, _, _, _, rfl, ⟨own_mono hR10.1 (by omega), own_mono hR10.2.1 (by omega), hR10.2.2⟩, own_mono hQ10 (by omega), own_mono hO10 (by omega), hne10, ⟨_, _, rfl⟩, hKF⟩
end Go.Proofs.Ytlgpclnmonpkjaa
