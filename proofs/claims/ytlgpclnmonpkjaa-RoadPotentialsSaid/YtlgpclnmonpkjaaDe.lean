/-
  The reference's paired and Potential.
-/
import Derived.Test.YtlgpclnmonpkjaaDc
import Derived.Test.YtlgpclnmonpkjaaDd
namespace Go.Proofs.Ytlgpclnmonpkjaa
open Go.RowKit Go.Deep

theorem wp_append_own0 {P : Program} (w : World) {o : Oper} {a : Act} {K : Act → World → Prop} {Q : Exit → Act → World → Prop} (s x : Operand) (t : TypeId)
    (ho : o.op = .call { callee := .builtin .append, args := #[s, x], argTypes := #[t, t] })
    (base : Nat) (e : TypeId) (i : TypeInfo) (z : Value) (size bytes : Nat) (ht : P.underlying t = some (.slice e)) (hi : P.info? e = some i) (hz : i.zero = some z)
    (hsize : i.size = size) (hby : i.bytes = bytes) (hzs : z.cells.size = size) (hsz : 0 < size)
    (v : Value) (n : Nat) (xs : List Value) (hs : a.eval s = v) (hown : w.ownsRow base e size v n xs)
    (ad : Addr) (m c : Nat) (news : List Value) (hx : a.eval x = .slice (some ad) m c) (hl : news.length = m * size) (hnews : ∀ j u, news[j]? = some u → w.cell? (ad.add j) = some u) (h1 : ∀ u ∈ news, u.oneCell' = true)
    (h63 : n + m ≤ maxLen) (hbytes : (n + m) * bytes ≤ 140737488355328) (hbase : base ≤ w.heap.size)
    (h : ∀ v' w', w'.ownsRow base e size v' (n + m) (xs ++ news) → w.grownBy w' v.ownBlock → K (a.put o.dst v') w') : o.wp P a w K Q := by
  obtain ⟨v', w', hr, h2, h3, _⟩ := run_append_own (P := P) w base t o.type e i z size bytes ht hi hz hsize hby hzs hsz v n xs hown ad m c news hl hnews h1 h63 hbytes hbase
  unfold Oper.wp execOp
  simp only [ho, resolve, invoke, builtin, Sem.run_bind, Sem.run_pure, Result.andThen_ok, List.map_toArray, List.map_cons, List.map_nil, hs, hx, hr]
  exact h v' w' h2 h3
theorem skF_two (B : Nat → Sp) (i n : Nat) : spsL (fun t => if t < i then B t else B (t - i + (i + 1))) (n - 1) = spsL (skF B i) (n - 1) := spsL_congr _ fun t ht => by
  unfold skF
  split
  · rfl
  · rw [show t - i + (i + 1) = t + 1 by omega]
set_option maxRecDepth 100000 in
set_option maxHeartbeats 8000000 in
theorem rpaired_any (v : Value) (R : Road) (ok : R.Ok) : ∀ (k : Nat), k ≤ 90 → ∀ (w : World) (av bv : Option Addr) (ac bc : Nat) (A B : Nat → Sp), RefAt w v R → SpsAt w (.slice av k ac) k A → k ≤ ac → SpsAt w (.slice bv k bc) k B → k ≤ bc → (∀ t, t < k → R.spot (A t)) → (∀ t, t < k → R.spot (B t)) →
    Calls Try.prog 68 #[v, .slice av k ac, .slice bv k bc] w fun e w' => e = .returned (.int .i64 ((prP R k A B : Nat) : Int)) ∧ Kept w w' := by
  intro k
  induction k with
  | zero =>
    intro _ w av bv ac bc A B hT hA _ hB _ _ _
    obtain ⟨b0, o0, c0, b1, o1, c1, rfl, _, _⟩ := hT.open ok
    obtain ⟨n0, HN0⟩ : ∃ n0, w.heap.size = n0 := ⟨_, rfl⟩
    obtain ⟨W1, hW1, hsz, q0, q1, hK⟩ := newbox2 w n0 HN0 (.slice (some ⟨b0, o0, none⟩) R.n c0) (.slice (some ⟨b1, o1, none⟩) R.n c1) 24
    go_enter Try.func68, Try.ntmps68
    go_wp2_with fail
    go_ret
    exact ⟨rfl, hK⟩
  | succ k ih =>
    intro hk w av bv ac bc A B hT hA hac hB hbc hSA hSB
    obtain ⟨F, HF⟩ : ∃ F : Nat → Nat, Hid (F = fun i => R.dist (A 0) (B i) + prP R k (fun t => A (t + 1)) (skF B i)) := ⟨_, rfl⟩
    have HFL : Hid (∀ i, i < k + 1 → F i ≤ 360 + 360 * k) := by
      show ∀ i, _
      intro i hi
      rw [HF.out]
      have h1 := Road.dist_le ok (hSA 0 (by omega)) (hSB i hi)
      have h2 := prP_le ok k (fun t => A (t + 1)) (skF B i) (fun t ht => hSA (t + 1) (by omega)) (skF_spot hSB)
      show _ + _ ≤ _
      omega
    have hpp : prP R (k + 1) A B = mnB F (k + 1) := by rw [HF.out]; rfl
    have HSK := Lib.hid (fun i => skF_spot (i := i) hSB)
    rw [hpp]
    clear hpp
    have IH := Lib.hid (ih (by omega))
    clear ih
    obtain ⟨n, HNK⟩ : ∃ n, Hid (n = k + 1) := ⟨_, rfl⟩
    rw [← HNK.out] at hk hA hac hB hbc hSA hSB HFL ⊢
    obtain rfl : k = n - 1 := by have := HNK.out; omega
    have hnk : 1 ≤ n := by have := HNK.out; omega
    have hT0 := hT
    obtain ⟨b0, o0, c0, b1, o1, c1, rfl, _, _⟩ := hT.open ok
    obtain ⟨av', ab, ao, ac', e, ha, hca⟩ := hA
    cases e
    obtain ⟨bv', bb, bo, bc', e, hb, hcb⟩ := hB
    cases e
    obtain rfl := ha (by omega)
    obtain rfl := hb (by omega)
    have DI := Lib.hid (fun W (p u q x : Nat) (hW : RefAt W (.agg #[.slice (some ⟨b0, o0, none⟩) R.n c0, .slice (some ⟨b1, o1, none⟩) R.n c1]) R) (hs : R.spot (p, u)) (ht : R.spot (q, x)) => rDistance_any W _ R ok hW (p, u) (q, x) hs ht)
    unfold SpV at DI
    simp only at DI
    obtain ⟨i0, hi0, hz0, hz1, hz2⟩ := info_parts Try.infoSpot
    obtain ⟨n0, HN0⟩ : ∃ n0, w.heap.size = n0 := ⟨_, rfl⟩
    obtain ⟨W1, hW1, hsz, q0, q1, hK⟩ := newbox2 w n0 HN0 (.slice (some ⟨b0, o0, none⟩) R.n c0) (.slice (some ⟨b1, o1, none⟩) R.n c1) 24
    have HCA := Lib.hid (fun i hi => And.intro (hK.cellSome (hca i hi).1) (hK.cellSome (hca i hi).2))
    have HCB := Lib.hid (fun i hi => And.intro (hK.cellSome (hcb i hi).1) (hK.cellSome (hcb i hi).2))
    have HSA := Lib.hid hSA
    have HSB := Lib.hid hSB
    have hT1 := hT0.kept hK
    clear hca hcb hT0 hT hSA hSB
    have e0 : ¬ ((n : Nat) : Int) = 0 := by omega
    go_enter Try.func68, Try.ntmps68
    go_wp2_with fail
    clear hW1 hsz HN0
    go_loopg [7, 8, 9] n (fun g s7 s8 s9 wr => ∃ i : Nat, i ≤ n ∧ g = n - i ∧ s9 = .int .i64 i ∧ s8 = .bool (decide (0 < i)) ∧ s7 = .int .i64 (((if i = 0 then 0 else mnB F i : Nat)) : Int) ∧ Kept W1 wr)
    case atStart => exact ⟨0, Nat.zero_le _, rfl, rfl, rfl, rfl, Kept.refl _⟩
    case round =>
      obtain ⟨i, hle, rfl, rfl, rfl, rfl, hK2⟩ := hrel
      by_cases hlt : i < n
      · obtain ⟨c1', c2'⟩ := HCB.out i hlt
        have n1 : (i : Int) < (n : Int) := by omega
        have n2 : (0 : Int) ≤ (i : Int) := by omega
        have HSI := Lib.hid (HSB.out i hlt)
        obtain ⟨p, HP⟩ : ∃ p : Nat, Hid (p = (B i).1) := ⟨_, rfl⟩
        obtain ⟨u, HU⟩ : ∃ u : Nat, Hid (u = (B i).2) := ⟨_, rfl⟩
        rw [← HP.out] at c1'
        rw [← HU.out] at c2'
        have HPU : Hid (B i = (p, u)) := by show _ = _; rw [HP.out, HU.out]
        rw [HPU.out] at HSI
        have s2 : IntKind.i64.wrap ((i : Int) + 1) = ((i + 1 : Nat) : Int) := by rw [IntWalk.i64_in _ (by omega)]; omega
        have n3 : ((i + 1 : Nat) : Int) ≤ (n : Int) := by omega
        have n4 : (i : Int) ≤ (bc : Int) := by omega
        have n5 : (0 : Int) ≤ (i : Int) + 1 := by omega
        have n6 : (i : Int) + 1 ≤ (n : Int) := by omega
        obtain ⟨nr, HNR⟩ : ∃ nr, Hid (wr.heap.size = nr) := ⟨_, rfl⟩
        have HO0 : Hid (World.ownsRow ((wr.alloc (.cells #[] 26)).drew) nr 26 2 (.slice (some ⟨wr.heap.size, 0, none⟩) 0 0) 0 []) := by show World.ownsRow _ _ _ _ _ _ _; rw [← HNR.out]; exact own_keptY (World.ownsRow_made (base := wr.heap.size) (e := 26) (size := 2) wr #[] 0 (Nat.le_refl _) (Nat.zero_le _) rfl) (Kept.drew (Kept.refl _)) (fun _ _ _ _ _ h => h)
        have HKA : Hid (Kept wr ((wr.alloc (.cells #[] 26)).drew)) := ((Kept.refl wr).alloc _).drew
        have HSF := Lib.hid (skF_two B i n)
        have HN1 : Hid (∀ W, Kept wr W → ∀ (j : Nat) (u : Value), (spsL B i)[j]? = some u → W.cell? ((⟨bb, bo, none⟩ : Addr).add j) = some u) := fun W k6 => spsL_cells (fun t ht => ⟨(hK2.trans k6).cellSome (HCB.out t (by omega)).1, (hK2.trans k6).cellSome (HCB.out t (by omega)).2⟩)
        obtain ⟨ms, HMS⟩ : ∃ ms : Nat, Hid (ms = (if i = 0 then 0 else mnB F i : Nat)) := ⟨_, rfl⟩
        obtain ⟨sb, HSB2⟩ : ∃ sb : Bool, Hid (sb = decide (0 < i)) := ⟨_, rfl⟩
        rw [← HMS.out, ← HSB2.out]
        go_upto_region 7 with fail
        go_cut [10] (fun v10 wx => ∃ ca cc, v10 = .slice ca (n - 1) cc ∧ n - 1 ≤ cc ∧ SpsAt wx (.slice ca (n - 1) cc) (n - 1) (skF B i) ∧ Kept wr wx)
        case first =>
          by_cases hbe : bc = i + 1
          · have hbn : (bc = i + 1) = True := eq_true hbe
            clear hbe
            have hbe := Lib.hid (of_eq_true hbn)
            have HN2 : Hid (∀ W, Kept wr W → ∀ (j : Nat) (u : Value), (spsL (fun t => B (t + (i + 1))) (n - (i + 1)))[j]? = some u → W.cell? ((⟨bb, bo, none⟩ : Addr).add j) = some u) := fun W k6 => spsL_cells (fun t ht => by
              have h4 := HCB.out (t + (i + 1)) (by omega)
              have e1 : bo + (t + (i + 1)) * 2 = bo + t * 2 := by have := hbe.out; omega
              rw [e1] at h4
              exact ⟨(hK2.trans k6).cellSome h4.1, (hK2.trans k6).cellSome h4.2⟩)
            refine wp_region_held_drew (S := (fun w' => Kept wr w')) (by kernel_rfl) ?_ (fun hHeld => ?_)
            · (try dsimp only)
              exact (Kept.refl wr).drew
            refine wpAnyH_take (i := 1) (oi := { dst := some 22, op := Go.Op.move (Go.Operand.tmp 2), type := 36, pos := "ref.go:254", after := #[], guard := none }) (v := ?v1) rfl (by kernel_rfl) (by kernel_rfl) (by kernel_rfl) (fun _ _ _ h => h) (Or.inl ⟨by rfl, ?hy1⟩) (by assumption) ?rs1
            case hy1 =>
              intro w hSw
              (try dsimp only at hSw)
              go_simp
              try with_reducible rfl
            (try simp only [Act.put, List.setIfInBounds_toArray, List.set_cons_zero, List.set_cons_succ])
            refine wpAnyH_take (i := 2) (oi := { dst := some 23, op := Go.Op.move (Go.Operand.tmp 9), type := 3, pos := "ref.go:254", after := #[], guard := none }) (v := ?v2) rfl (by kernel_rfl) (by kernel_rfl) (by kernel_rfl) (fun _ _ _ h => h) (Or.inl ⟨by rfl, ?hy2⟩) (by assumption) ?rs2
            case hy2 =>
              intro w hSw
              (try dsimp only at hSw)
              go_simp
              try with_reducible rfl
            (try simp only [Act.put, List.setIfInBounds_toArray, List.set_cons_zero, List.set_cons_succ])
            refine wpAnyH_take (i := 3) (oi := { dst := some 24, op := Go.Op.slice 36 (Go.Operand.tmp 22) none (some (Go.Operand.tmp 23)) none, type := 36, pos := "ref.go:254", after := #[{ on := 1, ground := Go.Ground.data }, { on := 2, ground := Go.Ground.data }], guard := none }) (v := ?v3) rfl (by kernel_rfl) (by kernel_rfl) (by kernel_rfl) (fun _ _ _ h => h) (Or.inl ⟨by rfl, ?hy3⟩) (by assumption) ?rs3
            case hy3 =>
              intro w hSw
              (try dsimp only at hSw)
              go_simp
              try with_reducible rfl
            (try simp only [Act.put, List.setIfInBounds_toArray, List.set_cons_zero, List.set_cons_succ])
            refine wpAnyH_take (i := 5) (oi := { dst := some 26, op := Go.Op.move (Go.Operand.tmp 2), type := 36, pos := "ref.go:254", after := #[], guard := none }) (v := ?v4) rfl (by kernel_rfl) (by kernel_rfl) (by kernel_rfl) (fun _ _ _ h => h) (Or.inl ⟨by rfl, ?hy4⟩) (by assumption) ?rs4
            case hy4 =>
              intro w hSw
              (try dsimp only at hSw)
              go_simp
              try with_reducible rfl
            (try simp only [Act.put, List.setIfInBounds_toArray, List.set_cons_zero, List.set_cons_succ])
            refine wpAnyH_take (i := 6) (oi := { dst := some 27, op := Go.Op.move (Go.Operand.tmp 9), type := 3, pos := "ref.go:254", after := #[], guard := none }) (v := ?v5) rfl (by kernel_rfl) (by kernel_rfl) (by kernel_rfl) (fun _ _ _ h => h) (Or.inl ⟨by rfl, ?hy5⟩) (by assumption) ?rs5
            case hy5 =>
              intro w hSw
              (try dsimp only at hSw)
              go_simp
              try with_reducible rfl
            (try simp only [Act.put, List.setIfInBounds_toArray, List.set_cons_zero, List.set_cons_succ])
            refine wpAnyH_take (i := 7) (oi := { dst := some 28, op := Go.Op.binOp Go.BinOp.add 3 (Go.Operand.tmp 27) (Go.Operand.const (Go.Value.int Go.IntKind.i64 1)) 3, type := 3, pos := "ref.go:254", after := #[{ on := 6, ground := Go.Ground.data }], guard := none }) (v := ?v6) rfl (by kernel_rfl) (by kernel_rfl) (by kernel_rfl) (fun _ _ _ h => h) (Or.inl ⟨by rfl, ?hy6⟩) (by assumption) ?rs6
            case hy6 =>
              intro w hSw
              (try dsimp only at hSw)
              go_simp
              try with_reducible rfl
            (try simp only [Act.put, List.setIfInBounds_toArray, List.set_cons_zero, List.set_cons_succ])
            refine wpAnyH_take (i := 8) (oi := { dst := some 29, op := Go.Op.slice 36 (Go.Operand.tmp 26) (some (Go.Operand.tmp 28)) none none, type := 36, pos := "ref.go:254", after := #[{ on := 5, ground := Go.Ground.data }, { on := 7, ground := Go.Ground.data }], guard := none }) (v := ?v7) rfl (by kernel_rfl) (by kernel_rfl) (by kernel_rfl) (fun _ _ _ h => h) (Or.inl ⟨by rfl, ?hy7⟩) (by assumption) ?rs7
            case hy7 =>
              intro w hSw
              (try dsimp only at hSw)
              go_simp
              try with_reducible rfl
            (try simp only [Act.put, List.setIfInBounds_toArray, List.set_cons_zero, List.set_cons_succ])
            refine wpAnyH_ready (rs := [0]) (by kernel_rfl) (by simp) ?_
            refine AllReadyH.cons (o := { dst := some 21, op := Go.Op.buildSlice 36 0 #[], type := 36, pos := "ref.go:254", after := #[], guard := none }) rfl (fun K0 hK0 => ?_) AllReadyH.nil
            go_simp
            skip
            (try go_wp2_with fail)
            have hkA : Kept wr _ := HKA.out
            have hO0 := HO0.out
            refine hK0.out _ _ ?_ (fun hHeld => ?_)
            · (try dsimp only)
              exact hkA
            (try simp only [Act.put, List.setIfInBounds_toArray, List.set_cons_zero, List.set_cons_succ])
            refine wpAnyH_ready (rs := [4]) (by kernel_rfl) (by simp) ?_
            refine AllReadyH.cons (o := { dst := some 25, op := Go.Op.call { callee := Go.Callee.builtin Go.Builtin.append, args := #[Go.Operand.tmp 21, Go.Operand.tmp 24], argTypes := #[36, 36] }, type := 36, pos := "ref.go:254", after := #[{ on := 0, ground := Go.Ground.data }, { on := 3, ground := Go.Ground.data }], guard := none }) rfl (fun K4 hK4 => ?_) AllReadyH.nil
            rw [if_pos (by rfl)]
            refine wp_append_own0 _ _ _ 36 rfl nr 26 i0 (.agg #[.int .i64 0, .int .i64 0]) 2 16 Try.underlying36 hi0 hz0 hz1 hz2 rfl (by decide) _ _ _ (by rfl) hO0 ⟨bb, bo, none⟩ i bc (spsL B i) (by rfl) (spsL_len _ _) (HN1.out _ hkA) (spsL_one _ _) ?c3 ?c4 ?c5 ?_
            case c3 => unfold maxLen; omega
            case c4 => omega
            case c5 => rw [← HNR.out]; exact hkA.size
            intro v4 w4 hO4 hgr4
            have hkB : Kept wr w4 := hkA.grown hgr4 (fun k hk => by have := (hO0.lt k hk).1; have := HNR.out; omega)
            rw [Nat.zero_add, List.nil_append] at hO4
            obtain ⟨va4, vc4, rfl⟩ := own_shape hO4
            refine hK4.out _ _ ?_ (fun hHeld => ?_)
            · (try dsimp only)
              exact hkB
            (try simp only [Act.put, List.setIfInBounds_toArray, List.set_cons_zero, List.set_cons_succ])
            refine wpAnyH_ready (rs := [9]) (by kernel_rfl) (by simp) ?_
            refine AllReadyH.cons (o := { dst := some 30, op := Go.Op.call { callee := Go.Callee.builtin Go.Builtin.append, args := #[Go.Operand.tmp 25, Go.Operand.tmp 29], argTypes := #[36, 36] }, type := 36, pos := "ref.go:254", after := #[{ on := 4, ground := Go.Ground.data }, { on := 8, ground := Go.Ground.data }, { on := 4, ground := Go.Ground.chain }], guard := none }) rfl (fun K9 hK9 => ?_) AllReadyH.nil
            rw [if_pos (by rfl)]
            refine wp_append_own0 _ _ _ 36 rfl nr 26 i0 (.agg #[.int .i64 0, .int .i64 0]) 2 16 Try.underlying36 hi0 hz0 hz1 hz2 rfl (by decide) _ _ _ (by rfl) hO4 ⟨bb, bo, none⟩ (n - (i + 1)) (bc - (i + 1)) (spsL (fun t => B (t + (i + 1))) (n - (i + 1))) (by rfl) (spsL_len _ _) (HN2.out _ hkB) (spsL_one _ _) ?c3 ?c4 ?c5 ?_
            case c3 => unfold maxLen; omega
            case c4 => omega
            case c5 => rw [← HNR.out]; exact hkB.size
            intro v9 w9 hO9 hgr9
            have hkC : Kept wr w9 := hkB.grown hgr9 (fun k hk => by have := (hO4.lt k hk).1; have := HNR.out; omega)
            have hO6 : w9.ownsRow nr 26 2 v9 (n - 1) (spsL (skF B i) (n - 1)) := by
              rw [catL_two B (fun t => B (t + (i + 1))) i (n - (i + 1)), show i + (n - (i + 1)) = n - 1 by omega, HSF.out] at hO9
              exact hO9
            obtain ⟨ca, cc, rfl, hcc⟩ := own_cap hO6
            refine hK9.out _ _ ?_ (fun hHeld => ?_)
            · (try dsimp only)
              exact hkC
            (try simp only [Act.put, List.setIfInBounds_toArray, List.set_cons_zero, List.set_cons_succ])
            refine wpAnyH_take (i := 10) (oi := { dst := some 10, op := Go.Op.assign (Go.Operand.tmp 30), type := 36, pos := "ref.go:254", after := #[{ on := 9, ground := Go.Ground.data }, { on := 9, ground := Go.Ground.chain }, { on := 0, ground := Go.Ground.phase }, { on := 1, ground := Go.Ground.phase }, { on := 2, ground := Go.Ground.phase }, { on := 3, ground := Go.Ground.phase }, { on := 4, ground := Go.Ground.phase }, { on := 5, ground := Go.Ground.phase }, { on := 6, ground := Go.Ground.phase }, { on := 7, ground := Go.Ground.phase }, { on := 8, ground := Go.Ground.phase }, { on := 9, ground := Go.Ground.phase }], guard := none }) (v := ?v8) rfl (by kernel_rfl) (by kernel_rfl) (by kernel_rfl) (fun _ _ _ h => h) (Or.inl ⟨by rfl, ?hy8⟩) (by assumption) ?rs8
            case hy8 =>
              intro w hSw
              (try dsimp only at hSw)
              go_simp
              try with_reducible rfl
            (try simp only [Act.put, List.setIfInBounds_toArray, List.set_cons_zero, List.set_cons_succ])
            refine wpAnyH_done (by kernel_rfl) ?_ _
            go_wp2_with fail
            go_meet
            exact ⟨ca, cc, rfl, hcc, SpsAt.of_own hO6, hkC⟩
          · have hbn : (bc = i + 1) = False := eq_false hbe
            clear hbe
            have HN2 : Hid (∀ W, Kept wr W → ∀ (j : Nat) (u : Value), (spsL (fun t => B (t + (i + 1))) (n - (i + 1)))[j]? = some u → W.cell? ((⟨bb, (bo + (i + 1) * 2), none⟩ : Addr).add j) = some u) := fun W k6 => spsL_cells (fun t ht => by
              have h4 := HCB.out (t + (i + 1)) (by omega)
              have e1 : bo + (t + (i + 1)) * 2 = (bo + (i + 1) * 2) + t * 2 := by omega
              rw [e1] at h4
              exact ⟨(hK2.trans k6).cellSome h4.1, (hK2.trans k6).cellSome h4.2⟩)
            refine wp_region_held_drew (S := (fun w' => Kept wr w')) (by kernel_rfl) ?_ (fun hHeld => ?_)
            · (try dsimp only)
              exact (Kept.refl wr).drew
            refine wpAnyH_take (i := 1) (oi := { dst := some 22, op := Go.Op.move (Go.Operand.tmp 2), type := 36, pos := "ref.go:254", after := #[], guard := none }) (v := ?v9) rfl (by kernel_rfl) (by kernel_rfl) (by kernel_rfl) (fun _ _ _ h => h) (Or.inl ⟨by rfl, ?hy9⟩) (by assumption) ?rs9
            case hy9 =>
              intro w hSw
              (try dsimp only at hSw)
              go_simp
              try with_reducible rfl
            (try simp only [Act.put, List.setIfInBounds_toArray, List.set_cons_zero, List.set_cons_succ])
            refine wpAnyH_take (i := 2) (oi := { dst := some 23, op := Go.Op.move (Go.Operand.tmp 9), type := 3, pos := "ref.go:254", after := #[], guard := none }) (v := ?v10) rfl (by kernel_rfl) (by kernel_rfl) (by kernel_rfl) (fun _ _ _ h => h) (Or.inl ⟨by rfl, ?hy10⟩) (by assumption) ?rs10
            case hy10 =>
              intro w hSw
              (try dsimp only at hSw)
              go_simp
              try with_reducible rfl
            (try simp only [Act.put, List.setIfInBounds_toArray, List.set_cons_zero, List.set_cons_succ])
            refine wpAnyH_take (i := 3) (oi := { dst := some 24, op := Go.Op.slice 36 (Go.Operand.tmp 22) none (some (Go.Operand.tmp 23)) none, type := 36, pos := "ref.go:254", after := #[{ on := 1, ground := Go.Ground.data }, { on := 2, ground := Go.Ground.data }], guard := none }) (v := ?v11) rfl (by kernel_rfl) (by kernel_rfl) (by kernel_rfl) (fun _ _ _ h => h) (Or.inl ⟨by rfl, ?hy11⟩) (by assumption) ?rs11
            case hy11 =>
              intro w hSw
              (try dsimp only at hSw)
              go_simp
              try with_reducible rfl
            (try simp only [Act.put, List.setIfInBounds_toArray, List.set_cons_zero, List.set_cons_succ])
            refine wpAnyH_take (i := 5) (oi := { dst := some 26, op := Go.Op.move (Go.Operand.tmp 2), type := 36, pos := "ref.go:254", after := #[], guard := none }) (v := ?v12) rfl (by kernel_rfl) (by kernel_rfl) (by kernel_rfl) (fun _ _ _ h => h) (Or.inl ⟨by rfl, ?hy12⟩) (by assumption) ?rs12
            case hy12 =>
              intro w hSw
              (try dsimp only at hSw)
              go_simp
              try with_reducible rfl
            (try simp only [Act.put, List.setIfInBounds_toArray, List.set_cons_zero, List.set_cons_succ])
            refine wpAnyH_take (i := 6) (oi := { dst := some 27, op := Go.Op.move (Go.Operand.tmp 9), type := 3, pos := "ref.go:254", after := #[], guard := none }) (v := ?v13) rfl (by kernel_rfl) (by kernel_rfl) (by kernel_rfl) (fun _ _ _ h => h) (Or.inl ⟨by rfl, ?hy13⟩) (by assumption) ?rs13
            case hy13 =>
              intro w hSw
              (try dsimp only at hSw)
              go_simp
              try with_reducible rfl
            (try simp only [Act.put, List.setIfInBounds_toArray, List.set_cons_zero, List.set_cons_succ])
            refine wpAnyH_take (i := 7) (oi := { dst := some 28, op := Go.Op.binOp Go.BinOp.add 3 (Go.Operand.tmp 27) (Go.Operand.const (Go.Value.int Go.IntKind.i64 1)) 3, type := 3, pos := "ref.go:254", after := #[{ on := 6, ground := Go.Ground.data }], guard := none }) (v := ?v14) rfl (by kernel_rfl) (by kernel_rfl) (by kernel_rfl) (fun _ _ _ h => h) (Or.inl ⟨by rfl, ?hy14⟩) (by assumption) ?rs14
            case hy14 =>
              intro w hSw
              (try dsimp only at hSw)
              go_simp
              try with_reducible rfl
            (try simp only [Act.put, List.setIfInBounds_toArray, List.set_cons_zero, List.set_cons_succ])
            refine wpAnyH_take (i := 8) (oi := { dst := some 29, op := Go.Op.slice 36 (Go.Operand.tmp 26) (some (Go.Operand.tmp 28)) none none, type := 36, pos := "ref.go:254", after := #[{ on := 5, ground := Go.Ground.data }, { on := 7, ground := Go.Ground.data }], guard := none }) (v := ?v15) rfl (by kernel_rfl) (by kernel_rfl) (by kernel_rfl) (fun _ _ _ h => h) (Or.inl ⟨by rfl, ?hy15⟩) (by assumption) ?rs15
            case hy15 =>
              intro w hSw
              (try dsimp only at hSw)
              go_simp
              try with_reducible rfl
            (try simp only [Act.put, List.setIfInBounds_toArray, List.set_cons_zero, List.set_cons_succ])
            refine wpAnyH_ready (rs := [0]) (by kernel_rfl) (by simp) ?_
            refine AllReadyH.cons (o := { dst := some 21, op := Go.Op.buildSlice 36 0 #[], type := 36, pos := "ref.go:254", after := #[], guard := none }) rfl (fun K0 hK0 => ?_) AllReadyH.nil
            go_simp
            skip
            (try go_wp2_with fail)
            have hkA : Kept wr _ := HKA.out
            have hO0 := HO0.out
            refine hK0.out _ _ ?_ (fun hHeld => ?_)
            · (try dsimp only)
              exact hkA
            (try simp only [Act.put, List.setIfInBounds_toArray, List.set_cons_zero, List.set_cons_succ])
            refine wpAnyH_ready (rs := [4]) (by kernel_rfl) (by simp) ?_
            refine AllReadyH.cons (o := { dst := some 25, op := Go.Op.call { callee := Go.Callee.builtin Go.Builtin.append, args := #[Go.Operand.tmp 21, Go.Operand.tmp 24], argTypes := #[36, 36] }, type := 36, pos := "ref.go:254", after := #[{ on := 0, ground := Go.Ground.data }, { on := 3, ground := Go.Ground.data }], guard := none }) rfl (fun K4 hK4 => ?_) AllReadyH.nil
            rw [if_pos (by rfl)]
            refine wp_append_own0 _ _ _ 36 rfl nr 26 i0 (.agg #[.int .i64 0, .int .i64 0]) 2 16 Try.underlying36 hi0 hz0 hz1 hz2 rfl (by decide) _ _ _ (by rfl) hO0 ⟨bb, bo, none⟩ i bc (spsL B i) (by rfl) (spsL_len _ _) (HN1.out _ hkA) (spsL_one _ _) ?c3 ?c4 ?c5 ?_
            case c3 => unfold maxLen; omega
            case c4 => omega
            case c5 => rw [← HNR.out]; exact hkA.size
            intro v4 w4 hO4 hgr4
            have hkB : Kept wr w4 := hkA.grown hgr4 (fun k hk => by have := (hO0.lt k hk).1; have := HNR.out; omega)
            rw [Nat.zero_add, List.nil_append] at hO4
            obtain ⟨va4, vc4, rfl⟩ := own_shape hO4
            refine hK4.out _ _ ?_ (fun hHeld => ?_)
            · (try dsimp only)
              exact hkB
            (try simp only [Act.put, List.setIfInBounds_toArray, List.set_cons_zero, List.set_cons_succ])
            refine wpAnyH_ready (rs := [9]) (by kernel_rfl) (by simp) ?_
            refine AllReadyH.cons (o := { dst := some 30, op := Go.Op.call { callee := Go.Callee.builtin Go.Builtin.append, args := #[Go.Operand.tmp 25, Go.Operand.tmp 29], argTypes := #[36, 36] }, type := 36, pos := "ref.go:254", after := #[{ on := 4, ground := Go.Ground.data }, { on := 8, ground := Go.Ground.data }, { on := 4, ground := Go.Ground.chain }], guard := none }) rfl (fun K9 hK9 => ?_) AllReadyH.nil
            rw [if_pos (by rfl)]
            refine wp_append_own0 _ _ _ 36 rfl nr 26 i0 (.agg #[.int .i64 0, .int .i64 0]) 2 16 Try.underlying36 hi0 hz0 hz1 hz2 rfl (by decide) _ _ _ (by rfl) hO4 ⟨bb, (bo + (i + 1) * 2), none⟩ (n - (i + 1)) (bc - (i + 1)) (spsL (fun t => B (t + (i + 1))) (n - (i + 1))) (by rfl) (spsL_len _ _) (HN2.out _ hkB) (spsL_one _ _) ?c3 ?c4 ?c5 ?_
            case c3 => unfold maxLen; omega
            case c4 => omega
            case c5 => rw [← HNR.out]; exact hkB.size
            intro v9 w9 hO9 hgr9
            have hkC : Kept wr w9 := hkB.grown hgr9 (fun k hk => by have := (hO4.lt k hk).1; have := HNR.out; omega)
            have hO6 : w9.ownsRow nr 26 2 v9 (n - 1) (spsL (skF B i) (n - 1)) := by
              rw [catL_two B (fun t => B (t + (i + 1))) i (n - (i + 1)), show i + (n - (i + 1)) = n - 1 by omega, HSF.out] at hO9
              exact hO9
            obtain ⟨ca, cc, rfl, hcc⟩ := own_cap hO6
            refine hK9.out _ _ ?_ (fun hHeld => ?_)
            · (try dsimp only)
              exact hkC
            (try simp only [Act.put, List.setIfInBounds_toArray, List.set_cons_zero, List.set_cons_succ])
            refine wpAnyH_take (i := 10) (oi := { dst := some 10, op := Go.Op.assign (Go.Operand.tmp 30), type := 36, pos := "ref.go:254", after := #[{ on := 9, ground := Go.Ground.data }, { on := 9, ground := Go.Ground.chain }, { on := 0, ground := Go.Ground.phase }, { on := 1, ground := Go.Ground.phase }, { on := 2, ground := Go.Ground.phase }, { on := 3, ground := Go.Ground.phase }, { on := 4, ground := Go.Ground.phase }, { on := 5, ground := Go.Ground.phase }, { on := 6, ground := Go.Ground.phase }, { on := 7, ground := Go.Ground.phase }, { on := 8, ground := Go.Ground.phase }, { on := 9, ground := Go.Ground.phase }], guard := none }) (v := ?v16) rfl (by kernel_rfl) (by kernel_rfl) (by kernel_rfl) (fun _ _ _ h => h) (Or.inl ⟨by rfl, ?hy16⟩) (by assumption) ?rs16
            case hy16 =>
              intro w hSw
              (try dsimp only at hSw)
              go_simp
              try with_reducible rfl
            (try simp only [Act.put, List.setIfInBounds_toArray, List.set_cons_zero, List.set_cons_succ])
            refine wpAnyH_done (by kernel_rfl) ?_ _
            go_wp2_with fail
            go_meet
            exact ⟨ca, cc, rfl, hcc, SpsAt.of_own hO6, hkC⟩
        obtain ⟨ca, cc, rfl, hcc6, hS6, hKx⟩ := hcut
        obtain ⟨wx, hwx, hKx⟩ := Kept.called hKx
        subst hwx
        have hK16 := hK2.trans hKx
        have hT6 := hT1.kept hK16
        obtain ⟨x0, x1, _⟩ := keep2 q0 q1 hK16
        obtain ⟨y0', y1', _⟩ := keep2 c1' c2' hK16
        have HSJ := Lib.hid (HSA.out 0 (by omega))
        obtain ⟨q, HQ⟩ : ∃ p : Nat, Hid (p = (A 0).1) := ⟨_, rfl⟩
        obtain ⟨x, HX⟩ : ∃ u : Nat, Hid (u = (A 0).2) := ⟨_, rfl⟩
        have HQX : Hid (A 0 = (q, x)) := by show _ = _; rw [HQ.out, HX.out]
        rw [HQX.out] at HSJ
        have a1 : wx.cell? ⟨ab, ao, none⟩ = some (.int .i64 (q : Int)) := by
          have h4 := (HCA.out 0 (by omega)).1
          rw [Nat.zero_mul, Nat.add_zero] at h4
          rw [HQ.out]
          exact hK16.cellSome h4
        have a2 : wx.cell? ⟨ab, ao + 1, none⟩ = some (.int .i64 (x : Int)) := by
          have h4 := (HCA.out 0 (by omega)).2
          rw [Nat.zero_mul, Nat.add_zero] at h4
          rw [HX.out]
          exact hK16.cellSome h4
        have DI2 := Lib.hid (fun W hW => DI.out W q x p u hW HSJ.out HSI.out)
        obtain ⟨d, HD⟩ : ∃ d, Hid (d = R.dist (q, x) (p, u)) := ⟨_, rfl⟩
        rw [← HD.out] at DI2
        obtain ⟨b, HB⟩ : ∃ b, Hid (b = prP R (n - 1) (fun t => A (t + 1)) (skF B i)) := ⟨_, rfl⟩
        have HFI : Hid (F i = d + b) := by show _ = _; rw [HF.out, HD.out, HB.out, ← HQX.out, ← HPU.out]
        have hfl := HFL.out i hlt
        rw [HFI.out] at hfl
        have s4 : IntKind.i64.wrap ((d : Int) + (b : Int)) = (d : Int) + (b : Int) := IntWalk.i64_in _ (by omega)
        have HNX : Hid (mnB F (i + 1) = min (mnB F i) (d + b)) := by show _ = _; simp only [mnB]; rw [HFI.out]
        have m1 : (0 : Int) < (n : Int) := by omega
        have m0 : 0 < n := by omega
        have m2 : (1 : Int) ≤ (n : Int) := by omega
        have m3 : (1 : Int) ≤ (ac : Int) := by omega
        clear c1' c2' hT1 DI
        go_upto_region 8 with fail
        go_cut [11] (fun v11 wy => v11 = .int .i64 ((d : Int) + (b : Int)) ∧ Kept wx wy)
        case first =>
          by_cases hae : ac = 1
          · have han : (ac = 1) = True := eq_true hae
            clear hae
            have hae := Lib.hid (of_eq_true han)
            have PA := Lib.hid (fun W (k6 : Kept wx W) => IH.out W (some ⟨ab, ao, none⟩) ca (ac - 1) cc (fun t => A (t + 1)) (skF B i) (hT6.kept k6) (show SpsAt W (.slice (some ⟨ab, ao, none⟩) (n - 1) (ac - 1)) (n - 1) (fun t => A (t + 1)) from ⟨_, ab, ao, _, rfl, fun _ => rfl, fun t ht => by
              have h4 := HCA.out (t + 1) (by omega)
              have e1 : ao + (t + 1) * 2 = ao + t * 2 := by have := hae.out; omega
              rw [e1] at h4
              exact ⟨(hK16.trans k6).cellSome h4.1, (hK16.trans k6).cellSome h4.2⟩⟩) (by omega) (hS6.kept k6) hcc6 (fun t ht => HSA.out (t + 1) (by omega)) (fun t ht => HSK.out i t (by omega)))
            rw [← HB.out] at PA
            go_region_held3 (fun w' => w'.cell? ⟨n0, 0, none⟩ = some (.slice (some ⟨b0, o0, none⟩) R.n c0) ∧ w'.cell? ⟨n0, 1, none⟩ = some (.slice (some ⟨b1, o1, none⟩) R.n c1) ∧ w'.cell? ⟨ab, ao, none⟩ = some (.int .i64 (q : Int)) ∧ w'.cell? ⟨ab, ao + 1, none⟩ = some (.int .i64 (x : Int)) ∧ w'.cell? ⟨bb, bo + i * 2, none⟩ = some (.int .i64 (p : Int)) ∧ w'.cell? ⟨bb, bo + i * 2 + 1, none⟩ = some (.int .i64 (u : Int)) ∧ Kept wx w')
              (exact keep6 x0 x1 a1 a2 y0' y1' (by repeat (first | assumption | exact Kept.refl _ | apply Kept.drew | apply Kept.drewN | apply Kept.alloc | refine Kept.trans ?_ (by assumption))))
              (first | (go_at_call 20; refine (DI2.out _ (hT6.kept (by repeat (first | assumption | exact Kept.refl _ | apply Kept.drew | apply Kept.drewN | apply Kept.alloc | refine Kept.trans ?_ (by assumption))))).mono ?_; rintro e w7 ⟨rfl, hk7⟩) | (go_at_call 68; refine (PA.out _ (by repeat (first | assumption | exact Kept.refl _ | apply Kept.drew | apply Kept.drewN | apply Kept.alloc | refine Kept.trans ?_ (by assumption)))).mono ?_; rintro e w8 ⟨rfl, hk8⟩))
            all_goals
              go_wp2_with fail
              go_meet
              exact ⟨rfl, (by repeat (first | assumption | exact Kept.refl _ | apply Kept.drew | apply Kept.drewN | apply Kept.alloc | refine Kept.trans ?_ (by assumption)))⟩
          · have han : (ac = 1) = False := eq_false hae
            clear hae
            have PA := Lib.hid (fun W (k6 : Kept wx W) => IH.out W (some ⟨ab, ao + 2, none⟩) ca (ac - 1) cc (fun t => A (t + 1)) (skF B i) (hT6.kept k6) (show SpsAt W (.slice (some ⟨ab, ao + 2, none⟩) (n - 1) (ac - 1)) (n - 1) (fun t => A (t + 1)) from ⟨_, ab, ao + 2, _, rfl, fun _ => rfl, fun t ht => by
              have h4 := HCA.out (t + 1) (by omega)
              have e1 : ao + (t + 1) * 2 = ao + 2 + t * 2 := by omega
              rw [e1] at h4
              exact ⟨(hK16.trans k6).cellSome h4.1, (hK16.trans k6).cellSome h4.2⟩⟩) (by omega) (hS6.kept k6) hcc6 (fun t ht => HSA.out (t + 1) (by omega)) (fun t ht => HSK.out i t (by omega)))
            rw [← HB.out] at PA
            go_region_held3 (fun w' => w'.cell? ⟨n0, 0, none⟩ = some (.slice (some ⟨b0, o0, none⟩) R.n c0) ∧ w'.cell? ⟨n0, 1, none⟩ = some (.slice (some ⟨b1, o1, none⟩) R.n c1) ∧ w'.cell? ⟨ab, ao, none⟩ = some (.int .i64 (q : Int)) ∧ w'.cell? ⟨ab, ao + 1, none⟩ = some (.int .i64 (x : Int)) ∧ w'.cell? ⟨bb, bo + i * 2, none⟩ = some (.int .i64 (p : Int)) ∧ w'.cell? ⟨bb, bo + i * 2 + 1, none⟩ = some (.int .i64 (u : Int)) ∧ Kept wx w')
              (exact keep6 x0 x1 a1 a2 y0' y1' (by repeat (first | assumption | exact Kept.refl _ | apply Kept.drew | apply Kept.drewN | apply Kept.alloc | refine Kept.trans ?_ (by assumption))))
              (first | (go_at_call 20; refine (DI2.out _ (hT6.kept (by repeat (first | assumption | exact Kept.refl _ | apply Kept.drew | apply Kept.drewN | apply Kept.alloc | refine Kept.trans ?_ (by assumption))))).mono ?_; rintro e w7 ⟨rfl, hk7⟩) | (go_at_call 68; refine (PA.out _ (by repeat (first | assumption | exact Kept.refl _ | apply Kept.drew | apply Kept.drewN | apply Kept.alloc | refine Kept.trans ?_ (by assumption)))).mono ?_; rintro e w8 ⟨rfl, hk8⟩))
            all_goals
              go_wp2_with fail
              go_meet
              exact ⟨rfl, (by repeat (first | assumption | exact Kept.refl _ | apply Kept.drew | apply Kept.drewN | apply Kept.alloc | refine Kept.trans ?_ (by assumption)))⟩
        obtain ⟨rfl, hKy⟩ := hcut
        obtain ⟨wy, hwy, hKy⟩ := Kept.called hKy
        subst hwy
        have hms := HMS.out
        by_cases hi0' : i = 0
        · have hm0 : mnB F i = 1048576 := by rw [hi0']; rfl
          rw [hm0] at HNX
          clear hms
          obtain rfl : sb = false := by rw [HSB2.out, hi0']; rfl
          clear hm0
          go_wp2_with fail
          go_roundg (n - (i + 1))
          case measure => omega
          case rel => exact ⟨i + 1, by omega, rfl, by go_num, by simp, by rw [if_neg (by omega), HNX.out]; congr 1; omega, hK16.trans hKy⟩
        · rw [if_neg hi0'] at hms
          obtain rfl : sb = true := by rw [HSB2.out]; simp; omega
          rw [← hms] at HNX
          clear hms
          by_cases hlt4 : d + b < ms
          · have n7 : (d : Int) + (b : Int) < (ms : Int) := by omega
            go_wp2_with fail
            go_roundg (n - (i + 1))
            case measure => omega
            case rel => exact ⟨i + 1, by omega, rfl, by go_num, by simp, by rw [if_neg (by omega), HNX.out]; congr 1; omega, hK16.trans hKy⟩
          · have n7 : ¬ (d : Int) + (b : Int) < (ms : Int) := by omega
            go_wp2_with fail
            go_roundg (n - (i + 1))
            case measure => omega
            case rel => exact ⟨i + 1, by omega, rfl, by go_num, by simp, by rw [if_neg (by omega), HNX.out]; congr 1; omega, hK16.trans hKy⟩
      · obtain rfl : i = n := by omega
        have hin : ¬ i = 0 := by omega
        rw [if_neg hin]
        go_wp2_with fail
        go_ret
        exact ⟨rfl, hK.trans hK2⟩
set_option maxRecDepth 100000 in
set_option maxHeartbeats 4000000 in
theorem rPotential_any (w : World) (v : Value) (R : Road) (ok : R.Ok) (k : Nat) (hk : k ≤ 90) (av bv : Option Addr) (ac bc : Nat) (A B : Nat → Sp) (hT : RefAt w v R) (hA : SpsAt w (.slice av k ac) k A) (hac : k ≤ ac) (hB : SpsAt w (.slice bv k bc) k B) (hbc : k ≤ bc) (hSA : ∀ t, t < k → R.spot (A t)) (hSB : ∀ t, t < k → R.spot (B t)) :
    Calls Try.prog 44 #[v, .slice av k ac, .slice bv k bc] w fun e w' => e = .returned (.int .i64 ((potP R k A B : Nat) : Int)) ∧ Kept w w' := by
  have hT0 := hT
  obtain ⟨b0, o0, c0, b1, o1, c1, rfl, _, _⟩ := hT.open ok
  have PA := Lib.hid (fun W (k6 : Kept w W) => rpaired_any _ R ok k hk W av bv ac bc A B (hT0.kept k6) (hA.kept k6) hac (hB.kept k6) hbc hSA hSB)
  have AP := Lib.hid (fun W (k6 : Kept w W) => rPairs_any W _ _ R ok (hT0.kept k6) k A (hA.kept k6) (by omega) hSA)
  have hb := prP_le ok k A B hSA hSB
  have hd := apN_le ok hSA (by omega) k (Nat.le_refl _)
  obtain ⟨b, HB⟩ : ∃ b, Hid (b = prP R k A B) := ⟨_, rfl⟩
  obtain ⟨d, HD⟩ : ∃ d, Hid (d = apN R A k) := ⟨_, rfl⟩
  have HPP : Hid (potP R k A B = k * b + d) := by show _ = _; rw [HB.out, HD.out]; rfl
  rw [← HB.out] at hb PA
  rw [← HD.out] at hd AP
  have hkb : k * b ≤ 90 * 32400 := Nat.mul_le_mul hk (by omega)
  have e1 : (k : Int) * (b : Int) = ((k * b : Nat) : Int) := by simp
  have s1 : IntKind.i64.wrap ((k : Int) * (b : Int)) = ((k * b : Nat) : Int) := by rw [e1]; exact IntWalk.i64_in _ (by omega)
  obtain ⟨kb, HKB⟩ : ∃ kb, Hid (kb = k * b) := ⟨_, rfl⟩
  rw [← HKB.out] at s1 hkb
  have s2 : IntKind.i64.wrap ((kb : Int) + (d : Int)) = (kb : Int) + (d : Int) := IntWalk.i64_in _ (by omega)
  obtain ⟨n0, HN0⟩ : ∃ n0, w.heap.size = n0 := ⟨_, rfl⟩
  obtain ⟨W1, hW1, hsz, q0, q1, hK⟩ := newbox2 w n0 HN0 (.slice (some ⟨b0, o0, none⟩) R.n c0) (.slice (some ⟨b1, o1, none⟩) R.n c1) 24
  clear hT hT0 hA hB hSA hSB e1
  go_enter Try.func44, Try.ntmps44
  go_upto_region 1 with fail
  clear hW1 hsz HN0
  go_region_held3 (fun w' => w'.cell? ⟨n0, 0, none⟩ = some (.slice (some ⟨b0, o0, none⟩) R.n c0) ∧ w'.cell? ⟨n0, 1, none⟩ = some (.slice (some ⟨b1, o1, none⟩) R.n c1) ∧ Kept W1 w')
    (exact keep2 q0 q1 (by repeat (first | assumption | exact Kept.refl _ | apply Kept.drew | apply Kept.drewN | apply Kept.alloc | refine Kept.trans ?_ (by assumption))))
    (first | (go_at_call 68; refine (PA.out _ (hK.trans (by repeat (first | assumption | exact Kept.refl _ | apply Kept.drew | apply Kept.drewN | apply Kept.alloc | refine Kept.trans ?_ (by assumption))))).mono ?_; rintro e w7 ⟨rfl, hk7⟩) | (go_at_call 69; refine (AP.out _ (hK.trans (by repeat (first | assumption | exact Kept.refl _ | apply Kept.drew | apply Kept.drewN | apply Kept.alloc | refine Kept.trans ?_ (by assumption))))).mono ?_; rintro e w8 ⟨rfl, hk8⟩))
  all_goals
    go_wp2_with fail
    go_ret
    exact ⟨by rw [HPP.out, ← HKB.out]; congr 1, hK.trans (by repeat (first | assumption | exact Kept.refl _ | apply Kept.drew | apply Kept.drewN | apply Kept.alloc | refine Kept.trans ?_ (by assumption)))⟩
end Go.Proofs.Ytlgpclnmonpkjaa
