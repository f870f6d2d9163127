/-
  Package herd: equal.
-/
import Derived.Test.YtlnlddnjalfamaaGreatDoorIc
import Derived.Test.YtlnlddnjalfamaaGreatDoorHi
namespace Go.Proofs.YtlnlddnjalfamaaGreatDoor
open Go.RowKit Go.Deep Go.Shelf

theorem row_ne {w : World} {a b n m : Nat} {s t : TypeId} {f g : Nat → Value} (h : w.rowIs a s n f) (k : w.rowIs b t m g) (hst : s ≠ t) : a ≠ b := fun e => by
  subst e
  obtain ⟨c, h1, _⟩ := h
  obtain ⟨d, h2, _⟩ := k
  rw [h1] at h2
  injection h2 with h2
  injection h2 with _ h2
  exact hst h2
theorem mkNats (n : Nat) (hn : n ≤ 1000000) (w : World) :
    (Instr.makeSlice 98 (.int .i64 n) (.int .i64 n)).run Tryz.prog w = .ok (.slice (some ⟨w.heap.size, 0, none⟩) n n) (w.alloc (.cells (madeCells #[.slice none 0 0] n) 130)) :=
  run_make_row' (P := Tryz.prog) 98 130 (.slice none 0 0) 24 Tryz.underlying98 Tryz.infoNat rfl .i64 .i64 n (by omega) (by omega) w
/-- 1 at the first k numbers of a list -/
def memZ (L : List Nat) (k t : Nat) : Int := if t ∈ L.take k then 1 else 0
theorem memZ_succ (L : List Nat) (k : Nat) (h : k < L.length) : updZ (memZ L k) (L.getD k 0) 1 = memZ L (k + 1) := by
  funext t
  unfold updZ memZ
  rw [take_snoc h]
  by_cases e : t = L.getD k 0
  · rw [if_pos e, if_pos (by rw [e]; simp)]
  · rw [if_neg e]
    by_cases h2 : t ∈ L.take k
    · rw [if_pos h2, if_pos (List.mem_append_left _ h2)]
    · rw [if_neg h2, if_neg (fun h3 => by
        rcases List.mem_append.1 h3 with h4 | h4
        · exact h2 h4
        · exact e (by simpa using h4))]
def EqualPost (w : World) (n s : Nat) (e : Ending) (w' : World) : Prop :=
  ∃ g gf, e = .returned (.agg #[(.slice (some ⟨g, 0, none⟩) n n), (.slice (some ⟨gf, 0, none⟩) 1 1)]) ∧ Kept w w' ∧ w.heap.size ≤ g ∧ PartsAt w' g n n (memZ (horsesL s 9) (horsesL s 9).length) ∧ CellsAt w' (.slice (some ⟨gf, 0, none⟩) 1 1) 1 (fun _ => .int .u64 ((size16 s : Nat) : Int))
set_option maxRecDepth 100000 in
set_option maxHeartbeats 8000000 in
theorem equal_any (w : World) (n s : Nat) (hn : n ≤ 9) (hs : s < 65536) (hbit : ∀ j, s.testBit j = true → j < n) :
    Calls Tryz.prog 63 #[.int .i64 n, .int .u16 s] w (EqualPost w n s) := by
  have SZ := Lib.hid (fun W => size_any W s hs)
  have SM := Lib.hid (fun W => small_any W 1 (by omega))
  have HO := Lib.hid (fun W => horses_any W s hs)
  have hmk := fun W => mkNats n (by omega) W
  have hsz : size16 s ≤ 16 := by
    unfold size16
    exact cnt_le _ _
  have hcv : IntKind.u64.wrap ((size16 s : Nat) : Int) = ((size16 s : Nat) : Int) := by
    have : ((size16 s : Nat) : Int) ≤ 16 := by omega
    exact IntWalk.u64_in _ (by omega)
  obtain ⟨L, HL⟩ : ∃ L, Hid (L = horsesL s 9) := ⟨_, rfl⟩
  have hLn : ∀ i, i < L.length → L.getD i 0 < n := fun i hi => hbit _ (horsesL_bit (k := 9) (by rw [← HL.out]; exact getD_mem hi))
  have hLl : L.length ≤ 9 := by
    rw [HL.out]
    unfold horsesL
    exact Nat.le_trans (List.length_filter_le _ _) (by simp)
  have HLN := Lib.hid hLn
  unfold EqualPost
  rw [← HL.out] at HO ⊢
  clear hLn
  have hkW : Kept w (w.alloc (.cells #[.slice none 0 0, .slice none 0 0] 101)) := (Kept.refl w).alloc _
  have hr0 := bx2_row w (.slice none 0 0) (.slice none 0 0) 101
  have hW0 : w.heap.size < (w.alloc (.cells #[.slice none 0 0, .slice none 0 0] 101)).heap.size := by simp
  go_enter Tryz.func63, Tryz.ntmps63
  go_upto_region 1 with fail
  go_outline
  generalize w.alloc (.cells #[.slice none 0 0, .slice none 0 0] 101) = W0 at *
  go_cut [5] (fun v5 wx => ∃ z g gf, v5 = .pointer (some ⟨z, 0, none⟩) ∧ Kept w wx ∧ w.heap.size < z ∧ w.heap.size < g ∧ wx.rowIs w.heap.size 101 2 (bx2 (.slice none 0 0) (.slice none 0 0)) ∧ wx.rowIs z 101 2 (bx2 (.slice (some ⟨g, 0, none⟩) n n) (.slice (some ⟨gf, 0, none⟩) 1 1)) ∧ wx.rowIs g 130 n (fun _ => .slice none 0 0) ∧ wx.cell? ⟨gf, 0, none⟩ = some (.int .u64 ((size16 s : Nat) : Int)))
  case first =>
    refine wp_region_held_drew (S := (fun _ => True)) (by kernel_rfl) ?_ (fun hHeld => ?_)
    · (try dsimp only)
      all_goals trivial
    have hkd : Kept W0 W0.drew := (Kept.refl _).drew
    generalize W0.drew = Wd at *
    refine wpAnyH_take (i := 0) (oi := { dst := some 8, op := Go.Op.move (Go.Operand.tmp 0), type := 3, pos := "load.go:63", after := #[], guard := none }) (v := ?v1) rfl (by kernel_rfl) (by kernel_rfl) (by kernel_rfl) (fun _ _ _ h => h) (Or.inl ⟨by rfl, ?hy1⟩) (by assumption) ?rs1
    case hy1 =>
      intro w hSw
      (try dsimp only at hSw)
      go_simp
      try with_reducible rfl
    (try simp only [Act.put, List.setIfInBounds_toArray, List.set_cons_zero, List.set_cons_succ])
    refine wpAnyH_take (i := 2) (oi := { dst := some 10, op := Go.Op.move (Go.Operand.tmp 1), type := 84, pos := "load.go:63", after := #[], guard := none }) (v := ?v2) rfl (by kernel_rfl) (by kernel_rfl) (by kernel_rfl) (fun _ _ _ h => h) (Or.inl ⟨by rfl, ?hy2⟩) (by assumption) ?rs2
    case hy2 =>
      intro w hSw
      (try dsimp only at hSw)
      go_simp
      try with_reducible rfl
    (try simp only [Act.put, List.setIfInBounds_toArray, List.set_cons_zero, List.set_cons_succ])
    refine wpAnyH_ready (rs := [1, 3, 7]) (by kernel_rfl) (by simp) ?_
    refine AllReadyH.cons (o := { dst := some 9, op := Go.Op.makeSlice 98 (Go.Operand.tmp 8) (Go.Operand.tmp 8), type := 98, pos := "load.go:63", after := #[{ on := 0, ground := Go.Ground.data }, { on := 0, ground := Go.Ground.data }], guard := none }) rfl (fun K1 hK1 => ?_) (AllReadyH.cons (o := { dst := some 11, op := Go.Op.call { callee := Go.Callee.value (Go.Operand.func 44), args := #[Go.Operand.tmp 10], argTypes := #[84] }, type := 3, pos := "load.go:63", after := #[{ on := 2, ground := Go.Ground.data }], guard := none }) rfl (fun K3 hK3 => ?_) (AllReadyH.cons (o := { dst := some 5, op := Go.Op.alloc 101, type := 0, pos := "load.go:63", after := #[], guard := none }) rfl (fun K7 hK7 => ?_) AllReadyH.nil))
    · skip
      go_simp
      skip
      (try go_wp2_with fail)
      have hk1 : Kept Wd (Wd.alloc (.cells (madeCells #[.slice none 0 0] n) 130)) := (Kept.refl _).alloc _
      have hg1 := World.rowIs_made Wd (.slice none 0 0) n 130
      have hgw : W0.heap.size ≤ Wd.heap.size := Kept.size (show Kept W0 Wd from (by repeat (first | assumption | exact Kept.refl _ | apply Kept.drew | apply Kept.drewN | apply Kept.alloc | refine Kept.trans ?_ (by assumption))))
      generalize Wd.alloc (.cells (madeCells #[.slice none 0 0] n) 130) = u1 at *
      obtain ⟨g, HG⟩ : ∃ g, Hid (g = Wd.heap.size) := ⟨_, rfl⟩
      rw [← HG.out] at hg1 hgw ⊢
      clear HG
      refine hK1.out _ _ ?_ (fun hHeld => ?_)
      · (try dsimp only)
        all_goals trivial
      (try simp only [Act.put, List.setIfInBounds_toArray, List.set_cons_zero, List.set_cons_succ])
      refine wpAnyH_ready (rs := [3, 7]) (by kernel_rfl) (by simp) ?_
      refine AllReadyH.cons (o := { dst := some 11, op := Go.Op.call { callee := Go.Callee.value (Go.Operand.func 44), args := #[Go.Operand.tmp 10], argTypes := #[84] }, type := 3, pos := "load.go:63", after := #[{ on := 2, ground := Go.Ground.data }], guard := none }) rfl (fun K3 hK3 => ?_) (AllReadyH.cons (o := { dst := some 5, op := Go.Op.alloc 101, type := 0, pos := "load.go:63", after := #[], guard := none }) rfl (fun K7 hK7 => ?_) AllReadyH.nil)
      · skip
        go_simp
        (go_at_call 44; refine (SZ.out _).mono ?_; rintro e u3 ⟨rfl, hq3⟩)
        (try go_wp2_with fail)
        have hk3 := hq3.kept
        refine hK3.out _ _ ?_ (fun hHeld => ?_)
        · (try dsimp only)
          all_goals trivial
        (try simp only [Act.put, List.setIfInBounds_toArray, List.set_cons_zero, List.set_cons_succ])
        refine wpAnyH_take (i := 4) (oi := { dst := some 12, op := Go.Op.convert 3 69 (Go.Operand.tmp 11), type := 69, pos := "load.go:63", after := #[{ on := 3, ground := Go.Ground.data }], guard := none }) (v := ?v3) rfl (by kernel_rfl) (by kernel_rfl) (by kernel_rfl) (fun _ _ _ h => h) (Or.inl ⟨by rfl, ?hy3⟩) (by assumption) ?rs3
        case hy3 =>
          intro w hSw
          (try dsimp only at hSw)
          go_simp
          try with_reducible rfl
        (try simp only [Act.put, List.setIfInBounds_toArray, List.set_cons_zero, List.set_cons_succ])
        refine wpAnyH_ready (rs := [5, 7]) (by kernel_rfl) (by simp) ?_
        refine AllReadyH.cons (o := { dst := some 13, op := Go.Op.buildSlice 99 1 #[(0, Go.Operand.tmp 12)], type := 99, pos := "load.go:63", after := #[{ on := 4, ground := Go.Ground.data }], guard := none }) rfl (fun K5 hK5 => ?_) (AllReadyH.cons (o := { dst := some 5, op := Go.Op.alloc 101, type := 0, pos := "load.go:63", after := #[], guard := none }) rfl (fun K7 hK7 => ?_) AllReadyH.nil)
        · skip
          go_simp
          skip
          (try go_wp2_with fail)
          have hk5 : Kept u3 (u3.alloc (.cells #[.int .u64 ((size16 s : Nat) : Int)] 69)) := (Kept.refl _).alloc _
          have hf5 := (cell_newbox u3 (.int .u64 ((size16 s : Nat) : Int)) 69).1
          generalize u3.alloc (.cells #[.int .u64 ((size16 s : Nat) : Int)] 69) = u5 at *
          obtain ⟨gf, HG⟩ : ∃ g, Hid (g = u3.heap.size) := ⟨_, rfl⟩
          rw [← HG.out] at hf5 ⊢
          clear HG
          refine hK5.out _ _ ?_ (fun hHeld => ?_)
          · (try dsimp only)
            all_goals trivial
          (try simp only [Act.put, List.setIfInBounds_toArray, List.set_cons_zero, List.set_cons_succ])
          refine wpAnyH_take (i := 6) (oi := { dst := some 14, op := Go.Op.build 101 #[(0, Go.Operand.tmp 9), (1, Go.Operand.tmp 13)], type := 101, pos := "load.go:63", after := #[{ on := 1, ground := Go.Ground.data }, { on := 5, ground := Go.Ground.data }], guard := none }) (v := ?v4) rfl (by kernel_rfl) (by kernel_rfl) (by kernel_rfl) (fun _ _ _ h => h) (Or.inl ⟨by rfl, ?hy4⟩) (by assumption) ?rs4
          case hy4 =>
            intro w hSw
            (try dsimp only at hSw)
            go_simp
            try with_reducible rfl
          (try simp only [Act.put, List.setIfInBounds_toArray, List.set_cons_zero, List.set_cons_succ])
          refine wpAnyH_ready (rs := [7]) (by kernel_rfl) (by simp) ?_
          refine AllReadyH.cons (o := { dst := some 5, op := Go.Op.alloc 101, type := 0, pos := "load.go:63", after := #[], guard := none }) rfl (fun K7 hK7 => ?_) AllReadyH.nil
          go_simp
          skip
          (try go_wp2_with fail)
          have hk7 : Kept u5 (u5.alloc (.cells #[.slice none 0 0, .slice none 0 0] 101)) := (Kept.refl _).alloc _
          have hz7 := bx2_row u5 (.slice none 0 0) (.slice none 0 0) 101
          have hzw : W0.heap.size ≤ u5.heap.size := Kept.size (show Kept W0 u5 from (by repeat (first | assumption | exact Kept.refl _ | apply Kept.drew | apply Kept.drewN | apply Kept.alloc | refine Kept.trans ?_ (by assumption))))
          generalize u5.alloc (.cells #[.slice none 0 0, .slice none 0 0] 101) = u7 at *
          obtain ⟨z, HG⟩ : ∃ g, Hid (g = u5.heap.size) := ⟨_, rfl⟩
          rw [← HG.out] at hz7 hzw ⊢
          clear HG
          refine hK7.out _ _ ?_ (fun hHeld => ?_)
          · (try dsimp only)
            all_goals trivial
          (try simp only [Act.put, List.setIfInBounds_toArray, List.set_cons_zero, List.set_cons_succ])
          refine wpAnyH_ready (rs := [8]) (by kernel_rfl) (by simp) ?_
          refine AllReadyH.cons (o := { dst := none, op := Go.Op.store 101 (Go.Operand.tmp 5) (Go.Operand.tmp 14), type := 0, pos := "load.go:63", after := #[{ on := 7, ground := Go.Ground.data }, { on := 6, ground := Go.Ground.data }, { on := 3, ground := Go.Ground.chain }, { on := 0, ground := Go.Ground.phase }, { on := 1, ground := Go.Ground.phase }, { on := 2, ground := Go.Ground.phase }, { on := 3, ground := Go.Ground.phase }, { on := 4, ground := Go.Ground.phase }, { on := 5, ground := Go.Ground.phase }, { on := 6, ground := Go.Ground.phase }, { on := 7, ground := Go.Ground.phase }], guard := none }) rfl (fun K8 hK8 => ?_) AllReadyH.nil
          have hz8 := (show Kept u7 u7 from (by repeat (first | assumption | exact Kept.refl _ | apply Kept.drew | apply Kept.drewN | apply Kept.alloc | refine Kept.trans ?_ (by assumption)))).row hz7
          obtain ⟨q0, q1, q2, q3⟩ := bx2_cells hz8
          go_simp
          skip
          (try go_wp2_with fail)
          have hg8 := (show Kept u1 u7 from (by repeat (first | assumption | exact Kept.refl _ | apply Kept.drew | apply Kept.drewN | apply Kept.alloc | refine Kept.trans ?_ (by assumption)))).row hg1
          have hf8 := Kept.cellSome (show Kept u5 u7 from (by repeat (first | assumption | exact Kept.refl _ | apply Kept.drew | apply Kept.drewN | apply Kept.alloc | refine Kept.trans ?_ (by assumption)))) hf5
          have hr8 := (show Kept W0 u7 from (by repeat (first | assumption | exact Kept.refl _ | apply Kept.drew | apply Kept.drewN | apply Kept.alloc | refine Kept.trans ?_ (by assumption)))).row hr0
          have hkw8 : Kept W0 u7 := (by repeat (first | assumption | exact Kept.refl _ | apply Kept.drew | apply Kept.drewN | apply Kept.alloc | refine Kept.trans ?_ (by assumption)))
          have ngz : g ≠ z := fun e => row_ne hg8 hz8 (by decide) e
          have nrz : w.heap.size ≠ z := by omega
          have hz9 := bx2_set1 (bx2_set0 hz8 (.slice (some ⟨g, 0, none⟩) n n)) (.slice (some ⟨gf, 0, none⟩) 1 1)
          have hg9 := (hg8.setOther (a := ⟨z, 0, none⟩) ngz (.slice (some ⟨g, 0, none⟩) n n)).setOther (a := ⟨z, 1, none⟩) ngz (.slice (some ⟨gf, 0, none⟩) 1 1)
          have hr9 := (hr8.setOther (a := ⟨z, 0, none⟩) nrz (.slice (some ⟨g, 0, none⟩) n n)).setOther (a := ⟨z, 1, none⟩) nrz (.slice (some ⟨gf, 0, none⟩) 1 1)
          have hI9 : IntKept u7 ((u7.setCell ⟨z, 0, none⟩ (.slice (some ⟨g, 0, none⟩) n n)).setCell ⟨z, 1, none⟩ (.slice (some ⟨gf, 0, none⟩) 1 1)) := (IntKept.set q0 (.slice (some ⟨g, 0, none⟩) n n)).trans (IntKept.set (by exact (bx2_cells (bx2_set0 hz8 (.slice (some ⟨g, 0, none⟩) n n))).2.1) (.slice (some ⟨gf, 0, none⟩) 1 1))
          have hf9 := hI9 _ _ _ hf8
          have hkw9 := (((hkW.trans hkw8).setCell (p := ⟨z, 0, none⟩) (by show w.heap.size ≤ z; omega) (.slice (some ⟨g, 0, none⟩) n n)).setCell (p := ⟨z, 1, none⟩) (by show w.heap.size ≤ z; omega) (.slice (some ⟨gf, 0, none⟩) 1 1))
          refine hK8.out _ _ ?_ (fun hHeld => ?_)
          · (try dsimp only)
            all_goals trivial
          (try simp only [Act.put, List.setIfInBounds_toArray, List.set_cons_zero, List.set_cons_succ])
          refine wpAnyH_done (by kernel_rfl) ?_ _
          go_wp2_with fail
          go_meet
          exact ⟨z, g, gf, rfl, hkw9, by omega, by omega, hr9, hz9, hg9, hf9⟩
        · skip
          go_simp
          skip
          (try go_wp2_with fail)
          have hk7 : Kept u3 (u3.alloc (.cells #[.slice none 0 0, .slice none 0 0] 101)) := (Kept.refl _).alloc _
          have hz7 := bx2_row u3 (.slice none 0 0) (.slice none 0 0) 101
          have hzw : W0.heap.size ≤ u3.heap.size := Kept.size (show Kept W0 u3 from (by repeat (first | assumption | exact Kept.refl _ | apply Kept.drew | apply Kept.drewN | apply Kept.alloc | refine Kept.trans ?_ (by assumption))))
          generalize u3.alloc (.cells #[.slice none 0 0, .slice none 0 0] 101) = u7 at *
          obtain ⟨z, HG⟩ : ∃ g, Hid (g = u3.heap.size) := ⟨_, rfl⟩
          rw [← HG.out] at hz7 hzw ⊢
          clear HG
          refine hK7.out _ _ ?_ (fun hHeld => ?_)
          · (try dsimp only)
            all_goals trivial
          (try simp only [Act.put, List.setIfInBounds_toArray, List.set_cons_zero, List.set_cons_succ])
          refine wpAnyH_ready (rs := [5]) (by kernel_rfl) (by simp) ?_
          refine AllReadyH.cons (o := { dst := some 13, op := Go.Op.buildSlice 99 1 #[(0, Go.Operand.tmp 12)], type := 99, pos := "load.go:63", after := #[{ on := 4, ground := Go.Ground.data }], guard := none }) rfl (fun K5 hK5 => ?_) AllReadyH.nil
          go_simp
          skip
          (try go_wp2_with fail)
          have hk5 : Kept u7 (u7.alloc (.cells #[.int .u64 ((size16 s : Nat) : Int)] 69)) := (Kept.refl _).alloc _
          have hf5 := (cell_newbox u7 (.int .u64 ((size16 s : Nat) : Int)) 69).1
          generalize u7.alloc (.cells #[.int .u64 ((size16 s : Nat) : Int)] 69) = u5 at *
          obtain ⟨gf, HG⟩ : ∃ g, Hid (g = u7.heap.size) := ⟨_, rfl⟩
          rw [← HG.out] at hf5 ⊢
          clear HG
          refine hK5.out _ _ ?_ (fun hHeld => ?_)
          · (try dsimp only)
            all_goals trivial
          (try simp only [Act.put, List.setIfInBounds_toArray, List.set_cons_zero, List.set_cons_succ])
          refine wpAnyH_take (i := 6) (oi := { dst := some 14, op := Go.Op.build 101 #[(0, Go.Operand.tmp 9), (1, Go.Operand.tmp 13)], type := 101, pos := "load.go:63", after := #[{ on := 1, ground := Go.Ground.data }, { on := 5, ground := Go.Ground.data }], guard := none }) (v := ?v5) rfl (by kernel_rfl) (by kernel_rfl) (by kernel_rfl) (fun _ _ _ h => h) (Or.inl ⟨by rfl, ?hy5⟩) (by assumption) ?rs5
          case hy5 =>
            intro w hSw
            (try dsimp only at hSw)
            go_simp
            try with_reducible rfl
          (try simp only [Act.put, List.setIfInBounds_toArray, List.set_cons_zero, List.set_cons_succ])
          refine wpAnyH_ready (rs := [8]) (by kernel_rfl) (by simp) ?_
          refine AllReadyH.cons (o := { dst := none, op := Go.Op.store 101 (Go.Operand.tmp 5) (Go.Operand.tmp 14), type := 0, pos := "load.go:63", after := #[{ on := 7, ground := Go.Ground.data }, { on := 6, ground := Go.Ground.data }, { on := 3, ground := Go.Ground.chain }, { on := 0, ground := Go.Ground.phase }, { on := 1, ground := Go.Ground.phase }, { on := 2, ground := Go.Ground.phase }, { on := 3, ground := Go.Ground.phase }, { on := 4, ground := Go.Ground.phase }, { on := 5, ground := Go.Ground.phase }, { on := 6, ground := Go.Ground.phase }, { on := 7, ground := Go.Ground.phase }], guard := none }) rfl (fun K8 hK8 => ?_) AllReadyH.nil
          have hz8 := (show Kept u7 u5 from (by repeat (first | assumption | exact Kept.refl _ | apply Kept.drew | apply Kept.drewN | apply Kept.alloc | refine Kept.trans ?_ (by assumption)))).row hz7
          obtain ⟨q0, q1, q2, q3⟩ := bx2_cells hz8
          go_simp
          skip
          (try go_wp2_with fail)
          have hg8 := (show Kept u1 u5 from (by repeat (first | assumption | exact Kept.refl _ | apply Kept.drew | apply Kept.drewN | apply Kept.alloc | refine Kept.trans ?_ (by assumption)))).row hg1
          have hf8 := Kept.cellSome (show Kept u5 u5 from (by repeat (first | assumption | exact Kept.refl _ | apply Kept.drew | apply Kept.drewN | apply Kept.alloc | refine Kept.trans ?_ (by assumption)))) hf5
          have hr8 := (show Kept W0 u5 from (by repeat (first | assumption | exact Kept.refl _ | apply Kept.drew | apply Kept.drewN | apply Kept.alloc | refine Kept.trans ?_ (by assumption)))).row hr0
          have hkw8 : Kept W0 u5 := (by repeat (first | assumption | exact Kept.refl _ | apply Kept.drew | apply Kept.drewN | apply Kept.alloc | refine Kept.trans ?_ (by assumption)))
          have ngz : g ≠ z := fun e => row_ne hg8 hz8 (by decide) e
          have nrz : w.heap.size ≠ z := by omega
          have hz9 := bx2_set1 (bx2_set0 hz8 (.slice (some ⟨g, 0, none⟩) n n)) (.slice (some ⟨gf, 0, none⟩) 1 1)
          have hg9 := (hg8.setOther (a := ⟨z, 0, none⟩) ngz (.slice (some ⟨g, 0, none⟩) n n)).setOther (a := ⟨z, 1, none⟩) ngz (.slice (some ⟨gf, 0, none⟩) 1 1)
          have hr9 := (hr8.setOther (a := ⟨z, 0, none⟩) nrz (.slice (some ⟨g, 0, none⟩) n n)).setOther (a := ⟨z, 1, none⟩) nrz (.slice (some ⟨gf, 0, none⟩) 1 1)
          have hI9 : IntKept u5 ((u5.setCell ⟨z, 0, none⟩ (.slice (some ⟨g, 0, none⟩) n n)).setCell ⟨z, 1, none⟩ (.slice (some ⟨gf, 0, none⟩) 1 1)) := (IntKept.set q0 (.slice (some ⟨g, 0, none⟩) n n)).trans (IntKept.set (by exact (bx2_cells (bx2_set0 hz8 (.slice (some ⟨g, 0, none⟩) n n))).2.1) (.slice (some ⟨gf, 0, none⟩) 1 1))
          have hf9 := hI9 _ _ _ hf8
          have hkw9 := (((hkW.trans hkw8).setCell (p := ⟨z, 0, none⟩) (by show w.heap.size ≤ z; omega) (.slice (some ⟨g, 0, none⟩) n n)).setCell (p := ⟨z, 1, none⟩) (by show w.heap.size ≤ z; omega) (.slice (some ⟨gf, 0, none⟩) 1 1))
          refine hK8.out _ _ ?_ (fun hHeld => ?_)
          · (try dsimp only)
            all_goals trivial
          (try simp only [Act.put, List.setIfInBounds_toArray, List.set_cons_zero, List.set_cons_succ])
          refine wpAnyH_done (by kernel_rfl) ?_ _
          go_wp2_with fail
          go_meet
          exact ⟨z, g, gf, rfl, hkw9, by omega, by omega, hr9, hz9, hg9, hf9⟩
      · skip
        go_simp
        skip
        (try go_wp2_with fail)
        have hk7 : Kept u1 (u1.alloc (.cells #[.slice none 0 0, .slice none 0 0] 101)) := (Kept.refl _).alloc _
        have hz7 := bx2_row u1 (.slice none 0 0) (.slice none 0 0) 101
        have hzw : W0.heap.size ≤ u1.heap.size := Kept.size (show Kept W0 u1 from (by repeat (first | assumption | exact Kept.refl _ | apply Kept.drew | apply Kept.drewN | apply Kept.alloc | refine Kept.trans ?_ (by assumption))))
        generalize u1.alloc (.cells #[.slice none 0 0, .slice none 0 0] 101) = u7 at *
        obtain ⟨z, HG⟩ : ∃ g, Hid (g = u1.heap.size) := ⟨_, rfl⟩
        rw [← HG.out] at hz7 hzw ⊢
        clear HG
        refine hK7.out _ _ ?_ (fun hHeld => ?_)
        · (try dsimp only)
          all_goals trivial
        (try simp only [Act.put, List.setIfInBounds_toArray, List.set_cons_zero, List.set_cons_succ])
        refine wpAnyH_ready (rs := [3]) (by kernel_rfl) (by simp) ?_
        refine AllReadyH.cons (o := { dst := some 11, op := Go.Op.call { callee := Go.Callee.value (Go.Operand.func 44), args := #[Go.Operand.tmp 10], argTypes := #[84] }, type := 3, pos := "load.go:63", after := #[{ on := 2, ground := Go.Ground.data }], guard := none }) rfl (fun K3 hK3 => ?_) AllReadyH.nil
        go_simp
        (go_at_call 44; refine (SZ.out _).mono ?_; rintro e u3 ⟨rfl, hq3⟩)
        (try go_wp2_with fail)
        have hk3 := hq3.kept
        refine hK3.out _ _ ?_ (fun hHeld => ?_)
        · (try dsimp only)
          all_goals trivial
        (try simp only [Act.put, List.setIfInBounds_toArray, List.set_cons_zero, List.set_cons_succ])
        refine wpAnyH_take (i := 4) (oi := { dst := some 12, op := Go.Op.convert 3 69 (Go.Operand.tmp 11), type := 69, pos := "load.go:63", after := #[{ on := 3, ground := Go.Ground.data }], guard := none }) (v := ?v6) rfl (by kernel_rfl) (by kernel_rfl) (by kernel_rfl) (fun _ _ _ h => h) (Or.inl ⟨by rfl, ?hy6⟩) (by assumption) ?rs6
        case hy6 =>
          intro w hSw
          (try dsimp only at hSw)
          go_simp
          try with_reducible rfl
        (try simp only [Act.put, List.setIfInBounds_toArray, List.set_cons_zero, List.set_cons_succ])
        refine wpAnyH_ready (rs := [5]) (by kernel_rfl) (by simp) ?_
        refine AllReadyH.cons (o := { dst := some 13, op := Go.Op.buildSlice 99 1 #[(0, Go.Operand.tmp 12)], type := 99, pos := "load.go:63", after := #[{ on := 4, ground := Go.Ground.data }], guard := none }) rfl (fun K5 hK5 => ?_) AllReadyH.nil
        go_simp
        skip
        (try go_wp2_with fail)
        have hk5 : Kept u3 (u3.alloc (.cells #[.int .u64 ((size16 s : Nat) : Int)] 69)) := (Kept.refl _).alloc _
        have hf5 := (cell_newbox u3 (.int .u64 ((size16 s : Nat) : Int)) 69).1
        generalize u3.alloc (.cells #[.int .u64 ((size16 s : Nat) : Int)] 69) = u5 at *
        obtain ⟨gf, HG⟩ : ∃ g, Hid (g = u3.heap.size) := ⟨_, rfl⟩
        rw [← HG.out] at hf5 ⊢
        clear HG
        refine hK5.out _ _ ?_ (fun hHeld => ?_)
        · (try dsimp only)
          all_goals trivial
        (try simp only [Act.put, List.setIfInBounds_toArray, List.set_cons_zero, List.set_cons_succ])
        refine wpAnyH_take (i := 6) (oi := { dst := some 14, op := Go.Op.build 101 #[(0, Go.Operand.tmp 9), (1, Go.Operand.tmp 13)], type := 101, pos := "load.go:63", after := #[{ on := 1, ground := Go.Ground.data }, { on := 5, ground := Go.Ground.data }], guard := none }) (v := ?v7) rfl (by kernel_rfl) (by kernel_rfl) (by kernel_rfl) (fun _ _ _ h => h) (Or.inl ⟨by rfl, ?hy7⟩) (by assumption) ?rs7
        case hy7 =>
          intro w hSw
          (try dsimp only at hSw)
          go_simp
          try with_reducible rfl
        (try simp only [Act.put, List.setIfInBounds_toArray, List.set_cons_zero, List.set_cons_succ])
        refine wpAnyH_ready (rs := [8]) (by kernel_rfl) (by simp) ?_
        refine AllReadyH.cons (o := { dst := none, op := Go.Op.store 101 (Go.Operand.tmp 5) (Go.Operand.tmp 14), type := 0, pos := "load.go:63", after := #[{ on := 7, ground := Go.Ground.data }, { on := 6, ground := Go.Ground.data }, { on := 3, ground := Go.Ground.chain }, { on := 0, ground := Go.Ground.phase }, { on := 1, ground := Go.Ground.phase }, { on := 2, ground := Go.Ground.phase }, { on := 3, ground := Go.Ground.phase }, { on := 4, ground := Go.Ground.phase }, { on := 5, ground := Go.Ground.phase }, { on := 6, ground := Go.Ground.phase }, { on := 7, ground := Go.Ground.phase }], guard := none }) rfl (fun K8 hK8 => ?_) AllReadyH.nil
        have hz8 := (show Kept u7 u5 from (by repeat (first | assumption | exact Kept.refl _ | apply Kept.drew | apply Kept.drewN | apply Kept.alloc | refine Kept.trans ?_ (by assumption)))).row hz7
        obtain ⟨q0, q1, q2, q3⟩ := bx2_cells hz8
        go_simp
        skip
        (try go_wp2_with fail)
        have hg8 := (show Kept u1 u5 from (by repeat (first | assumption | exact Kept.refl _ | apply Kept.drew | apply Kept.drewN | apply Kept.alloc | refine Kept.trans ?_ (by assumption)))).row hg1
        have hf8 := Kept.cellSome (show Kept u5 u5 from (by repeat (first | assumption | exact Kept.refl _ | apply Kept.drew | apply Kept.drewN | apply Kept.alloc | refine Kept.trans ?_ (by assumption)))) hf5
        have hr8 := (show Kept W0 u5 from (by repeat (first | assumption | exact Kept.refl _ | apply Kept.drew | apply Kept.drewN | apply Kept.alloc | refine Kept.trans ?_ (by assumption)))).row hr0
        have hkw8 : Kept W0 u5 := (by repeat (first | assumption | exact Kept.refl _ | apply Kept.drew | apply Kept.drewN | apply Kept.alloc | refine Kept.trans ?_ (by assumption)))
        have ngz : g ≠ z := fun e => row_ne hg8 hz8 (by decide) e
        have nrz : w.heap.size ≠ z := by omega
        have hz9 := bx2_set1 (bx2_set0 hz8 (.slice (some ⟨g, 0, none⟩) n n)) (.slice (some ⟨gf, 0, none⟩) 1 1)
        have hg9 := (hg8.setOther (a := ⟨z, 0, none⟩) ngz (.slice (some ⟨g, 0, none⟩) n n)).setOther (a := ⟨z, 1, none⟩) ngz (.slice (some ⟨gf, 0, none⟩) 1 1)
        have hr9 := (hr8.setOther (a := ⟨z, 0, none⟩) nrz (.slice (some ⟨g, 0, none⟩) n n)).setOther (a := ⟨z, 1, none⟩) nrz (.slice (some ⟨gf, 0, none⟩) 1 1)
        have hI9 : IntKept u5 ((u5.setCell ⟨z, 0, none⟩ (.slice (some ⟨g, 0, none⟩) n n)).setCell ⟨z, 1, none⟩ (.slice (some ⟨gf, 0, none⟩) 1 1)) := (IntKept.set q0 (.slice (some ⟨g, 0, none⟩) n n)).trans (IntKept.set (by exact (bx2_cells (bx2_set0 hz8 (.slice (some ⟨g, 0, none⟩) n n))).2.1) (.slice (some ⟨gf, 0, none⟩) 1 1))
        have hf9 := hI9 _ _ _ hf8
        have hkw9 := (((hkW.trans hkw8).setCell (p := ⟨z, 0, none⟩) (by show w.heap.size ≤ z; omega) (.slice (some ⟨g, 0, none⟩) n n)).setCell (p := ⟨z, 1, none⟩) (by show w.heap.size ≤ z; omega) (.slice (some ⟨gf, 0, none⟩) 1 1))
        refine hK8.out _ _ ?_ (fun hHeld => ?_)
        · (try dsimp only)
          all_goals trivial
        (try simp only [Act.put, List.setIfInBounds_toArray, List.set_cons_zero, List.set_cons_succ])
        refine wpAnyH_done (by kernel_rfl) ?_ _
        go_wp2_with fail
        go_meet
        exact ⟨z, g, gf, rfl, hkw9, by omega, by omega, hr9, hz9, hg9, hf9⟩
    · skip
      go_simp
      (go_at_call 44; refine (SZ.out _).mono ?_; rintro e u3 ⟨rfl, hq3⟩)
      (try go_wp2_with fail)
      have hk3 := hq3.kept
      refine hK3.out _ _ ?_ (fun hHeld => ?_)
      · (try dsimp only)
        all_goals trivial
      (try simp only [Act.put, List.setIfInBounds_toArray, List.set_cons_zero, List.set_cons_succ])
      refine wpAnyH_take (i := 4) (oi := { dst := some 12, op := Go.Op.convert 3 69 (Go.Operand.tmp 11), type := 69, pos := "load.go:63", after := #[{ on := 3, ground := Go.Ground.data }], guard := none }) (v := ?v8) rfl (by kernel_rfl) (by kernel_rfl) (by kernel_rfl) (fun _ _ _ h => h) (Or.inl ⟨by rfl, ?hy8⟩) (by assumption) ?rs8
      case hy8 =>
        intro w hSw
        (try dsimp only at hSw)
        go_simp
        try with_reducible rfl
      (try simp only [Act.put, List.setIfInBounds_toArray, List.set_cons_zero, List.set_cons_succ])
      refine wpAnyH_ready (rs := [1, 5, 7]) (by kernel_rfl) (by simp) ?_
      refine AllReadyH.cons (o := { dst := some 9, op := Go.Op.makeSlice 98 (Go.Operand.tmp 8) (Go.Operand.tmp 8), type := 98, pos := "load.go:63", after := #[{ on := 0, ground := Go.Ground.data }, { on := 0, ground := Go.Ground.data }], guard := none }) rfl (fun K1 hK1 => ?_) (AllReadyH.cons (o := { dst := some 13, op := Go.Op.buildSlice 99 1 #[(0, Go.Operand.tmp 12)], type := 99, pos := "load.go:63", after := #[{ on := 4, ground := Go.Ground.data }], guard := none }) rfl (fun K5 hK5 => ?_) (AllReadyH.cons (o := { dst := some 5, op := Go.Op.alloc 101, type := 0, pos := "load.go:63", after := #[], guard := none }) rfl (fun K7 hK7 => ?_) AllReadyH.nil))
      · skip
        go_simp
        skip
        (try go_wp2_with fail)
        have hk1 : Kept u3 (u3.alloc (.cells (madeCells #[.slice none 0 0] n) 130)) := (Kept.refl _).alloc _
        have hg1 := World.rowIs_made u3 (.slice none 0 0) n 130
        have hgw : W0.heap.size ≤ u3.heap.size := Kept.size (show Kept W0 u3 from (by repeat (first | assumption | exact Kept.refl _ | apply Kept.drew | apply Kept.drewN | apply Kept.alloc | refine Kept.trans ?_ (by assumption))))
        generalize u3.alloc (.cells (madeCells #[.slice none 0 0] n) 130) = u1 at *
        obtain ⟨g, HG⟩ : ∃ g, Hid (g = u3.heap.size) := ⟨_, rfl⟩
        rw [← HG.out] at hg1 hgw ⊢
        clear HG
        refine hK1.out _ _ ?_ (fun hHeld => ?_)
        · (try dsimp only)
          all_goals trivial
        (try simp only [Act.put, List.setIfInBounds_toArray, List.set_cons_zero, List.set_cons_succ])
        refine wpAnyH_ready (rs := [5, 7]) (by kernel_rfl) (by simp) ?_
        refine AllReadyH.cons (o := { dst := some 13, op := Go.Op.buildSlice 99 1 #[(0, Go.Operand.tmp 12)], type := 99, pos := "load.go:63", after := #[{ on := 4, ground := Go.Ground.data }], guard := none }) rfl (fun K5 hK5 => ?_) (AllReadyH.cons (o := { dst := some 5, op := Go.Op.alloc 101, type := 0, pos := "load.go:63", after := #[], guard := none }) rfl (fun K7 hK7 => ?_) AllReadyH.nil)
        · skip
          go_simp
          skip
          (try go_wp2_with fail)
          have hk5 : Kept u1 (u1.alloc (.cells #[.int .u64 ((size16 s : Nat) : Int)] 69)) := (Kept.refl _).alloc _
          have hf5 := (cell_newbox u1 (.int .u64 ((size16 s : Nat) : Int)) 69).1
          generalize u1.alloc (.cells #[.int .u64 ((size16 s : Nat) : Int)] 69) = u5 at *
          obtain ⟨gf, HG⟩ : ∃ g, Hid (g = u1.heap.size) := ⟨_, rfl⟩
          rw [← HG.out] at hf5 ⊢
          clear HG
          refine hK5.out _ _ ?_ (fun hHeld => ?_)
          · (try dsimp only)
            all_goals trivial
          (try simp only [Act.put, List.setIfInBounds_toArray, List.set_cons_zero, List.set_cons_succ])
          refine wpAnyH_take (i := 6) (oi := { dst := some 14, op := Go.Op.build 101 #[(0, Go.Operand.tmp 9), (1, Go.Operand.tmp 13)], type := 101, pos := "load.go:63", after := #[{ on := 1, ground := Go.Ground.data }, { on := 5, ground := Go.Ground.data }], guard := none }) (v := ?v9) rfl (by kernel_rfl) (by kernel_rfl) (by kernel_rfl) (fun _ _ _ h => h) (Or.inl ⟨by rfl, ?hy9⟩) (by assumption) ?rs9
          case hy9 =>
            intro w hSw
            (try dsimp only at hSw)
            go_simp
            try with_reducible rfl
          (try simp only [Act.put, List.setIfInBounds_toArray, List.set_cons_zero, List.set_cons_succ])
          refine wpAnyH_ready (rs := [7]) (by kernel_rfl) (by simp) ?_
          refine AllReadyH.cons (o := { dst := some 5, op := Go.Op.alloc 101, type := 0, pos := "load.go:63", after := #[], guard := none }) rfl (fun K7 hK7 => ?_) AllReadyH.nil
          go_simp
          skip
          (try go_wp2_with fail)
          have hk7 : Kept u5 (u5.alloc (.cells #[.slice none 0 0, .slice none 0 0] 101)) := (Kept.refl _).alloc _
          have hz7 := bx2_row u5 (.slice none 0 0) (.slice none 0 0) 101
          have hzw : W0.heap.size ≤ u5.heap.size := Kept.size (show Kept W0 u5 from (by repeat (first | assumption | exact Kept.refl _ | apply Kept.drew | apply Kept.drewN | apply Kept.alloc | refine Kept.trans ?_ (by assumption))))
          generalize u5.alloc (.cells #[.slice none 0 0, .slice none 0 0] 101) = u7 at *
          obtain ⟨z, HG⟩ : ∃ g, Hid (g = u5.heap.size) := ⟨_, rfl⟩
          rw [← HG.out] at hz7 hzw ⊢
          clear HG
          refine hK7.out _ _ ?_ (fun hHeld => ?_)
          · (try dsimp only)
            all_goals trivial
          (try simp only [Act.put, List.setIfInBounds_toArray, List.set_cons_zero, List.set_cons_succ])
          refine wpAnyH_ready (rs := [8]) (by kernel_rfl) (by simp) ?_
          refine AllReadyH.cons (o := { dst := none, op := Go.Op.store 101 (Go.Operand.tmp 5) (Go.Operand.tmp 14), type := 0, pos := "load.go:63", after := #[{ on := 7, ground := Go.Ground.data }, { on := 6, ground := Go.Ground.data }, { on := 3, ground := Go.Ground.chain }, { on := 0, ground := Go.Ground.phase }, { on := 1, ground := Go.Ground.phase }, { on := 2, ground := Go.Ground.phase }, { on := 3, ground := Go.Ground.phase }, { on := 4, ground := Go.Ground.phase }, { on := 5, ground := Go.Ground.phase }, { on := 6, ground := Go.Ground.phase }, { on := 7, ground := Go.Ground.phase }], guard := none }) rfl (fun K8 hK8 => ?_) AllReadyH.nil
          have hz8 := (show Kept u7 u7 from (by repeat (first | assumption | exact Kept.refl _ | apply Kept.drew | apply Kept.drewN | apply Kept.alloc | refine Kept.trans ?_ (by assumption)))).row hz7
          obtain ⟨q0, q1, q2, q3⟩ := bx2_cells hz8
          go_simp
          skip
          (try go_wp2_with fail)
          have hg8 := (show Kept u1 u7 from (by repeat (first | assumption | exact Kept.refl _ | apply Kept.drew | apply Kept.drewN | apply Kept.alloc | refine Kept.trans ?_ (by assumption)))).row hg1
          have hf8 := Kept.cellSome (show Kept u5 u7 from (by repeat (first | assumption | exact Kept.refl _ | apply Kept.drew | apply Kept.drewN | apply Kept.alloc | refine Kept.trans ?_ (by assumption)))) hf5
          have hr8 := (show Kept W0 u7 from (by repeat (first | assumption | exact Kept.refl _ | apply Kept.drew | apply Kept.drewN | apply Kept.alloc | refine Kept.trans ?_ (by assumption)))).row hr0
          have hkw8 : Kept W0 u7 := (by repeat (first | assumption | exact Kept.refl _ | apply Kept.drew | apply Kept.drewN | apply Kept.alloc | refine Kept.trans ?_ (by assumption)))
          have ngz : g ≠ z := fun e => row_ne hg8 hz8 (by decide) e
          have nrz : w.heap.size ≠ z := by omega
          have hz9 := bx2_set1 (bx2_set0 hz8 (.slice (some ⟨g, 0, none⟩) n n)) (.slice (some ⟨gf, 0, none⟩) 1 1)
          have hg9 := (hg8.setOther (a := ⟨z, 0, none⟩) ngz (.slice (some ⟨g, 0, none⟩) n n)).setOther (a := ⟨z, 1, none⟩) ngz (.slice (some ⟨gf, 0, none⟩) 1 1)
          have hr9 := (hr8.setOther (a := ⟨z, 0, none⟩) nrz (.slice (some ⟨g, 0, none⟩) n n)).setOther (a := ⟨z, 1, none⟩) nrz (.slice (some ⟨gf, 0, none⟩) 1 1)
          have hI9 : IntKept u7 ((u7.setCell ⟨z, 0, none⟩ (.slice (some ⟨g, 0, none⟩) n n)).setCell ⟨z, 1, none⟩ (.slice (some ⟨gf, 0, none⟩) 1 1)) := (IntKept.set q0 (.slice (some ⟨g, 0, none⟩) n n)).trans (IntKept.set (by exact (bx2_cells (bx2_set0 hz8 (.slice (some ⟨g, 0, none⟩) n n))).2.1) (.slice (some ⟨gf, 0, none⟩) 1 1))
          have hf9 := hI9 _ _ _ hf8
          have hkw9 := (((hkW.trans hkw8).setCell (p := ⟨z, 0, none⟩) (by show w.heap.size ≤ z; omega) (.slice (some ⟨g, 0, none⟩) n n)).setCell (p := ⟨z, 1, none⟩) (by show w.heap.size ≤ z; omega) (.slice (some ⟨gf, 0, none⟩) 1 1))
          refine hK8.out _ _ ?_ (fun hHeld => ?_)
          · (try dsimp only)
            all_goals trivial
          (try simp only [Act.put, List.setIfInBounds_toArray, List.set_cons_zero, List.set_cons_succ])
          refine wpAnyH_done (by kernel_rfl) ?_ _
          go_wp2_with fail
          go_meet
          exact ⟨z, g, gf, rfl, hkw9, by omega, by omega, hr9, hz9, hg9, hf9⟩
        · skip
          go_simp
          skip
          (try go_wp2_with fail)
          have hk7 : Kept u1 (u1.alloc (.cells #[.slice none 0 0, .slice none 0 0] 101)) := (Kept.refl _).alloc _
          have hz7 := bx2_row u1 (.slice none 0 0) (.slice none 0 0) 101
          have hzw : W0.heap.size ≤ u1.heap.size := Kept.size (show Kept W0 u1 from (by repeat (first | assumption | exact Kept.refl _ | apply Kept.drew | apply Kept.drewN | apply Kept.alloc | refine Kept.trans ?_ (by assumption))))
          generalize u1.alloc (.cells #[.slice none 0 0, .slice none 0 0] 101) = u7 at *
          obtain ⟨z, HG⟩ : ∃ g, Hid (g = u1.heap.size) := ⟨_, rfl⟩
          rw [← HG.out] at hz7 hzw ⊢
          clear HG
          refine hK7.out _ _ ?_ (fun hHeld => ?_)
          · (try dsimp only)
            all_goals trivial
          (try simp only [Act.put, List.setIfInBounds_toArray, List.set_cons_zero, List.set_cons_succ])
          refine wpAnyH_ready (rs := [5]) (by kernel_rfl) (by simp) ?_
          refine AllReadyH.cons (o := { dst := some 13, op := Go.Op.buildSlice 99 1 #[(0, Go.Operand.tmp 12)], type := 99, pos := "load.go:63", after := #[{ on := 4, ground := Go.Ground.data }], guard := none }) rfl (fun K5 hK5 => ?_) AllReadyH.nil
          go_simp
          skip
          (try go_wp2_with fail)
          have hk5 : Kept u7 (u7.alloc (.cells #[.int .u64 ((size16 s : Nat) : Int)] 69)) := (Kept.refl _).alloc _
          have hf5 := (cell_newbox u7 (.int .u64 ((size16 s : Nat) : Int)) 69).1
          generalize u7.alloc (.cells #[.int .u64 ((size16 s : Nat) : Int)] 69) = u5 at *
          obtain ⟨gf, HG⟩ : ∃ g, Hid (g = u7.heap.size) := ⟨_, rfl⟩
          rw [← HG.out] at hf5 ⊢
          clear HG
          refine hK5.out _ _ ?_ (fun hHeld => ?_)
          · (try dsimp only)
            all_goals trivial
          (try simp only [Act.put, List.setIfInBounds_toArray, List.set_cons_zero, List.set_cons_succ])
          refine wpAnyH_take (i := 6) (oi := { dst := some 14, op := Go.Op.build 101 #[(0, Go.Operand.tmp 9), (1, Go.Operand.tmp 13)], type := 101, pos := "load.go:63", after := #[{ on := 1, ground := Go.Ground.data }, { on := 5, ground := Go.Ground.data }], guard := none }) (v := ?v10) rfl (by kernel_rfl) (by kernel_rfl) (by kernel_rfl) (fun _ _ _ h => h) (Or.inl ⟨by rfl, ?hy10⟩) (by assumption) ?rs10
          case hy10 =>
            intro w hSw
            (try dsimp only at hSw)
            go_simp
            try with_reducible rfl
          (try simp only [Act.put, List.setIfInBounds_toArray, List.set_cons_zero, List.set_cons_succ])
          refine wpAnyH_ready (rs := [8]) (by kernel_rfl) (by simp) ?_
          refine AllReadyH.cons (o := { dst := none, op := Go.Op.store 101 (Go.Operand.tmp 5) (Go.Operand.tmp 14), type := 0, pos := "load.go:63", after := #[{ on := 7, ground := Go.Ground.data }, { on := 6, ground := Go.Ground.data }, { on := 3, ground := Go.Ground.chain }, { on := 0, ground := Go.Ground.phase }, { on := 1, ground := Go.Ground.phase }, { on := 2, ground := Go.Ground.phase }, { on := 3, ground := Go.Ground.phase }, { on := 4, ground := Go.Ground.phase }, { on := 5, ground := Go.Ground.phase }, { on := 6, ground := Go.Ground.phase }, { on := 7, ground := Go.Ground.phase }], guard := none }) rfl (fun K8 hK8 => ?_) AllReadyH.nil
          have hz8 := (show Kept u7 u5 from (by repeat (first | assumption | exact Kept.refl _ | apply Kept.drew | apply Kept.drewN | apply Kept.alloc | refine Kept.trans ?_ (by assumption)))).row hz7
          obtain ⟨q0, q1, q2, q3⟩ := bx2_cells hz8
          go_simp
          skip
          (try go_wp2_with fail)
          have hg8 := (show Kept u1 u5 from (by repeat (first | assumption | exact Kept.refl _ | apply Kept.drew | apply Kept.drewN | apply Kept.alloc | refine Kept.trans ?_ (by assumption)))).row hg1
          have hf8 := Kept.cellSome (show Kept u5 u5 from (by repeat (first | assumption | exact Kept.refl _ | apply Kept.drew | apply Kept.drewN | apply Kept.alloc | refine Kept.trans ?_ (by assumption)))) hf5
          have hr8 := (show Kept W0 u5 from (by repeat (first | assumption | exact Kept.refl _ | apply Kept.drew | apply Kept.drewN | apply Kept.alloc | refine Kept.trans ?_ (by assumption)))).row hr0
          have hkw8 : Kept W0 u5 := (by repeat (first | assumption | exact Kept.refl _ | apply Kept.drew | apply Kept.drewN | apply Kept.alloc | refine Kept.trans ?_ (by assumption)))
          have ngz : g ≠ z := fun e => row_ne hg8 hz8 (by decide) e
          have nrz : w.heap.size ≠ z := by omega
          have hz9 := bx2_set1 (bx2_set0 hz8 (.slice (some ⟨g, 0, none⟩) n n)) (.slice (some ⟨gf, 0, none⟩) 1 1)
          have hg9 := (hg8.setOther (a := ⟨z, 0, none⟩) ngz (.slice (some ⟨g, 0, none⟩) n n)).setOther (a := ⟨z, 1, none⟩) ngz (.slice (some ⟨gf, 0, none⟩) 1 1)
          have hr9 := (hr8.setOther (a := ⟨z, 0, none⟩) nrz (.slice (some ⟨g, 0, none⟩) n n)).setOther (a := ⟨z, 1, none⟩) nrz (.slice (some ⟨gf, 0, none⟩) 1 1)
          have hI9 : IntKept u5 ((u5.setCell ⟨z, 0, none⟩ (.slice (some ⟨g, 0, none⟩) n n)).setCell ⟨z, 1, none⟩ (.slice (some ⟨gf, 0, none⟩) 1 1)) := (IntKept.set q0 (.slice (some ⟨g, 0, none⟩) n n)).trans (IntKept.set (by exact (bx2_cells (bx2_set0 hz8 (.slice (some ⟨g, 0, none⟩) n n))).2.1) (.slice (some ⟨gf, 0, none⟩) 1 1))
          have hf9 := hI9 _ _ _ hf8
          have hkw9 := (((hkW.trans hkw8).setCell (p := ⟨z, 0, none⟩) (by show w.heap.size ≤ z; omega) (.slice (some ⟨g, 0, none⟩) n n)).setCell (p := ⟨z, 1, none⟩) (by show w.heap.size ≤ z; omega) (.slice (some ⟨gf, 0, none⟩) 1 1))
          refine hK8.out _ _ ?_ (fun hHeld => ?_)
          · (try dsimp only)
            all_goals trivial
          (try simp only [Act.put, List.setIfInBounds_toArray, List.set_cons_zero, List.set_cons_succ])
          refine wpAnyH_done (by kernel_rfl) ?_ _
          go_wp2_with fail
          go_meet
          exact ⟨z, g, gf, rfl, hkw9, by omega, by omega, hr9, hz9, hg9, hf9⟩
      · skip
        go_simp
        skip
        (try go_wp2_with fail)
        have hk5 : Kept u3 (u3.alloc (.cells #[.int .u64 ((size16 s : Nat) : Int)] 69)) := (Kept.refl _).alloc _
        have hf5 := (cell_newbox u3 (.int .u64 ((size16 s : Nat) : Int)) 69).1
        generalize u3.alloc (.cells #[.int .u64 ((size16 s : Nat) : Int)] 69) = u5 at *
        obtain ⟨gf, HG⟩ : ∃ g, Hid (g = u3.heap.size) := ⟨_, rfl⟩
        rw [← HG.out] at hf5 ⊢
        clear HG
        refine hK5.out _ _ ?_ (fun hHeld => ?_)
        · (try dsimp only)
          all_goals trivial
        (try simp only [Act.put, List.setIfInBounds_toArray, List.set_cons_zero, List.set_cons_succ])
        refine wpAnyH_ready (rs := [1, 7]) (by kernel_rfl) (by simp) ?_
        refine AllReadyH.cons (o := { dst := some 9, op := Go.Op.makeSlice 98 (Go.Operand.tmp 8) (Go.Operand.tmp 8), type := 98, pos := "load.go:63", after := #[{ on := 0, ground := Go.Ground.data }, { on := 0, ground := Go.Ground.data }], guard := none }) rfl (fun K1 hK1 => ?_) (AllReadyH.cons (o := { dst := some 5, op := Go.Op.alloc 101, type := 0, pos := "load.go:63", after := #[], guard := none }) rfl (fun K7 hK7 => ?_) AllReadyH.nil)
        · skip
          go_simp
          skip
          (try go_wp2_with fail)
          have hk1 : Kept u5 (u5.alloc (.cells (madeCells #[.slice none 0 0] n) 130)) := (Kept.refl _).alloc _
          have hg1 := World.rowIs_made u5 (.slice none 0 0) n 130
          have hgw : W0.heap.size ≤ u5.heap.size := Kept.size (show Kept W0 u5 from (by repeat (first | assumption | exact Kept.refl _ | apply Kept.drew | apply Kept.drewN | apply Kept.alloc | refine Kept.trans ?_ (by assumption))))
          generalize u5.alloc (.cells (madeCells #[.slice none 0 0] n) 130) = u1 at *
          obtain ⟨g, HG⟩ : ∃ g, Hid (g = u5.heap.size) := ⟨_, rfl⟩
          rw [← HG.out] at hg1 hgw ⊢
          clear HG
          refine hK1.out _ _ ?_ (fun hHeld => ?_)
          · (try dsimp only)
            all_goals trivial
          (try simp only [Act.put, List.setIfInBounds_toArray, List.set_cons_zero, List.set_cons_succ])
          refine wpAnyH_take (i := 6) (oi := { dst := some 14, op := Go.Op.build 101 #[(0, Go.Operand.tmp 9), (1, Go.Operand.tmp 13)], type := 101, pos := "load.go:63", after := #[{ on := 1, ground := Go.Ground.data }, { on := 5, ground := Go.Ground.data }], guard := none }) (v := ?v11) rfl (by kernel_rfl) (by kernel_rfl) (by kernel_rfl) (fun _ _ _ h => h) (Or.inl ⟨by rfl, ?hy11⟩) (by assumption) ?rs11
          case hy11 =>
            intro w hSw
            (try dsimp only at hSw)
            go_simp
            try with_reducible rfl
          (try simp only [Act.put, List.setIfInBounds_toArray, List.set_cons_zero, List.set_cons_succ])
          refine wpAnyH_ready (rs := [7]) (by kernel_rfl) (by simp) ?_
          refine AllReadyH.cons (o := { dst := some 5, op := Go.Op.alloc 101, type := 0, pos := "load.go:63", after := #[], guard := none }) rfl (fun K7 hK7 => ?_) AllReadyH.nil
          go_simp
          skip
          (try go_wp2_with fail)
          have hk7 : Kept u1 (u1.alloc (.cells #[.slice none 0 0, .slice none 0 0] 101)) := (Kept.refl _).alloc _
          have hz7 := bx2_row u1 (.slice none 0 0) (.slice none 0 0) 101
          have hzw : W0.heap.size ≤ u1.heap.size := Kept.size (show Kept W0 u1 from (by repeat (first | assumption | exact Kept.refl _ | apply Kept.drew | apply Kept.drewN | apply Kept.alloc | refine Kept.trans ?_ (by assumption))))
          generalize u1.alloc (.cells #[.slice none 0 0, .slice none 0 0] 101) = u7 at *
          obtain ⟨z, HG⟩ : ∃ g, Hid (g = u1.heap.size) := ⟨_, rfl⟩
          rw [← HG.out] at hz7 hzw ⊢
          clear HG
          refine hK7.out _ _ ?_ (fun hHeld => ?_)
          · (try dsimp only)
            all_goals trivial
          (try simp only [Act.put, List.setIfInBounds_toArray, List.set_cons_zero, List.set_cons_succ])
          refine wpAnyH_ready (rs := [8]) (by kernel_rfl) (by simp) ?_
          refine AllReadyH.cons (o := { dst := none, op := Go.Op.store 101 (Go.Operand.tmp 5) (Go.Operand.tmp 14), type := 0, pos := "load.go:63", after := #[{ on := 7, ground := Go.Ground.data }, { on := 6, ground := Go.Ground.data }, { on := 3, ground := Go.Ground.chain }, { on := 0, ground := Go.Ground.phase }, { on := 1, ground := Go.Ground.phase }, { on := 2, ground := Go.Ground.phase }, { on := 3, ground := Go.Ground.phase }, { on := 4, ground := Go.Ground.phase }, { on := 5, ground := Go.Ground.phase }, { on := 6, ground := Go.Ground.phase }, { on := 7, ground := Go.Ground.phase }], guard := none }) rfl (fun K8 hK8 => ?_) AllReadyH.nil
          have hz8 := (show Kept u7 u7 from (by repeat (first | assumption | exact Kept.refl _ | apply Kept.drew | apply Kept.drewN | apply Kept.alloc | refine Kept.trans ?_ (by assumption)))).row hz7
          obtain ⟨q0, q1, q2, q3⟩ := bx2_cells hz8
          go_simp
          skip
          (try go_wp2_with fail)
          have hg8 := (show Kept u1 u7 from (by repeat (first | assumption | exact Kept.refl _ | apply Kept.drew | apply Kept.drewN | apply Kept.alloc | refine Kept.trans ?_ (by assumption)))).row hg1
          have hf8 := Kept.cellSome (show Kept u5 u7 from (by repeat (first | assumption | exact Kept.refl _ | apply Kept.drew | apply Kept.drewN | apply Kept.alloc | refine Kept.trans ?_ (by assumption)))) hf5
          have hr8 := (show Kept W0 u7 from (by repeat (first | assumption | exact Kept.refl _ | apply Kept.drew | apply Kept.drewN | apply Kept.alloc | refine Kept.trans ?_ (by assumption)))).row hr0
          have hkw8 : Kept W0 u7 := (by repeat (first | assumption | exact Kept.refl _ | apply Kept.drew | apply Kept.drewN | apply Kept.alloc | refine Kept.trans ?_ (by assumption)))
          have ngz : g ≠ z := fun e => row_ne hg8 hz8 (by decide) e
          have nrz : w.heap.size ≠ z := by omega
          have hz9 := bx2_set1 (bx2_set0 hz8 (.slice (some ⟨g, 0, none⟩) n n)) (.slice (some ⟨gf, 0, none⟩) 1 1)
          have hg9 := (hg8.setOther (a := ⟨z, 0, none⟩) ngz (.slice (some ⟨g, 0, none⟩) n n)).setOther (a := ⟨z, 1, none⟩) ngz (.slice (some ⟨gf, 0, none⟩) 1 1)
          have hr9 := (hr8.setOther (a := ⟨z, 0, none⟩) nrz (.slice (some ⟨g, 0, none⟩) n n)).setOther (a := ⟨z, 1, none⟩) nrz (.slice (some ⟨gf, 0, none⟩) 1 1)
          have hI9 : IntKept u7 ((u7.setCell ⟨z, 0, none⟩ (.slice (some ⟨g, 0, none⟩) n n)).setCell ⟨z, 1, none⟩ (.slice (some ⟨gf, 0, none⟩) 1 1)) := (IntKept.set q0 (.slice (some ⟨g, 0, none⟩) n n)).trans (IntKept.set (by exact (bx2_cells (bx2_set0 hz8 (.slice (some ⟨g, 0, none⟩) n n))).2.1) (.slice (some ⟨gf, 0, none⟩) 1 1))
          have hf9 := hI9 _ _ _ hf8
          have hkw9 := (((hkW.trans hkw8).setCell (p := ⟨z, 0, none⟩) (by show w.heap.size ≤ z; omega) (.slice (some ⟨g, 0, none⟩) n n)).setCell (p := ⟨z, 1, none⟩) (by show w.heap.size ≤ z; omega) (.slice (some ⟨gf, 0, none⟩) 1 1))
          refine hK8.out _ _ ?_ (fun hHeld => ?_)
          · (try dsimp only)
            all_goals trivial
          (try simp only [Act.put, List.setIfInBounds_toArray, List.set_cons_zero, List.set_cons_succ])
          refine wpAnyH_done (by kernel_rfl) ?_ _
          go_wp2_with fail
          go_meet
          exact ⟨z, g, gf, rfl, hkw9, by omega, by omega, hr9, hz9, hg9, hf9⟩
        · skip
          go_simp
          skip
          (try go_wp2_with fail)
          have hk7 : Kept u5 (u5.alloc (.cells #[.slice none 0 0, .slice none 0 0] 101)) := (Kept.refl _).alloc _
          have hz7 := bx2_row u5 (.slice none 0 0) (.slice none 0 0) 101
          have hzw : W0.heap.size ≤ u5.heap.size := Kept.size (show Kept W0 u5 from (by repeat (first | assumption | exact Kept.refl _ | apply Kept.drew | apply Kept.drewN | apply Kept.alloc | refine Kept.trans ?_ (by assumption))))
          generalize u5.alloc (.cells #[.slice none 0 0, .slice none 0 0] 101) = u7 at *
          obtain ⟨z, HG⟩ : ∃ g, Hid (g = u5.heap.size) := ⟨_, rfl⟩
          rw [← HG.out] at hz7 hzw ⊢
          clear HG
          refine hK7.out _ _ ?_ (fun hHeld => ?_)
          · (try dsimp only)
            all_goals trivial
          (try simp only [Act.put, List.setIfInBounds_toArray, List.set_cons_zero, List.set_cons_succ])
          refine wpAnyH_ready (rs := [1]) (by kernel_rfl) (by simp) ?_
          refine AllReadyH.cons (o := { dst := some 9, op := Go.Op.makeSlice 98 (Go.Operand.tmp 8) (Go.Operand.tmp 8), type := 98, pos := "load.go:63", after := #[{ on := 0, ground := Go.Ground.data }, { on := 0, ground := Go.Ground.data }], guard := none }) rfl (fun K1 hK1 => ?_) AllReadyH.nil
          go_simp
          skip
          (try go_wp2_with fail)
          have hk1 : Kept u7 (u7.alloc (.cells (madeCells #[.slice none 0 0] n) 130)) := (Kept.refl _).alloc _
          have hg1 := World.rowIs_made u7 (.slice none 0 0) n 130
          have hgw : W0.heap.size ≤ u7.heap.size := Kept.size (show Kept W0 u7 from (by repeat (first | assumption | exact Kept.refl _ | apply Kept.drew | apply Kept.drewN | apply Kept.alloc | refine Kept.trans ?_ (by assumption))))
          generalize u7.alloc (.cells (madeCells #[.slice none 0 0] n) 130) = u1 at *
          obtain ⟨g, HG⟩ : ∃ g, Hid (g = u7.heap.size) := ⟨_, rfl⟩
          rw [← HG.out] at hg1 hgw ⊢
          clear HG
          refine hK1.out _ _ ?_ (fun hHeld => ?_)
          · (try dsimp only)
            all_goals trivial
          (try simp only [Act.put, List.setIfInBounds_toArray, List.set_cons_zero, List.set_cons_succ])
          refine wpAnyH_take (i := 6) (oi := { dst := some 14, op := Go.Op.build 101 #[(0, Go.Operand.tmp 9), (1, Go.Operand.tmp 13)], type := 101, pos := "load.go:63", after := #[{ on := 1, ground := Go.Ground.data }, { on := 5, ground := Go.Ground.data }], guard := none }) (v := ?v12) rfl (by kernel_rfl) (by kernel_rfl) (by kernel_rfl) (fun _ _ _ h => h) (Or.inl ⟨by rfl, ?hy12⟩) (by assumption) ?rs12
          case hy12 =>
            intro w hSw
            (try dsimp only at hSw)
            go_simp
            try with_reducible rfl
          (try simp only [Act.put, List.setIfInBounds_toArray, List.set_cons_zero, List.set_cons_succ])
          refine wpAnyH_ready (rs := [8]) (by kernel_rfl) (by simp) ?_
          refine AllReadyH.cons (o := { dst := none, op := Go.Op.store 101 (Go.Operand.tmp 5) (Go.Operand.tmp 14), type := 0, pos := "load.go:63", after := #[{ on := 7, ground := Go.Ground.data }, { on := 6, ground := Go.Ground.data }, { on := 3, ground := Go.Ground.chain }, { on := 0, ground := Go.Ground.phase }, { on := 1, ground := Go.Ground.phase }, { on := 2, ground := Go.Ground.phase }, { on := 3, ground := Go.Ground.phase }, { on := 4, ground := Go.Ground.phase }, { on := 5, ground := Go.Ground.phase }, { on := 6, ground := Go.Ground.phase }, { on := 7, ground := Go.Ground.phase }], guard := none }) rfl (fun K8 hK8 => ?_) AllReadyH.nil
          have hz8 := (show Kept u7 u1 from (by repeat (first | assumption | exact Kept.refl _ | apply Kept.drew | apply Kept.drewN | apply Kept.alloc | refine Kept.trans ?_ (by assumption)))).row hz7
          obtain ⟨q0, q1, q2, q3⟩ := bx2_cells hz8
          go_simp
          skip
          (try go_wp2_with fail)
          have hg8 := (show Kept u1 u1 from (by repeat (first | assumption | exact Kept.refl _ | apply Kept.drew | apply Kept.drewN | apply Kept.alloc | refine Kept.trans ?_ (by assumption)))).row hg1
          have hf8 := Kept.cellSome (show Kept u5 u1 from (by repeat (first | assumption | exact Kept.refl _ | apply Kept.drew | apply Kept.drewN | apply Kept.alloc | refine Kept.trans ?_ (by assumption)))) hf5
          have hr8 := (show Kept W0 u1 from (by repeat (first | assumption | exact Kept.refl _ | apply Kept.drew | apply Kept.drewN | apply Kept.alloc | refine Kept.trans ?_ (by assumption)))).row hr0
          have hkw8 : Kept W0 u1 := (by repeat (first | assumption | exact Kept.refl _ | apply Kept.drew | apply Kept.drewN | apply Kept.alloc | refine Kept.trans ?_ (by assumption)))
          have ngz : g ≠ z := fun e => row_ne hg8 hz8 (by decide) e
          have nrz : w.heap.size ≠ z := by omega
          have hz9 := bx2_set1 (bx2_set0 hz8 (.slice (some ⟨g, 0, none⟩) n n)) (.slice (some ⟨gf, 0, none⟩) 1 1)
          have hg9 := (hg8.setOther (a := ⟨z, 0, none⟩) ngz (.slice (some ⟨g, 0, none⟩) n n)).setOther (a := ⟨z, 1, none⟩) ngz (.slice (some ⟨gf, 0, none⟩) 1 1)
          have hr9 := (hr8.setOther (a := ⟨z, 0, none⟩) nrz (.slice (some ⟨g, 0, none⟩) n n)).setOther (a := ⟨z, 1, none⟩) nrz (.slice (some ⟨gf, 0, none⟩) 1 1)
          have hI9 : IntKept u1 ((u1.setCell ⟨z, 0, none⟩ (.slice (some ⟨g, 0, none⟩) n n)).setCell ⟨z, 1, none⟩ (.slice (some ⟨gf, 0, none⟩) 1 1)) := (IntKept.set q0 (.slice (some ⟨g, 0, none⟩) n n)).trans (IntKept.set (by exact (bx2_cells (bx2_set0 hz8 (.slice (some ⟨g, 0, none⟩) n n))).2.1) (.slice (some ⟨gf, 0, none⟩) 1 1))
          have hf9 := hI9 _ _ _ hf8
          have hkw9 := (((hkW.trans hkw8).setCell (p := ⟨z, 0, none⟩) (by show w.heap.size ≤ z; omega) (.slice (some ⟨g, 0, none⟩) n n)).setCell (p := ⟨z, 1, none⟩) (by show w.heap.size ≤ z; omega) (.slice (some ⟨gf, 0, none⟩) 1 1))
          refine hK8.out _ _ ?_ (fun hHeld => ?_)
          · (try dsimp only)
            all_goals trivial
          (try simp only [Act.put, List.setIfInBounds_toArray, List.set_cons_zero, List.set_cons_succ])
          refine wpAnyH_done (by kernel_rfl) ?_ _
          go_wp2_with fail
          go_meet
          exact ⟨z, g, gf, rfl, hkw9, by omega, by omega, hr9, hz9, hg9, hf9⟩
      · skip
        go_simp
        skip
        (try go_wp2_with fail)
        have hk7 : Kept u3 (u3.alloc (.cells #[.slice none 0 0, .slice none 0 0] 101)) := (Kept.refl _).alloc _
        have hz7 := bx2_row u3 (.slice none 0 0) (.slice none 0 0) 101
        have hzw : W0.heap.size ≤ u3.heap.size := Kept.size (show Kept W0 u3 from (by repeat (first | assumption | exact Kept.refl _ | apply Kept.drew | apply Kept.drewN | apply Kept.alloc | refine Kept.trans ?_ (by assumption))))
        generalize u3.alloc (.cells #[.slice none 0 0, .slice none 0 0] 101) = u7 at *
        obtain ⟨z, HG⟩ : ∃ g, Hid (g = u3.heap.size) := ⟨_, rfl⟩
        rw [← HG.out] at hz7 hzw ⊢
        clear HG
        refine hK7.out _ _ ?_ (fun hHeld => ?_)
        · (try dsimp only)
          all_goals trivial
        (try simp only [Act.put, List.setIfInBounds_toArray, List.set_cons_zero, List.set_cons_succ])
        refine wpAnyH_ready (rs := [1, 5]) (by kernel_rfl) (by simp) ?_
        refine AllReadyH.cons (o := { dst := some 9, op := Go.Op.makeSlice 98 (Go.Operand.tmp 8) (Go.Operand.tmp 8), type := 98, pos := "load.go:63", after := #[{ on := 0, ground := Go.Ground.data }, { on := 0, ground := Go.Ground.data }], guard := none }) rfl (fun K1 hK1 => ?_) (AllReadyH.cons (o := { dst := some 13, op := Go.Op.buildSlice 99 1 #[(0, Go.Operand.tmp 12)], type := 99, pos := "load.go:63", after := #[{ on := 4, ground := Go.Ground.data }], guard := none }) rfl (fun K5 hK5 => ?_) AllReadyH.nil)
        · skip
          go_simp
          skip
          (try go_wp2_with fail)
          have hk1 : Kept u7 (u7.alloc (.cells (madeCells #[.slice none 0 0] n) 130)) := (Kept.refl _).alloc _
          have hg1 := World.rowIs_made u7 (.slice none 0 0) n 130
          have hgw : W0.heap.size ≤ u7.heap.size := Kept.size (show Kept W0 u7 from (by repeat (first | assumption | exact Kept.refl _ | apply Kept.drew | apply Kept.drewN | apply Kept.alloc | refine Kept.trans ?_ (by assumption))))
          generalize u7.alloc (.cells (madeCells #[.slice none 0 0] n) 130) = u1 at *
          obtain ⟨g, HG⟩ : ∃ g, Hid (g = u7.heap.size) := ⟨_, rfl⟩
          rw [← HG.out] at hg1 hgw ⊢
          clear HG
          refine hK1.out _ _ ?_ (fun hHeld => ?_)
          · (try dsimp only)
            all_goals trivial
          (try simp only [Act.put, List.setIfInBounds_toArray, List.set_cons_zero, List.set_cons_succ])
          refine wpAnyH_ready (rs := [5]) (by kernel_rfl) (by simp) ?_
          refine AllReadyH.cons (o := { dst := some 13, op := Go.Op.buildSlice 99 1 #[(0, Go.Operand.tmp 12)], type := 99, pos := "load.go:63", after := #[{ on := 4, ground := Go.Ground.data }], guard := none }) rfl (fun K5 hK5 => ?_) AllReadyH.nil
          go_simp
          skip
          (try go_wp2_with fail)
          have hk5 : Kept u1 (u1.alloc (.cells #[.int .u64 ((size16 s : Nat) : Int)] 69)) := (Kept.refl _).alloc _
          have hf5 := (cell_newbox u1 (.int .u64 ((size16 s : Nat) : Int)) 69).1
          generalize u1.alloc (.cells #[.int .u64 ((size16 s : Nat) : Int)] 69) = u5 at *
          obtain ⟨gf, HG⟩ : ∃ g, Hid (g = u1.heap.size) := ⟨_, rfl⟩
          rw [← HG.out] at hf5 ⊢
          clear HG
          refine hK5.out _ _ ?_ (fun hHeld => ?_)
          · (try dsimp only)
            all_goals trivial
          (try simp only [Act.put, List.setIfInBounds_toArray, List.set_cons_zero, List.set_cons_succ])
          refine wpAnyH_take (i := 6) (oi := { dst := some 14, op := Go.Op.build 101 #[(0, Go.Operand.tmp 9), (1, Go.Operand.tmp 13)], type := 101, pos := "load.go:63", after := #[{ on := 1, ground := Go.Ground.data }, { on := 5, ground := Go.Ground.data }], guard := none }) (v := ?v13) rfl (by kernel_rfl) (by kernel_rfl) (by kernel_rfl) (fun _ _ _ h => h) (Or.inl ⟨by rfl, ?hy13⟩) (by assumption) ?rs13
          case hy13 =>
            intro w hSw
            (try dsimp only at hSw)
            go_simp
            try with_reducible rfl
          (try simp only [Act.put, List.setIfInBounds_toArray, List.set_cons_zero, List.set_cons_succ])
          refine wpAnyH_ready (rs := [8]) (by kernel_rfl) (by simp) ?_
          refine AllReadyH.cons (o := { dst := none, op := Go.Op.store 101 (Go.Operand.tmp 5) (Go.Operand.tmp 14), type := 0, pos := "load.go:63", after := #[{ on := 7, ground := Go.Ground.data }, { on := 6, ground := Go.Ground.data }, { on := 3, ground := Go.Ground.chain }, { on := 0, ground := Go.Ground.phase }, { on := 1, ground := Go.Ground.phase }, { on := 2, ground := Go.Ground.phase }, { on := 3, ground := Go.Ground.phase }, { on := 4, ground := Go.Ground.phase }, { on := 5, ground := Go.Ground.phase }, { on := 6, ground := Go.Ground.phase }, { on := 7, ground := Go.Ground.phase }], guard := none }) rfl (fun K8 hK8 => ?_) AllReadyH.nil
          have hz8 := (show Kept u7 u5 from (by repeat (first | assumption | exact Kept.refl _ | apply Kept.drew | apply Kept.drewN | apply Kept.alloc | refine Kept.trans ?_ (by assumption)))).row hz7
          obtain ⟨q0, q1, q2, q3⟩ := bx2_cells hz8
          go_simp
          skip
          (try go_wp2_with fail)
          have hg8 := (show Kept u1 u5 from (by repeat (first | assumption | exact Kept.refl _ | apply Kept.drew | apply Kept.drewN | apply Kept.alloc | refine Kept.trans ?_ (by assumption)))).row hg1
          have hf8 := Kept.cellSome (show Kept u5 u5 from (by repeat (first | assumption | exact Kept.refl _ | apply Kept.drew | apply Kept.drewN | apply Kept.alloc | refine Kept.trans ?_ (by assumption)))) hf5
          have hr8 := (show Kept W0 u5 from (by repeat (first | assumption | exact Kept.refl _ | apply Kept.drew | apply Kept.drewN | apply Kept.alloc | refine Kept.trans ?_ (by assumption)))).row hr0
          have hkw8 : Kept W0 u5 := (by repeat (first | assumption | exact Kept.refl _ | apply Kept.drew | apply Kept.drewN | apply Kept.alloc | refine Kept.trans ?_ (by assumption)))
          have ngz : g ≠ z := fun e => row_ne hg8 hz8 (by decide) e
          have nrz : w.heap.size ≠ z := by omega
          have hz9 := bx2_set1 (bx2_set0 hz8 (.slice (some ⟨g, 0, none⟩) n n)) (.slice (some ⟨gf, 0, none⟩) 1 1)
          have hg9 := (hg8.setOther (a := ⟨z, 0, none⟩) ngz (.slice (some ⟨g, 0, none⟩) n n)).setOther (a := ⟨z, 1, none⟩) ngz (.slice (some ⟨gf, 0, none⟩) 1 1)
          have hr9 := (hr8.setOther (a := ⟨z, 0, none⟩) nrz (.slice (some ⟨g, 0, none⟩) n n)).setOther (a := ⟨z, 1, none⟩) nrz (.slice (some ⟨gf, 0, none⟩) 1 1)
          have hI9 : IntKept u5 ((u5.setCell ⟨z, 0, none⟩ (.slice (some ⟨g, 0, none⟩) n n)).setCell ⟨z, 1, none⟩ (.slice (some ⟨gf, 0, none⟩) 1 1)) := (IntKept.set q0 (.slice (some ⟨g, 0, none⟩) n n)).trans (IntKept.set (by exact (bx2_cells (bx2_set0 hz8 (.slice (some ⟨g, 0, none⟩) n n))).2.1) (.slice (some ⟨gf, 0, none⟩) 1 1))
          have hf9 := hI9 _ _ _ hf8
          have hkw9 := (((hkW.trans hkw8).setCell (p := ⟨z, 0, none⟩) (by show w.heap.size ≤ z; omega) (.slice (some ⟨g, 0, none⟩) n n)).setCell (p := ⟨z, 1, none⟩) (by show w.heap.size ≤ z; omega) (.slice (some ⟨gf, 0, none⟩) 1 1))
          refine hK8.out _ _ ?_ (fun hHeld => ?_)
          · (try dsimp only)
            all_goals trivial
          (try simp only [Act.put, List.setIfInBounds_toArray, List.set_cons_zero, List.set_cons_succ])
          refine wpAnyH_done (by kernel_rfl) ?_ _
          go_wp2_with fail
          go_meet
          exact ⟨z, g, gf, rfl, hkw9, by omega, by omega, hr9, hz9, hg9, hf9⟩
        · skip
          go_simp
          skip
          (try go_wp2_with fail)
          have hk5 : Kept u7 (u7.alloc (.cells #[.int .u64 ((size16 s : Nat) : Int)] 69)) := (Kept.refl _).alloc _
          have hf5 := (cell_newbox u7 (.int .u64 ((size16 s : Nat) : Int)) 69).1
          generalize u7.alloc (.cells #[.int .u64 ((size16 s : Nat) : Int)] 69) = u5 at *
          obtain ⟨gf, HG⟩ : ∃ g, Hid (g = u7.heap.size) := ⟨_, rfl⟩
          rw [← HG.out] at hf5 ⊢
          clear HG
          refine hK5.out _ _ ?_ (fun hHeld => ?_)
          · (try dsimp only)
            all_goals trivial
          (try simp only [Act.put, List.setIfInBounds_toArray, List.set_cons_zero, List.set_cons_succ])
          refine wpAnyH_ready (rs := [1]) (by kernel_rfl) (by simp) ?_
          refine AllReadyH.cons (o := { dst := some 9, op := Go.Op.makeSlice 98 (Go.Operand.tmp 8) (Go.Operand.tmp 8), type := 98, pos := "load.go:63", after := #[{ on := 0, ground := Go.Ground.data }, { on := 0, ground := Go.Ground.data }], guard := none }) rfl (fun K1 hK1 => ?_) AllReadyH.nil
          go_simp
          skip
          (try go_wp2_with fail)
          have hk1 : Kept u5 (u5.alloc (.cells (madeCells #[.slice none 0 0] n) 130)) := (Kept.refl _).alloc _
          have hg1 := World.rowIs_made u5 (.slice none 0 0) n 130
          have hgw : W0.heap.size ≤ u5.heap.size := Kept.size (show Kept W0 u5 from (by repeat (first | assumption | exact Kept.refl _ | apply Kept.drew | apply Kept.drewN | apply Kept.alloc | refine Kept.trans ?_ (by assumption))))
          generalize u5.alloc (.cells (madeCells #[.slice none 0 0] n) 130) = u1 at *
          obtain ⟨g, HG⟩ : ∃ g, Hid (g = u5.heap.size) := ⟨_, rfl⟩
          rw [← HG.out] at hg1 hgw ⊢
          clear HG
          refine hK1.out _ _ ?_ (fun hHeld => ?_)
          · (try dsimp only)
            all_goals trivial
          (try simp only [Act.put, List.setIfInBounds_toArray, List.set_cons_zero, List.set_cons_succ])
          refine wpAnyH_take (i := 6) (oi := { dst := some 14, op := Go.Op.build 101 #[(0, Go.Operand.tmp 9), (1, Go.Operand.tmp 13)], type := 101, pos := "load.go:63", after := #[{ on := 1, ground := Go.Ground.data }, { on := 5, ground := Go.Ground.data }], guard := none }) (v := ?v14) rfl (by kernel_rfl) (by kernel_rfl) (by kernel_rfl) (fun _ _ _ h => h) (Or.inl ⟨by rfl, ?hy14⟩) (by assumption) ?rs14
          case hy14 =>
            intro w hSw
            (try dsimp only at hSw)
            go_simp
            try with_reducible rfl
          (try simp only [Act.put, List.setIfInBounds_toArray, List.set_cons_zero, List.set_cons_succ])
          refine wpAnyH_ready (rs := [8]) (by kernel_rfl) (by simp) ?_
          refine AllReadyH.cons (o := { dst := none, op := Go.Op.store 101 (Go.Operand.tmp 5) (Go.Operand.tmp 14), type := 0, pos := "load.go:63", after := #[{ on := 7, ground := Go.Ground.data }, { on := 6, ground := Go.Ground.data }, { on := 3, ground := Go.Ground.chain }, { on := 0, ground := Go.Ground.phase }, { on := 1, ground := Go.Ground.phase }, { on := 2, ground := Go.Ground.phase }, { on := 3, ground := Go.Ground.phase }, { on := 4, ground := Go.Ground.phase }, { on := 5, ground := Go.Ground.phase }, { on := 6, ground := Go.Ground.phase }, { on := 7, ground := Go.Ground.phase }], guard := none }) rfl (fun K8 hK8 => ?_) AllReadyH.nil
          have hz8 := (show Kept u7 u1 from (by repeat (first | assumption | exact Kept.refl _ | apply Kept.drew | apply Kept.drewN | apply Kept.alloc | refine Kept.trans ?_ (by assumption)))).row hz7
          obtain ⟨q0, q1, q2, q3⟩ := bx2_cells hz8
          go_simp
          skip
          (try go_wp2_with fail)
          have hg8 := (show Kept u1 u1 from (by repeat (first | assumption | exact Kept.refl _ | apply Kept.drew | apply Kept.drewN | apply Kept.alloc | refine Kept.trans ?_ (by assumption)))).row hg1
          have hf8 := Kept.cellSome (show Kept u5 u1 from (by repeat (first | assumption | exact Kept.refl _ | apply Kept.drew | apply Kept.drewN | apply Kept.alloc | refine Kept.trans ?_ (by assumption)))) hf5
          have hr8 := (show Kept W0 u1 from (by repeat (first | assumption | exact Kept.refl _ | apply Kept.drew | apply Kept.drewN | apply Kept.alloc | refine Kept.trans ?_ (by assumption)))).row hr0
          have hkw8 : Kept W0 u1 := (by repeat (first | assumption | exact Kept.refl _ | apply Kept.drew | apply Kept.drewN | apply Kept.alloc | refine Kept.trans ?_ (by assumption)))
          have ngz : g ≠ z := fun e => row_ne hg8 hz8 (by decide) e
          have nrz : w.heap.size ≠ z := by omega
          have hz9 := bx2_set1 (bx2_set0 hz8 (.slice (some ⟨g, 0, none⟩) n n)) (.slice (some ⟨gf, 0, none⟩) 1 1)
          have hg9 := (hg8.setOther (a := ⟨z, 0, none⟩) ngz (.slice (some ⟨g, 0, none⟩) n n)).setOther (a := ⟨z, 1, none⟩) ngz (.slice (some ⟨gf, 0, none⟩) 1 1)
          have hr9 := (hr8.setOther (a := ⟨z, 0, none⟩) nrz (.slice (some ⟨g, 0, none⟩) n n)).setOther (a := ⟨z, 1, none⟩) nrz (.slice (some ⟨gf, 0, none⟩) 1 1)
          have hI9 : IntKept u1 ((u1.setCell ⟨z, 0, none⟩ (.slice (some ⟨g, 0, none⟩) n n)).setCell ⟨z, 1, none⟩ (.slice (some ⟨gf, 0, none⟩) 1 1)) := (IntKept.set q0 (.slice (some ⟨g, 0, none⟩) n n)).trans (IntKept.set (by exact (bx2_cells (bx2_set0 hz8 (.slice (some ⟨g, 0, none⟩) n n))).2.1) (.slice (some ⟨gf, 0, none⟩) 1 1))
          have hf9 := hI9 _ _ _ hf8
          have hkw9 := (((hkW.trans hkw8).setCell (p := ⟨z, 0, none⟩) (by show w.heap.size ≤ z; omega) (.slice (some ⟨g, 0, none⟩) n n)).setCell (p := ⟨z, 1, none⟩) (by show w.heap.size ≤ z; omega) (.slice (some ⟨gf, 0, none⟩) 1 1))
          refine hK8.out _ _ ?_ (fun hHeld => ?_)
          · (try dsimp only)
            all_goals trivial
          (try simp only [Act.put, List.setIfInBounds_toArray, List.set_cons_zero, List.set_cons_succ])
          refine wpAnyH_done (by kernel_rfl) ?_ _
          go_wp2_with fail
          go_meet
          exact ⟨z, g, gf, rfl, hkw9, by omega, by omega, hr9, hz9, hg9, hf9⟩
    · skip
      go_simp
      skip
      (try go_wp2_with fail)
      have hk7 : Kept Wd (Wd.alloc (.cells #[.slice none 0 0, .slice none 0 0] 101)) := (Kept.refl _).alloc _
      have hz7 := bx2_row Wd (.slice none 0 0) (.slice none 0 0) 101
      have hzw : W0.heap.size ≤ Wd.heap.size := Kept.size (show Kept W0 Wd from (by repeat (first | assumption | exact Kept.refl _ | apply Kept.drew | apply Kept.drewN | apply Kept.alloc | refine Kept.trans ?_ (by assumption))))
      generalize Wd.alloc (.cells #[.slice none 0 0, .slice none 0 0] 101) = u7 at *
      obtain ⟨z, HG⟩ : ∃ g, Hid (g = Wd.heap.size) := ⟨_, rfl⟩
      rw [← HG.out] at hz7 hzw ⊢
      clear HG
      refine hK7.out _ _ ?_ (fun hHeld => ?_)
      · (try dsimp only)
        all_goals trivial
      (try simp only [Act.put, List.setIfInBounds_toArray, List.set_cons_zero, List.set_cons_succ])
      refine wpAnyH_ready (rs := [1, 3]) (by kernel_rfl) (by simp) ?_
      refine AllReadyH.cons (o := { dst := some 9, op := Go.Op.makeSlice 98 (Go.Operand.tmp 8) (Go.Operand.tmp 8), type := 98, pos := "load.go:63", after := #[{ on := 0, ground := Go.Ground.data }, { on := 0, ground := Go.Ground.data }], guard := none }) rfl (fun K1 hK1 => ?_) (AllReadyH.cons (o := { dst := some 11, op := Go.Op.call { callee := Go.Callee.value (Go.Operand.func 44), args := #[Go.Operand.tmp 10], argTypes := #[84] }, type := 3, pos := "load.go:63", after := #[{ on := 2, ground := Go.Ground.data }], guard := none }) rfl (fun K3 hK3 => ?_) AllReadyH.nil)
      · skip
        go_simp
        skip
        (try go_wp2_with fail)
        have hk1 : Kept u7 (u7.alloc (.cells (madeCells #[.slice none 0 0] n) 130)) := (Kept.refl _).alloc _
        have hg1 := World.rowIs_made u7 (.slice none 0 0) n 130
        have hgw : W0.heap.size ≤ u7.heap.size := Kept.size (show Kept W0 u7 from (by repeat (first | assumption | exact Kept.refl _ | apply Kept.drew | apply Kept.drewN | apply Kept.alloc | refine Kept.trans ?_ (by assumption))))
        generalize u7.alloc (.cells (madeCells #[.slice none 0 0] n) 130) = u1 at *
        obtain ⟨g, HG⟩ : ∃ g, Hid (g = u7.heap.size) := ⟨_, rfl⟩
        rw [← HG.out] at hg1 hgw ⊢
        clear HG
        refine hK1.out _ _ ?_ (fun hHeld => ?_)
        · (try dsimp only)
          all_goals trivial
        (try simp only [Act.put, List.setIfInBounds_toArray, List.set_cons_zero, List.set_cons_succ])
        refine wpAnyH_ready (rs := [3]) (by kernel_rfl) (by simp) ?_
        refine AllReadyH.cons (o := { dst := some 11, op := Go.Op.call { callee := Go.Callee.value (Go.Operand.func 44), args := #[Go.Operand.tmp 10], argTypes := #[84] }, type := 3, pos := "load.go:63", after := #[{ on := 2, ground := Go.Ground.data }], guard := none }) rfl (fun K3 hK3 => ?_) AllReadyH.nil
        go_simp
        (go_at_call 44; refine (SZ.out _).mono ?_; rintro e u3 ⟨rfl, hq3⟩)
        (try go_wp2_with fail)
        have hk3 := hq3.kept
        refine hK3.out _ _ ?_ (fun hHeld => ?_)
        · (try dsimp only)
          all_goals trivial
        (try simp only [Act.put, List.setIfInBounds_toArray, List.set_cons_zero, List.set_cons_succ])
        refine wpAnyH_take (i := 4) (oi := { dst := some 12, op := Go.Op.convert 3 69 (Go.Operand.tmp 11), type := 69, pos := "load.go:63", after := #[{ on := 3, ground := Go.Ground.data }], guard := none }) (v := ?v15) rfl (by kernel_rfl) (by kernel_rfl) (by kernel_rfl) (fun _ _ _ h => h) (Or.inl ⟨by rfl, ?hy15⟩) (by assumption) ?rs15
        case hy15 =>
          intro w hSw
          (try dsimp only at hSw)
          go_simp
          try with_reducible rfl
        (try simp only [Act.put, List.setIfInBounds_toArray, List.set_cons_zero, List.set_cons_succ])
        refine wpAnyH_ready (rs := [5]) (by kernel_rfl) (by simp) ?_
        refine AllReadyH.cons (o := { dst := some 13, op := Go.Op.buildSlice 99 1 #[(0, Go.Operand.tmp 12)], type := 99, pos := "load.go:63", after := #[{ on := 4, ground := Go.Ground.data }], guard := none }) rfl (fun K5 hK5 => ?_) AllReadyH.nil
        go_simp
        skip
        (try go_wp2_with fail)
        have hk5 : Kept u3 (u3.alloc (.cells #[.int .u64 ((size16 s : Nat) : Int)] 69)) := (Kept.refl _).alloc _
        have hf5 := (cell_newbox u3 (.int .u64 ((size16 s : Nat) : Int)) 69).1
        generalize u3.alloc (.cells #[.int .u64 ((size16 s : Nat) : Int)] 69) = u5 at *
        obtain ⟨gf, HG⟩ : ∃ g, Hid (g = u3.heap.size) := ⟨_, rfl⟩
        rw [← HG.out] at hf5 ⊢
        clear HG
        refine hK5.out _ _ ?_ (fun hHeld => ?_)
        · (try dsimp only)
          all_goals trivial
        (try simp only [Act.put, List.setIfInBounds_toArray, List.set_cons_zero, List.set_cons_succ])
        refine wpAnyH_take (i := 6) (oi := { dst := some 14, op := Go.Op.build 101 #[(0, Go.Operand.tmp 9), (1, Go.Operand.tmp 13)], type := 101, pos := "load.go:63", after := #[{ on := 1, ground := Go.Ground.data }, { on := 5, ground := Go.Ground.data }], guard := none }) (v := ?v16) rfl (by kernel_rfl) (by kernel_rfl) (by kernel_rfl) (fun _ _ _ h => h) (Or.inl ⟨by rfl, ?hy16⟩) (by assumption) ?rs16
        case hy16 =>
          intro w hSw
          (try dsimp only at hSw)
          go_simp
          try with_reducible rfl
        (try simp only [Act.put, List.setIfInBounds_toArray, List.set_cons_zero, List.set_cons_succ])
        refine wpAnyH_ready (rs := [8]) (by kernel_rfl) (by simp) ?_
        refine AllReadyH.cons (o := { dst := none, op := Go.Op.store 101 (Go.Operand.tmp 5) (Go.Operand.tmp 14), type := 0, pos := "load.go:63", after := #[{ on := 7, ground := Go.Ground.data }, { on := 6, ground := Go.Ground.data }, { on := 3, ground := Go.Ground.chain }, { on := 0, ground := Go.Ground.phase }, { on := 1, ground := Go.Ground.phase }, { on := 2, ground := Go.Ground.phase }, { on := 3, ground := Go.Ground.phase }, { on := 4, ground := Go.Ground.phase }, { on := 5, ground := Go.Ground.phase }, { on := 6, ground := Go.Ground.phase }, { on := 7, ground := Go.Ground.phase }], guard := none }) rfl (fun K8 hK8 => ?_) AllReadyH.nil
        have hz8 := (show Kept u7 u5 from (by repeat (first | assumption | exact Kept.refl _ | apply Kept.drew | apply Kept.drewN | apply Kept.alloc | refine Kept.trans ?_ (by assumption)))).row hz7
        obtain ⟨q0, q1, q2, q3⟩ := bx2_cells hz8
        go_simp
        skip
        (try go_wp2_with fail)
        have hg8 := (show Kept u1 u5 from (by repeat (first | assumption | exact Kept.refl _ | apply Kept.drew | apply Kept.drewN | apply Kept.alloc | refine Kept.trans ?_ (by assumption)))).row hg1
        have hf8 := Kept.cellSome (show Kept u5 u5 from (by repeat (first | assumption | exact Kept.refl _ | apply Kept.drew | apply Kept.drewN | apply Kept.alloc | refine Kept.trans ?_ (by assumption)))) hf5
        have hr8 := (show Kept W0 u5 from (by repeat (first | assumption | exact Kept.refl _ | apply Kept.drew | apply Kept.drewN | apply Kept.alloc | refine Kept.trans ?_ (by assumption)))).row hr0
        have hkw8 : Kept W0 u5 := (by repeat (first | assumption | exact Kept.refl _ | apply Kept.drew | apply Kept.drewN | apply Kept.alloc | refine Kept.trans ?_ (by assumption)))
        have ngz : g ≠ z := fun e => row_ne hg8 hz8 (by decide) e
        have nrz : w.heap.size ≠ z := by omega
        have hz9 := bx2_set1 (bx2_set0 hz8 (.slice (some ⟨g, 0, none⟩) n n)) (.slice (some ⟨gf, 0, none⟩) 1 1)
        have hg9 := (hg8.setOther (a := ⟨z, 0, none⟩) ngz (.slice (some ⟨g, 0, none⟩) n n)).setOther (a := ⟨z, 1, none⟩) ngz (.slice (some ⟨gf, 0, none⟩) 1 1)
        have hr9 := (hr8.setOther (a := ⟨z, 0, none⟩) nrz (.slice (some ⟨g, 0, none⟩) n n)).setOther (a := ⟨z, 1, none⟩) nrz (.slice (some ⟨gf, 0, none⟩) 1 1)
        have hI9 : IntKept u5 ((u5.setCell ⟨z, 0, none⟩ (.slice (some ⟨g, 0, none⟩) n n)).setCell ⟨z, 1, none⟩ (.slice (some ⟨gf, 0, none⟩) 1 1)) := (IntKept.set q0 (.slice (some ⟨g, 0, none⟩) n n)).trans (IntKept.set (by exact (bx2_cells (bx2_set0 hz8 (.slice (some ⟨g, 0, none⟩) n n))).2.1) (.slice (some ⟨gf, 0, none⟩) 1 1))
        have hf9 := hI9 _ _ _ hf8
        have hkw9 := (((hkW.trans hkw8).setCell (p := ⟨z, 0, none⟩) (by show w.heap.size ≤ z; omega) (.slice (some ⟨g, 0, none⟩) n n)).setCell (p := ⟨z, 1, none⟩) (by show w.heap.size ≤ z; omega) (.slice (some ⟨gf, 0, none⟩) 1 1))
        refine hK8.out _ _ ?_ (fun hHeld => ?_)
        · (try dsimp only)
          all_goals trivial
        (try simp only [Act.put, List.setIfInBounds_toArray, List.set_cons_zero, List.set_cons_succ])
        refine wpAnyH_done (by kernel_rfl) ?_ _
        go_wp2_with fail
        go_meet
        exact ⟨z, g, gf, rfl, hkw9, by omega, by omega, hr9, hz9, hg9, hf9⟩
      · skip
        go_simp
        (go_at_call 44; refine (SZ.out _).mono ?_; rintro e u3 ⟨rfl, hq3⟩)
        (try go_wp2_with fail)
        have hk3 := hq3.kept
        refine hK3.out _ _ ?_ (fun hHeld => ?_)
        · (try dsimp only)
          all_goals trivial
        (try simp only [Act.put, List.setIfInBounds_toArray, List.set_cons_zero, List.set_cons_succ])
        refine wpAnyH_take (i := 4) (oi := { dst := some 12, op := Go.Op.convert 3 69 (Go.Operand.tmp 11), type := 69, pos := "load.go:63", after := #[{ on := 3, ground := Go.Ground.data }], guard := none }) (v := ?v17) rfl (by kernel_rfl) (by kernel_rfl) (by kernel_rfl) (fun _ _ _ h => h) (Or.inl ⟨by rfl, ?hy17⟩) (by assumption) ?rs17
        case hy17 =>
          intro w hSw
          (try dsimp only at hSw)
          go_simp
          try with_reducible rfl
        (try simp only [Act.put, List.setIfInBounds_toArray, List.set_cons_zero, List.set_cons_succ])
        refine wpAnyH_ready (rs := [1, 5]) (by kernel_rfl) (by simp) ?_
        refine AllReadyH.cons (o := { dst := some 9, op := Go.Op.makeSlice 98 (Go.Operand.tmp 8) (Go.Operand.tmp 8), type := 98, pos := "load.go:63", after := #[{ on := 0, ground := Go.Ground.data }, { on := 0, ground := Go.Ground.data }], guard := none }) rfl (fun K1 hK1 => ?_) (AllReadyH.cons (o := { dst := some 13, op := Go.Op.buildSlice 99 1 #[(0, Go.Operand.tmp 12)], type := 99, pos := "load.go:63", after := #[{ on := 4, ground := Go.Ground.data }], guard := none }) rfl (fun K5 hK5 => ?_) AllReadyH.nil)
        · skip
          go_simp
          skip
          (try go_wp2_with fail)
          have hk1 : Kept u3 (u3.alloc (.cells (madeCells #[.slice none 0 0] n) 130)) := (Kept.refl _).alloc _
          have hg1 := World.rowIs_made u3 (.slice none 0 0) n 130
          have hgw : W0.heap.size ≤ u3.heap.size := Kept.size (show Kept W0 u3 from (by repeat (first | assumption | exact Kept.refl _ | apply Kept.drew | apply Kept.drewN | apply Kept.alloc | refine Kept.trans ?_ (by assumption))))
          generalize u3.alloc (.cells (madeCells #[.slice none 0 0] n) 130) = u1 at *
          obtain ⟨g, HG⟩ : ∃ g, Hid (g = u3.heap.size) := ⟨_, rfl⟩
          rw [← HG.out] at hg1 hgw ⊢
          clear HG
          refine hK1.out _ _ ?_ (fun hHeld => ?_)
          · (try dsimp only)
            all_goals trivial
          (try simp only [Act.put, List.setIfInBounds_toArray, List.set_cons_zero, List.set_cons_succ])
          refine wpAnyH_ready (rs := [5]) (by kernel_rfl) (by simp) ?_
          refine AllReadyH.cons (o := { dst := some 13, op := Go.Op.buildSlice 99 1 #[(0, Go.Operand.tmp 12)], type := 99, pos := "load.go:63", after := #[{ on := 4, ground := Go.Ground.data }], guard := none }) rfl (fun K5 hK5 => ?_) AllReadyH.nil
          go_simp
          skip
          (try go_wp2_with fail)
          have hk5 : Kept u1 (u1.alloc (.cells #[.int .u64 ((size16 s : Nat) : Int)] 69)) := (Kept.refl _).alloc _
          have hf5 := (cell_newbox u1 (.int .u64 ((size16 s : Nat) : Int)) 69).1
          generalize u1.alloc (.cells #[.int .u64 ((size16 s : Nat) : Int)] 69) = u5 at *
          obtain ⟨gf, HG⟩ : ∃ g, Hid (g = u1.heap.size) := ⟨_, rfl⟩
          rw [← HG.out] at hf5 ⊢
          clear HG
          refine hK5.out _ _ ?_ (fun hHeld => ?_)
          · (try dsimp only)
            all_goals trivial
          (try simp only [Act.put, List.setIfInBounds_toArray, List.set_cons_zero, List.set_cons_succ])
          refine wpAnyH_take (i := 6) (oi := { dst := some 14, op := Go.Op.build 101 #[(0, Go.Operand.tmp 9), (1, Go.Operand.tmp 13)], type := 101, pos := "load.go:63", after := #[{ on := 1, ground := Go.Ground.data }, { on := 5, ground := Go.Ground.data }], guard := none }) (v := ?v18) rfl (by kernel_rfl) (by kernel_rfl) (by kernel_rfl) (fun _ _ _ h => h) (Or.inl ⟨by rfl, ?hy18⟩) (by assumption) ?rs18
          case hy18 =>
            intro w hSw
            (try dsimp only at hSw)
            go_simp
            try with_reducible rfl
          (try simp only [Act.put, List.setIfInBounds_toArray, List.set_cons_zero, List.set_cons_succ])
          refine wpAnyH_ready (rs := [8]) (by kernel_rfl) (by simp) ?_
          refine AllReadyH.cons (o := { dst := none, op := Go.Op.store 101 (Go.Operand.tmp 5) (Go.Operand.tmp 14), type := 0, pos := "load.go:63", after := #[{ on := 7, ground := Go.Ground.data }, { on := 6, ground := Go.Ground.data }, { on := 3, ground := Go.Ground.chain }, { on := 0, ground := Go.Ground.phase }, { on := 1, ground := Go.Ground.phase }, { on := 2, ground := Go.Ground.phase }, { on := 3, ground := Go.Ground.phase }, { on := 4, ground := Go.Ground.phase }, { on := 5, ground := Go.Ground.phase }, { on := 6, ground := Go.Ground.phase }, { on := 7, ground := Go.Ground.phase }], guard := none }) rfl (fun K8 hK8 => ?_) AllReadyH.nil
          have hz8 := (show Kept u7 u5 from (by repeat (first | assumption | exact Kept.refl _ | apply Kept.drew | apply Kept.drewN | apply Kept.alloc | refine Kept.trans ?_ (by assumption)))).row hz7
          obtain ⟨q0, q1, q2, q3⟩ := bx2_cells hz8
          go_simp
          skip
          (try go_wp2_with fail)
          have hg8 := (show Kept u1 u5 from (by repeat (first | assumption | exact Kept.refl _ | apply Kept.drew | apply Kept.drewN | apply Kept.alloc | refine Kept.trans ?_ (by assumption)))).row hg1
          have hf8 := Kept.cellSome (show Kept u5 u5 from (by repeat (first | assumption | exact Kept.refl _ | apply Kept.drew | apply Kept.drewN | apply Kept.alloc | refine Kept.trans ?_ (by assumption)))) hf5
          have hr8 := (show Kept W0 u5 from (by repeat (first | assumption | exact Kept.refl _ | apply Kept.drew | apply Kept.drewN | apply Kept.alloc | refine Kept.trans ?_ (by assumption)))).row hr0
          have hkw8 : Kept W0 u5 := (by repeat (first | assumption | exact Kept.refl _ | apply Kept.drew | apply Kept.drewN | apply Kept.alloc | refine Kept.trans ?_ (by assumption)))
          have ngz : g ≠ z := fun e => row_ne hg8 hz8 (by decide) e
          have nrz : w.heap.size ≠ z := by omega
          have hz9 := bx2_set1 (bx2_set0 hz8 (.slice (some ⟨g, 0, none⟩) n n)) (.slice (some ⟨gf, 0, none⟩) 1 1)
          have hg9 := (hg8.setOther (a := ⟨z, 0, none⟩) ngz (.slice (some ⟨g, 0, none⟩) n n)).setOther (a := ⟨z, 1, none⟩) ngz (.slice (some ⟨gf, 0, none⟩) 1 1)
          have hr9 := (hr8.setOther (a := ⟨z, 0, none⟩) nrz (.slice (some ⟨g, 0, none⟩) n n)).setOther (a := ⟨z, 1, none⟩) nrz (.slice (some ⟨gf, 0, none⟩) 1 1)
          have hI9 : IntKept u5 ((u5.setCell ⟨z, 0, none⟩ (.slice (some ⟨g, 0, none⟩) n n)).setCell ⟨z, 1, none⟩ (.slice (some ⟨gf, 0, none⟩) 1 1)) := (IntKept.set q0 (.slice (some ⟨g, 0, none⟩) n n)).trans (IntKept.set (by exact (bx2_cells (bx2_set0 hz8 (.slice (some ⟨g, 0, none⟩) n n))).2.1) (.slice (some ⟨gf, 0, none⟩) 1 1))
          have hf9 := hI9 _ _ _ hf8
          have hkw9 := (((hkW.trans hkw8).setCell (p := ⟨z, 0, none⟩) (by show w.heap.size ≤ z; omega) (.slice (some ⟨g, 0, none⟩) n n)).setCell (p := ⟨z, 1, none⟩) (by show w.heap.size ≤ z; omega) (.slice (some ⟨gf, 0, none⟩) 1 1))
          refine hK8.out _ _ ?_ (fun hHeld => ?_)
          · (try dsimp only)
            all_goals trivial
          (try simp only [Act.put, List.setIfInBounds_toArray, List.set_cons_zero, List.set_cons_succ])
          refine wpAnyH_done (by kernel_rfl) ?_ _
          go_wp2_with fail
          go_meet
          exact ⟨z, g, gf, rfl, hkw9, by omega, by omega, hr9, hz9, hg9, hf9⟩
        · skip
          go_simp
          skip
          (try go_wp2_with fail)
          have hk5 : Kept u3 (u3.alloc (.cells #[.int .u64 ((size16 s : Nat) : Int)] 69)) := (Kept.refl _).alloc _
          have hf5 := (cell_newbox u3 (.int .u64 ((size16 s : Nat) : Int)) 69).1
          generalize u3.alloc (.cells #[.int .u64 ((size16 s : Nat) : Int)] 69) = u5 at *
          obtain ⟨gf, HG⟩ : ∃ g, Hid (g = u3.heap.size) := ⟨_, rfl⟩
          rw [← HG.out] at hf5 ⊢
          clear HG
          refine hK5.out _ _ ?_ (fun hHeld => ?_)
          · (try dsimp only)
            all_goals trivial
          (try simp only [Act.put, List.setIfInBounds_toArray, List.set_cons_zero, List.set_cons_succ])
          refine wpAnyH_ready (rs := [1]) (by kernel_rfl) (by simp) ?_
          refine AllReadyH.cons (o := { dst := some 9, op := Go.Op.makeSlice 98 (Go.Operand.tmp 8) (Go.Operand.tmp 8), type := 98, pos := "load.go:63", after := #[{ on := 0, ground := Go.Ground.data }, { on := 0, ground := Go.Ground.data }], guard := none }) rfl (fun K1 hK1 => ?_) AllReadyH.nil
          go_simp
          skip
          (try go_wp2_with fail)
          have hk1 : Kept u5 (u5.alloc (.cells (madeCells #[.slice none 0 0] n) 130)) := (Kept.refl _).alloc _
          have hg1 := World.rowIs_made u5 (.slice none 0 0) n 130
          have hgw : W0.heap.size ≤ u5.heap.size := Kept.size (show Kept W0 u5 from (by repeat (first | assumption | exact Kept.refl _ | apply Kept.drew | apply Kept.drewN | apply Kept.alloc | refine Kept.trans ?_ (by assumption))))
          generalize u5.alloc (.cells (madeCells #[.slice none 0 0] n) 130) = u1 at *
          obtain ⟨g, HG⟩ : ∃ g, Hid (g = u5.heap.size) := ⟨_, rfl⟩
          rw [← HG.out] at hg1 hgw ⊢
          clear HG
          refine hK1.out _ _ ?_ (fun hHeld => ?_)
          · (try dsimp only)
            all_goals trivial
          (try simp only [Act.put, List.setIfInBounds_toArray, List.set_cons_zero, List.set_cons_succ])
          refine wpAnyH_take (i := 6) (oi := { dst := some 14, op := Go.Op.build 101 #[(0, Go.Operand.tmp 9), (1, Go.Operand.tmp 13)], type := 101, pos := "load.go:63", after := #[{ on := 1, ground := Go.Ground.data }, { on := 5, ground := Go.Ground.data }], guard := none }) (v := ?v19) rfl (by kernel_rfl) (by kernel_rfl) (by kernel_rfl) (fun _ _ _ h => h) (Or.inl ⟨by rfl, ?hy19⟩) (by assumption) ?rs19
          case hy19 =>
            intro w hSw
            (try dsimp only at hSw)
            go_simp
            try with_reducible rfl
          (try simp only [Act.put, List.setIfInBounds_toArray, List.set_cons_zero, List.set_cons_succ])
          refine wpAnyH_ready (rs := [8]) (by kernel_rfl) (by simp) ?_
          refine AllReadyH.cons (o := { dst := none, op := Go.Op.store 101 (Go.Operand.tmp 5) (Go.Operand.tmp 14), type := 0, pos := "load.go:63", after := #[{ on := 7, ground := Go.Ground.data }, { on := 6, ground := Go.Ground.data }, { on := 3, ground := Go.Ground.chain }, { on := 0, ground := Go.Ground.phase }, { on := 1, ground := Go.Ground.phase }, { on := 2, ground := Go.Ground.phase }, { on := 3, ground := Go.Ground.phase }, { on := 4, ground := Go.Ground.phase }, { on := 5, ground := Go.Ground.phase }, { on := 6, ground := Go.Ground.phase }, { on := 7, ground := Go.Ground.phase }], guard := none }) rfl (fun K8 hK8 => ?_) AllReadyH.nil
          have hz8 := (show Kept u7 u1 from (by repeat (first | assumption | exact Kept.refl _ | apply Kept.drew | apply Kept.drewN | apply Kept.alloc | refine Kept.trans ?_ (by assumption)))).row hz7
          obtain ⟨q0, q1, q2, q3⟩ := bx2_cells hz8
          go_simp
          skip
          (try go_wp2_with fail)
          have hg8 := (show Kept u1 u1 from (by repeat (first | assumption | exact Kept.refl _ | apply Kept.drew | apply Kept.drewN | apply Kept.alloc | refine Kept.trans ?_ (by assumption)))).row hg1
          have hf8 := Kept.cellSome (show Kept u5 u1 from (by repeat (first | assumption | exact Kept.refl _ | apply Kept.drew | apply Kept.drewN | apply Kept.alloc | refine Kept.trans ?_ (by assumption)))) hf5
          have hr8 := (show Kept W0 u1 from (by repeat (first | assumption | exact Kept.refl _ | apply Kept.drew | apply Kept.drewN | apply Kept.alloc | refine Kept.trans ?_ (by assumption)))).row hr0
          have hkw8 : Kept W0 u1 := (by repeat (first | assumption | exact Kept.refl _ | apply Kept.drew | apply Kept.drewN | apply Kept.alloc | refine Kept.trans ?_ (by assumption)))
          have ngz : g ≠ z := fun e => row_ne hg8 hz8 (by decide) e
          have nrz : w.heap.size ≠ z := by omega
          have hz9 := bx2_set1 (bx2_set0 hz8 (.slice (some ⟨g, 0, none⟩) n n)) (.slice (some ⟨gf, 0, none⟩) 1 1)
          have hg9 := (hg8.setOther (a := ⟨z, 0, none⟩) ngz (.slice (some ⟨g, 0, none⟩) n n)).setOther (a := ⟨z, 1, none⟩) ngz (.slice (some ⟨gf, 0, none⟩) 1 1)
          have hr9 := (hr8.setOther (a := ⟨z, 0, none⟩) nrz (.slice (some ⟨g, 0, none⟩) n n)).setOther (a := ⟨z, 1, none⟩) nrz (.slice (some ⟨gf, 0, none⟩) 1 1)
          have hI9 : IntKept u1 ((u1.setCell ⟨z, 0, none⟩ (.slice (some ⟨g, 0, none⟩) n n)).setCell ⟨z, 1, none⟩ (.slice (some ⟨gf, 0, none⟩) 1 1)) := (IntKept.set q0 (.slice (some ⟨g, 0, none⟩) n n)).trans (IntKept.set (by exact (bx2_cells (bx2_set0 hz8 (.slice (some ⟨g, 0, none⟩) n n))).2.1) (.slice (some ⟨gf, 0, none⟩) 1 1))
          have hf9 := hI9 _ _ _ hf8
          have hkw9 := (((hkW.trans hkw8).setCell (p := ⟨z, 0, none⟩) (by show w.heap.size ≤ z; omega) (.slice (some ⟨g, 0, none⟩) n n)).setCell (p := ⟨z, 1, none⟩) (by show w.heap.size ≤ z; omega) (.slice (some ⟨gf, 0, none⟩) 1 1))
          refine hK8.out _ _ ?_ (fun hHeld => ?_)
          · (try dsimp only)
            all_goals trivial
          (try simp only [Act.put, List.setIfInBounds_toArray, List.set_cons_zero, List.set_cons_succ])
          refine wpAnyH_done (by kernel_rfl) ?_ _
          go_wp2_with fail
          go_meet
          exact ⟨z, g, gf, rfl, hkw9, by omega, by omega, hr9, hz9, hg9, hf9⟩
  case rest =>
    obtain ⟨z, g, gf, rfl, hkx, hzw, hgw, hr, hz, hg, hf⟩ := hcut
    have ngz : g ≠ z := row_ne hg hz (by decide)
    have nrg : w.heap.size ≠ g := by omega
    have nrz : w.heap.size ≠ z := by omega
    clear hmk SZ hr0 hkW hW0 hbit hcv
    go_wp2_with (first | (go_at_call 43; refine (HO.out _).mono ?_; rintro e w2 ⟨vl, rfl, hOl, hk2⟩; obtain ⟨la, lc, rfl⟩ := own_shape hOl))
    have hLA := NatsAt.of_own hOl
    obtain ⟨la', lb, lo, lcap, e, hla, hlc⟩ := hLA
    cases e
    have HLC := Lib.hid hlc
    have hr2 := hk2.row hr
    have hz2 := hk2.row hz
    have hf2 := Kept.ints hk2 _ _ _ hf
    have hP0 : PartsAt w2 g n n (memZ L 0) := ⟨_, hk2.row hg, Nat.le_refl _, fun t _ => by
      have : memZ L 0 t = 0 := by unfold memZ; rw [if_neg (by simp)]
      rw [this]
      exact NatAt.nil _⟩
    have hK2 := hkx.trans hk2
    clear hr hz hg hf hOl hlc hkx hk2 HO
    go_loopg [18] L.length (fun mm s18 wr => ∃ i : Nat, i ≤ L.length ∧ mm = L.length - i ∧ s18 = .int .i64 i ∧ Kept w wr ∧ IntKept w2 wr ∧ wr.rowIs w.heap.size 101 2 (bx2 (.slice none 0 0) (.slice none 0 0)) ∧ wr.rowIs z 101 2 (bx2 (.slice (some ⟨g, 0, none⟩) n n) (.slice (some ⟨gf, 0, none⟩) 1 1)) ∧ PartsAt wr g n n (memZ L i))
    case atStart => exact ⟨0, Nat.zero_le _, rfl, by first | rfl | go_num, hK2, IntKept.refl _, hr2, hz2, hP0⟩
    case round =>
      clear hK2 hr2 hz2 hP0
      obtain ⟨i, hi, rfl, rfl, hK, hI, hr, hz, hP⟩ := hrel
      by_cases hlt : i < L.length
      · obtain rfl := hla (by omega)
        have s1 : (i : Int) < (L.length : Int) := by omega
        have s2 : (0 : Int) ≤ (i : Int) := by omega
        have tl := hI _ _ _ (HLC.out i hlt)
        (try dsimp only at tl)
        have HMZ : Hid (updZ (memZ L i) (L.getD i 0) 1 = memZ L (i + 1)) := memZ_succ L i hlt
        have hjn := HLN.out i hlt
        obtain ⟨j, HJ⟩ : ∃ j, Hid (j = L.getD i 0) := ⟨_, rfl⟩
        rw [← HJ.out] at tl HMZ hjn
        have s3 : (j : Int) < (n : Int) := by omega
        have s4 : (0 : Int) ≤ (j : Int) := by omega
        obtain ⟨d0, d1, d2, d3'⟩ := bx2_cells hz
        clear HJ
        go_wp2_with fail
        refine wp_region_held_drew (S := (fun w' => w'.cell? ⟨z, 0, none⟩ = some (.slice (some ⟨g, 0, none⟩) n n))) (by kernel_rfl) ?_ (fun hHeld => ?_)
        · (try dsimp only)
          exact d0
        refine wpAnyH_take (i := 0) (oi := { dst := some 22, op := Go.Op.fieldAddr 101 (Go.Operand.tmp 5) 0, type := 0, pos := "load.go:65", after := #[], guard := none }) (v := ?v20) rfl (by kernel_rfl) (by kernel_rfl) (by kernel_rfl) (fun _ _ _ h => h) (Or.inl ⟨by rfl, ?hy20⟩) (by assumption) ?rs20
        case hy20 =>
          intro w hSw
          (try dsimp only at hSw)
          go_simp
          try with_reducible rfl
        (try simp only [Act.put, List.setIfInBounds_toArray, List.set_cons_zero, List.set_cons_succ])
        refine wpAnyH_take (i := 1) (oi := { dst := some 23, op := Go.Op.load 98 (Go.Operand.tmp 22), type := 98, pos := "load.go:65", after := #[{ on := 0, ground := Go.Ground.data }], guard := none }) (v := ?v21) rfl (by kernel_rfl) (by kernel_rfl) (by kernel_rfl) (fun _ _ _ h => h) (Or.inl ⟨by rfl, ?hy21⟩) (by assumption) ?rs21
        case hy21 =>
          intro w hSw
          (try dsimp only at hSw)
          go_simp
          try with_reducible rfl
        (try simp only [Act.put, List.setIfInBounds_toArray, List.set_cons_zero, List.set_cons_succ])
        refine wpAnyH_take (i := 2) (oi := { dst := some 24, op := Go.Op.move (Go.Operand.tmp 7), type := 3, pos := "load.go:65", after := #[], guard := none }) (v := ?v22) rfl (by kernel_rfl) (by kernel_rfl) (by kernel_rfl) (fun _ _ _ h => h) (Or.inl ⟨by rfl, ?hy22⟩) (by assumption) ?rs22
        case hy22 =>
          intro w hSw
          (try dsimp only at hSw)
          go_simp
          try with_reducible rfl
        (try simp only [Act.put, List.setIfInBounds_toArray, List.set_cons_zero, List.set_cons_succ])
        refine wpAnyH_ready (rs := [3]) (by kernel_rfl) (by simp) ?_
        refine AllReadyH.cons (o := { dst := some 25, op := Go.Op.call { callee := Go.Callee.value (Go.Operand.func 82), args := #[Go.Operand.const (Go.Value.int Go.IntKind.u64 1)], argTypes := #[69] }, type := 130, pos := "load.go:65", after := #[], guard := none }) rfl (fun K3 hK3 => ?_) AllReadyH.nil
        go_simp
        (go_at_call 82; refine (SM.out _).mono ?_; rintro e u3 ⟨v3, rfl, hN3, hu3⟩; obtain ⟨a3, k3, c3, rfl⟩ := natAt_slice hN3)
        (try go_wp2_with fail)
        have hKu : Kept wr u3 := (by repeat (first | assumption | exact Kept.refl _ | apply Kept.drew | apply Kept.drewN | apply Kept.alloc | refine Kept.trans ?_ (by assumption)))
        have d3 := hKu.cellSome d0
        have hP3 := hP.kept hKu
        obtain ⟨PP, hR3, hnN3, hZ3⟩ := id hP3
        have t3 := hR3.cell hjn
        have f3 := hR3.frozen j
        obtain ⟨a4, k4, c4, e4⟩ := natAt_slice (hZ3 j hjn)
        rw [e4] at t3
        refine hK3.out _ _ ?_ (fun hHeld => ?_)
        · (try dsimp only)
          exact d3
        (try simp only [Act.put, List.setIfInBounds_toArray, List.set_cons_zero, List.set_cons_succ])
        refine wpAnyH_take (i := 4) (oi := { dst := some 26, op := Go.Op.indexAddr 98 (Go.Operand.tmp 23) (Go.Operand.tmp 24), type := 0, pos := "load.go:65", after := #[{ on := 1, ground := Go.Ground.data }, { on := 2, ground := Go.Ground.data }, { on := 0, ground := Go.Ground.phase }, { on := 1, ground := Go.Ground.phase }, { on := 2, ground := Go.Ground.phase }, { on := 3, ground := Go.Ground.phase }], guard := none }) (v := ?v23) rfl (by kernel_rfl) (by kernel_rfl) (by kernel_rfl) (fun _ _ _ h => h) (Or.inl ⟨by rfl, ?hy23⟩) (by assumption) ?rs23
        case hy23 =>
          intro w hSw
          (try dsimp only at hSw)
          go_simp
          try with_reducible rfl
        (try simp only [Act.put, List.setIfInBounds_toArray, List.set_cons_zero, List.set_cons_succ])
        refine wpAnyH_ready (rs := [5]) (by kernel_rfl) (by simp) ?_
        refine AllReadyH.cons (o := { dst := none, op := Go.Op.store 130 (Go.Operand.tmp 26) (Go.Operand.tmp 25), type := 0, pos := "load.go:65", after := #[{ on := 4, ground := Go.Ground.data }, { on := 3, ground := Go.Ground.data }, { on := 3, ground := Go.Ground.chain }, { on := 0, ground := Go.Ground.phase }, { on := 1, ground := Go.Ground.phase }, { on := 2, ground := Go.Ground.phase }, { on := 3, ground := Go.Ground.phase }], guard := none }) rfl (fun K5 hK5 => ?_) AllReadyH.nil
        go_simp
        skip
        (try go_wp2_with fail)
        have hX5 : KeptX (fun k => k = g) u3 (u3.setCell ⟨g, j, none⟩ (.slice a3 k3 c3)) := (KeptX.refl (fun k => k = g) u3).setIn j _
        have hP5 := hP3.set j hjn hN3
        have hI5 := hP3.ints j hjn (.slice a3 k3 c3)
        have d5 := KeptX.cellSome hX5 d3 (show ¬ z = g from Ne.symm ngz)
        refine hK5.out _ _ ?_ (fun hHeld => ?_)
        · (try dsimp only)
          exact d5
        (try simp only [Act.put, List.setIfInBounds_toArray, List.set_cons_zero, List.set_cons_succ])
        refine wpAnyH_done (by kernel_rfl) ?_ _
        have hKw5 : Kept w (u3.setCell ⟨g, j, none⟩ (.slice a3 k3 c3)) := (hK.trans hKu).setCell (p := ⟨g, j, none⟩) (by show w.heap.size ≤ g; omega) _
        have hr5 := hX5.row (hKu.row hr) (show ¬ w.heap.size = g from nrg)
        have hz5 := hX5.row (hKu.row hz) (show ¬ z = g from Ne.symm ngz)
        have hII : IntKept w2 (u3.setCell ⟨g, j, none⟩ (.slice a3 k3 c3)) := (hI.trans (Kept.ints hKu)).trans hI5
        have HP5 : Hid (PartsAt (u3.setCell ⟨g, j, none⟩ (.slice a3 k3 c3)) g n n (memZ L (i + 1))) := by show PartsAt _ _ _ _ _; rw [← HMZ.out]; exact hP5
        clear hX5 hP5 hI5 d5 hR3 hZ3 t3 f3 hP3 hN3 hKu hHeld hu3 d3 e4
        go_wp2_with fail
        go_roundg (L.length - (i + 1))
        case measure => omega
        case rel => exact ⟨i + 1, by omega, rfl, by first | rfl | go_num, hKw5, hII, hr5, hz5, HP5.out⟩
      · obtain rfl : i = L.length := by omega
        have s1 : ¬ (L.length : Int) < (L.length : Int) := by omega
        obtain ⟨d0, d1, _, _⟩ := bx2_cells hz
        obtain ⟨q0, q1, q2, q3⟩ := bx2_cells hr
        have hr9 := bx2_set1 (bx2_set0 hr (.slice (some ⟨g, 0, none⟩) n n)) (.slice (some ⟨gf, 0, none⟩) 1 1)
        have hK9 := (hK.setCell (p := ⟨w.heap.size, 0, none⟩) (Nat.le_refl _) (.slice (some ⟨g, 0, none⟩) n n)).setCell (p := ⟨w.heap.size, 1, none⟩) (Nat.le_refl _) (.slice (some ⟨gf, 0, none⟩) 1 1)
        have hI9 : IntKept wr ((wr.setCell ⟨w.heap.size, 0, none⟩ (.slice (some ⟨g, 0, none⟩) n n)).setCell ⟨w.heap.size, 1, none⟩ (.slice (some ⟨gf, 0, none⟩) 1 1)) := (IntKept.set q0 (.slice (some ⟨g, 0, none⟩) n n)).trans (IntKept.set (by exact (bx2_cells (bx2_set0 hr (.slice (some ⟨g, 0, none⟩) n n))).2.1) (.slice (some ⟨gf, 0, none⟩) 1 1))
        obtain ⟨PP, hR, hnN, hZ⟩ := hP
        have HPA : Hid (PartsAt ((wr.setCell ⟨w.heap.size, 0, none⟩ (.slice (some ⟨g, 0, none⟩) n n)).setCell ⟨w.heap.size, 1, none⟩ (.slice (some ⟨gf, 0, none⟩) 1 1)) g n n (memZ L L.length)) := ⟨PP, (hR.setOther (a := ⟨w.heap.size, 0, none⟩) (Ne.symm nrg) (.slice (some ⟨g, 0, none⟩) n n)).setOther (a := ⟨w.heap.size, 1, none⟩) (Ne.symm nrg) (.slice (some ⟨gf, 0, none⟩) 1 1), hnN, fun t ht => (hZ t ht).keptI hI9⟩
        have HCF : Hid (CellsAt ((wr.setCell ⟨w.heap.size, 0, none⟩ (.slice (some ⟨g, 0, none⟩) n n)).setCell ⟨w.heap.size, 1, none⟩ (.slice (some ⟨gf, 0, none⟩) 1 1)) (.slice (some ⟨gf, 0, none⟩) 1 1) 1 (fun _ => .int .u64 ((size16 s : Nat) : Int))) := by
          show CellsAt _ _ _ _
          exact ⟨_, gf, 0, 1, rfl, fun _ => rfl, fun t ht => by
            obtain rfl : t = 0 := by omega
            exact hI9 _ _ _ (hI _ _ _ hf2)⟩
        obtain ⟨g0, g1, _, _⟩ := bx2_cells hr9
        clear hR hZ hI9 hr9 hr hz hI HLC
        go_wp2_with fail
        exact bodyPost_ret (v := .agg #[(.slice (some ⟨g, 0, none⟩) n n), (.slice (some ⟨gf, 0, none⟩) 1 1)]) (by simp [results, Tryz.results63, go_sem, g0, g1]) rfl ⟨g, gf, rfl, hK9, by omega, HPA.out, HCF.out⟩
end Go.Proofs.YtlnlddnjalfamaaGreatDoor
