/-
  Package herd: loadOf.
-/
import Derived.Test.YtlnlddnjalfamaaGreatDoorIa
import Derived.Test.YtlnlddnjalfamaaGreatDoorHt
import Derived.Test.YtlnlddnjalfamaaGreatDoorHp
import Derived.Test.YtlnlddnjalfamaaGreatDoorIe
import Derived.RegionTactic
namespace Go.Proofs.YtlnlddnjalfamaaGreatDoor
open Go.RowKit Go.Deep Go.Shelf

theorem mkU64 (n : Nat) (hn : n ≤ 1000000) (w : World) :
    (Instr.makeSlice 99 (.int .i64 n) (.int .i64 n)).run Tryz.prog w = .ok (.slice (some ⟨w.heap.size, 0, none⟩) n n) (w.alloc (.cells (madeCells #[.int .u64 0] n) 69)) :=
  run_make_row' (P := Tryz.prog) 99 69 (.int .u64 0) 8 Tryz.underlying99 Tryz.infoU8 rfl .i64 .i64 n (by omega) (by omega) w
def bx2 (x y : Value) : Nat → Value := fun i => if i = 0 then x else y
theorem bx2_row (w : World) (x y : Value) (t : TypeId) : (w.alloc (.cells #[x, y] t)).rowIs w.heap.size t 2 (bx2 x y) :=
  World.rowIs_alloc w #[x, y] t (bx2 x y) (fun j hj => by
    have : j = 0 ∨ j = 1 := by simp at hj; omega
    rcases this with rfl | rfl <;> rfl)
theorem bx2_set0 {w : World} {b : Nat} {t : TypeId} {x y : Value} (h : w.rowIs b t 2 (bx2 x y)) (v : Value) : (w.setCell ⟨b, 0, none⟩ v).rowIs b t 2 (bx2 v y) :=
  (h.set 0 v).congr (fun j hj => by
    have : j = 0 ∨ j = 1 := by omega
    rcases this with rfl | rfl <;> simp [bx2])
theorem bx2_set1 {w : World} {b : Nat} {t : TypeId} {x y : Value} (h : w.rowIs b t 2 (bx2 x y)) (v : Value) : (w.setCell ⟨b, 1, none⟩ v).rowIs b t 2 (bx2 x v) :=
  (h.set 1 v).congr (fun j hj => by
    have : j = 0 ∨ j = 1 := by omega
    rcases this with rfl | rfl <;> simp [bx2])
theorem bx2_cells {w : World} {b : Nat} {t : TypeId} {x y : Value} (h : w.rowIs b t 2 (bx2 x y)) : w.cell? ⟨b, 0, none⟩ = some x ∧ w.cell? ⟨b, 1, none⟩ = some y ∧ w.frozen? ⟨b, 0, none⟩ = false ∧ w.frozen? ⟨b, 1, none⟩ = false :=
  ⟨h.cell (show 0 < 2 by omega), h.cell (show 1 < 2 by omega), h.frozen 0, h.frozen 1⟩
/-- the first i numbers, and zeros -/
def fillF (F : Nat → Nat) (i t : Nat) : Int := if t < i then ((F t : Nat) : Int) else 0
theorem fill_at (F : Nat → Nat) (i t : Nat) : (if t = i then Value.int .u64 ((F i : Nat) : Int) else .int .u64 (fillF F i t)) = .int .u64 (fillF F (i + 1) t) := by
  unfold fillF
  by_cases e : t = i
  · subst e
    rw [if_pos rfl, if_pos (by omega)]
  · rw [if_neg e]
    by_cases h : t < i
    · rw [if_pos h, if_pos (by omega)]
    · rw [if_neg h, if_neg (by omega)]
def LoadPost (w : World) (n : Nat) (Z : Nat → Int) (F : Nat → Nat) (e : Ending) (w' : World) : Prop :=
  ∃ g N cap gf, e = .returned (.tuple #[.agg #[.slice (some ⟨g, 0, none⟩) n cap, .slice (some ⟨gf, 0, none⟩) n n], .bool true]) ∧ Kept w w' ∧ w.heap.size ≤ g ∧ PartsAt w' g N n Z ∧ CellsAt w' (.slice (some ⟨gf, 0, none⟩) n n) n (fun i => .int .u64 ((F i : Nat) : Int))
set_option maxRecDepth 100000 in
set_option maxHeartbeats 8000000 in
theorem loadOf_any (w : World) (n : Nat) (vw : Value) (S : Nat → ByteArray) (T F : Nat → Nat) (hn0 : 0 < n) (hn : n ≤ 9) (hW : StrsAt w vw n S)
    (hWO : ∀ i, i < n → ∀ W, Calls Tryz.prog 79 #[.string (S i)] W fun e w' => e = .returned (.tuple #[.int .u64 ((T i : Nat) : Int), .int .u64 ((F i : Nat) : Int), .bool true]) ∧ Kept W w')
    (hT : ∀ i, i < n → T i < 1000000000000) (hF : ∀ i, i < n → F i ≤ 1000000000000)
    (hs : sumZ (partZ T F n) n = prodN F n) :
    Calls Tryz.prog 53 #[.int .i64 n, vw] w (LoadPost w n (partZ T F n) F) := by
  obtain ⟨aw, bw, ow, capw, rfl, haw, hcw⟩ := hW
  obtain rfl := haw hn0
  have MK := mkU64 n (by omega)
  obtain ⟨i0, hi0, hz0, hz1, hz2⟩ := info_parts Tryz.infoNat
  have HT12 := Lib.hid hT
  have HF12 := Lib.hid hF
  have HCW := Lib.hid hcw
  have HWO := Lib.hid hWO
  clear hcw hWO hT hF
  go_enter Tryz.func53, Tryz.ntmps53
  go_wp2_with fail
  have hr0 := ((((bx2_row w (.slice none 0 0) (.slice none 0 0) 101).alloc (.cells (madeCells #[.int .u64 0] n) 69)).alloc (.cells #[.slice none 0 0, .slice (some ⟨w.heap.size + 1, 0, none⟩) n n] 101)).alloc (.cells (madeCells #[.int .u64 0] n) 69))
  have hf0 := (((World.rowIs_made (w.alloc (.cells #[.slice none 0 0, .slice none 0 0] 101)) (.int .u64 0) n 69).alloc (.cells #[.slice none 0 0, .slice (some ⟨w.heap.size + 1, 0, none⟩) n n] 101)).alloc (.cells (madeCells #[.int .u64 0] n) 69))
  have hb0 := ((bx2_row ((w.alloc (.cells #[.slice none 0 0, .slice none 0 0] 101)).alloc (.cells (madeCells #[.int .u64 0] n) 69)) (.slice none 0 0) (.slice (some ⟨w.heap.size + 1, 0, none⟩) n n) 101).alloc (.cells (madeCells #[.int .u64 0] n) 69))
  have ht0 := World.rowIs_made (((w.alloc (.cells #[.slice none 0 0, .slice none 0 0] 101)).alloc (.cells (madeCells #[.int .u64 0] n) 69)).alloc (.cells #[.slice none 0 0, .slice (some ⟨w.heap.size + 1, 0, none⟩) n n] 101)) (.int .u64 0) n 69
  have hK0 : Kept w ((((w.alloc (.cells #[.slice none 0 0, .slice none 0 0] 101)).alloc (.cells (madeCells #[.int .u64 0] n) 69)).alloc (.cells #[.slice none 0 0, .slice (some ⟨w.heap.size + 1, 0, none⟩) n n] 101)).alloc (.cells (madeCells #[.int .u64 0] n) 69)) := ((((Kept.refl w).alloc _).alloc _).alloc _).alloc _
  simp only [World.size_alloc] at hf0 hb0 ht0
  generalize ((((w.alloc (.cells #[.slice none 0 0, .slice none 0 0] 101)).alloc (.cells (madeCells #[.int .u64 0] n) 69)).alloc (.cells #[.slice none 0 0, .slice (some ⟨w.heap.size + 1, 0, none⟩) n n] 101)).alloc (.cells (madeCells #[.int .u64 0] n) 69)) = W at *
  obtain ⟨gt, HGT⟩ : ∃ g, Hid (g = w.heap.size + 1 + 1 + 1) := ⟨_, rfl⟩
  obtain ⟨z6, HZ6⟩ : ∃ g, Hid (g = w.heap.size + 1 + 1) := ⟨_, rfl⟩
  obtain ⟨gf, HGF⟩ : ∃ g, Hid (g = w.heap.size + 1) := ⟨_, rfl⟩
  obtain ⟨r4, HR4⟩ : ∃ g, Hid (g = w.heap.size) := ⟨_, rfl⟩
  rw [← HGT.out] at ht0 ⊢
  rw [← HZ6.out] at hb0 ⊢
  rw [← HGF.out] at hf0 hb0 ⊢
  rw [← HR4.out] at hr0 ⊢
  have hgtw : w.heap.size ≤ gt := by rw [HGT.out]; omega
  have hgfw : w.heap.size ≤ gf := by rw [HGF.out]; omega
  have hr4w : w.heap.size ≤ r4 := by rw [HR4.out]; omega
  have hz6w : w.heap.size ≤ z6 := by rw [HZ6.out]; omega
  have nzt : z6 ≠ gt := by rw [HGT.out, HZ6.out]; omega
  have nft : gf ≠ gt := by rw [HGT.out, HGF.out]; omega
  have nrt : r4 ≠ gt := by rw [HGT.out, HR4.out]; omega
  have nzf : z6 ≠ gf := by rw [HGF.out, HZ6.out]; omega
  have ntf : gt ≠ gf := Ne.symm nft
  have nrf : r4 ≠ gf := by rw [HGF.out, HR4.out]; omega
  have nrz : r4 ≠ z6 := by rw [HZ6.out, HR4.out]; omega
  clear HGT HZ6 HGF HR4
  go_loopg [25] n (fun mm s25 wr => ∃ i : Nat, i ≤ n ∧ mm = n - i ∧ s25 = .int .i64 i ∧ Kept w wr ∧ wr.rowIs r4 101 2 (bx2 (.slice none 0 0) (.slice none 0 0)) ∧ wr.rowIs z6 101 2 (bx2 (.slice none 0 0) (.slice (some ⟨gf, 0, none⟩) n n)) ∧ wr.rowIs gf 69 n (fun t => .int .u64 (fillF F i t)) ∧ wr.rowIs gt 69 n (fun t => .int .u64 (fillF T i t)))
  case atStart => exact ⟨0, Nat.zero_le _, rfl, by first | rfl | go_num, hK0, hr0, hb0, hf0, ht0⟩
  case round =>
    clear hK0 hr0 hb0 hf0 ht0
    obtain ⟨i, hi, rfl, rfl, hK, hr, hb, hRf, hRt⟩ := hrel
    by_cases hlt : i < n
    · have s1 : (i : Int) < (n : Int) := by omega
      have s2 : (0 : Int) ≤ (i : Int) := by omega
      have tw := hK.cellSome (HCW.out i hlt)
      have WO := Lib.hid (fun W => HWO.out i hlt W)
      obtain ⟨si, HSI⟩ : ∃ si, Hid (si = S i) := ⟨_, rfl⟩
      rw [← HSI.out] at tw WO
      have dz := (bx2_cells hb).2.1
      clear HSI
      go_wp2_with fail
      refine wp_region_held_drew (S := (fun w' => w'.cell? ⟨z6, 1, none⟩ = some (.slice (some ⟨gf, 0, none⟩) n n))) (by kernel_rfl) ?_ (fun hHeld => ?_)
      · (try dsimp only)
        exact (bx2_cells hb).2.1
      refine wpAnyH_take (i := 0) (oi := { dst := some 31, op := Go.Op.move (Go.Operand.tmp 7), type := 99, pos := "load.go:29", after := #[], guard := none }) (v := ?v1) rfl (by kernel_rfl) (by kernel_rfl) (by kernel_rfl) (fun _ _ _ h => h) (Or.inl ⟨by rfl, ?hy1⟩) (by assumption) ?rs1
      case hy1 =>
        intro w hSw
        (try dsimp only at hSw)
        go_simp
        try with_reducible rfl
      (try simp only [Act.put, List.setIfInBounds_toArray, List.set_cons_zero, List.set_cons_succ])
      refine wpAnyH_take (i := 1) (oi := { dst := some 32, op := Go.Op.move (Go.Operand.tmp 8), type := 3, pos := "load.go:29", after := #[], guard := none }) (v := ?v2) rfl (by kernel_rfl) (by kernel_rfl) (by kernel_rfl) (fun _ _ _ h => h) (Or.inl ⟨by rfl, ?hy2⟩) (by assumption) ?rs2
      case hy2 =>
        intro w hSw
        (try dsimp only at hSw)
        go_simp
        try with_reducible rfl
      (try simp only [Act.put, List.setIfInBounds_toArray, List.set_cons_zero, List.set_cons_succ])
      refine wpAnyH_take (i := 2) (oi := { dst := some 33, op := Go.Op.fieldAddr 101 (Go.Operand.tmp 6) 1, type := 0, pos := "load.go:29", after := #[{ on := 12, ground := Go.Ground.gcOnly Go.Departure.lateStores }], guard := none }) (v := ?v3) rfl (by kernel_rfl) (by kernel_rfl) (by kernel_rfl) (fun _ _ _ h => h) (Or.inl ⟨by rfl, ?hy3⟩) (by assumption) ?rs3
      case hy3 =>
        intro w hSw
        (try dsimp only at hSw)
        go_simp
        try with_reducible rfl
      (try simp only [Act.put, List.setIfInBounds_toArray, List.set_cons_zero, List.set_cons_succ])
      refine wpAnyH_take (i := 3) (oi := { dst := some 34, op := Go.Op.load 99 (Go.Operand.tmp 33), type := 99, pos := "load.go:29", after := #[{ on := 2, ground := Go.Ground.data }, { on := 12, ground := Go.Ground.gcOnly Go.Departure.lateStores }], guard := none }) (v := ?v4) rfl (by kernel_rfl) (by kernel_rfl) (by kernel_rfl) (fun _ _ _ h => h) (Or.inl ⟨by rfl, ?hy4⟩) (by assumption) ?rs4
      case hy4 =>
        intro w hSw
        (try dsimp only at hSw)
        go_simp
        try with_reducible rfl
      (try simp only [Act.put, List.setIfInBounds_toArray, List.set_cons_zero, List.set_cons_succ])
      refine wpAnyH_take (i := 4) (oi := { dst := some 35, op := Go.Op.move (Go.Operand.tmp 8), type := 3, pos := "load.go:29", after := #[{ on := 12, ground := Go.Ground.gcOnly Go.Departure.lateStores }], guard := none }) (v := ?v5) rfl (by kernel_rfl) (by kernel_rfl) (by kernel_rfl) (fun _ _ _ h => h) (Or.inl ⟨by rfl, ?hy5⟩) (by assumption) ?rs5
      case hy5 =>
        intro w hSw
        (try dsimp only at hSw)
        go_simp
        try with_reducible rfl
      (try simp only [Act.put, List.setIfInBounds_toArray, List.set_cons_zero, List.set_cons_succ])
      refine wpAnyH_take (i := 5) (oi := { dst := some 36, op := Go.Op.move (Go.Operand.tmp 9), type := 43, pos := "load.go:29", after := #[], guard := none }) (v := ?v6) rfl (by kernel_rfl) (by kernel_rfl) (by kernel_rfl) (fun _ _ _ h => h) (Or.inl ⟨by rfl, ?hy6⟩) (by assumption) ?rs6
      case hy6 =>
        intro w hSw
        (try dsimp only at hSw)
        go_simp
        try with_reducible rfl
      (try simp only [Act.put, List.setIfInBounds_toArray, List.set_cons_zero, List.set_cons_succ])
      refine wpAnyH_ready (rs := [6]) (by kernel_rfl) (by simp) ?_
      refine AllReadyH.cons (o := { dst := some 37, op := Go.Op.call { callee := Go.Callee.value (Go.Operand.func 79), args := #[Go.Operand.tmp 36], argTypes := #[43] }, type := 128, pos := "load.go:29", after := #[{ on := 5, ground := Go.Ground.data }], guard := none }) rfl (fun K6 hK6 => ?_) AllReadyH.nil
      go_simp
      (go_at_call 79; refine (WO.out _).mono ?_; rintro e u6 ⟨rfl, hu6⟩)
      (try go_wp2_with fail)
      have hRf6 := hu6.row hRf
      have hRt6 := hu6.row hRt
      have hb6 := hu6.row hb
      have hr6 := hu6.row hr
      have cf6 := hRf6.cell hlt
      have ct6 := hRt6.cell hlt
      have ff6 := hRf6.frozen i
      have ft6 := hRt6.frozen i
      have dz6 := (bx2_cells hb6).2.1
      refine hK6.out _ _ ?_ (fun hHeld => ?_)
      · (try dsimp only)
        exact dz6
      (try simp only [Act.put, List.setIfInBounds_toArray, List.set_cons_zero, List.set_cons_succ])
      refine wpAnyH_take (i := 7) (oi := { dst := some 30, op := Go.Op.move (Go.Operand.tmp 37), type := 128, pos := "load.go:29", after := #[{ on := 6, ground := Go.Ground.data }], guard := none }) (v := ?v7) rfl (by kernel_rfl) (by kernel_rfl) (by kernel_rfl) (fun _ _ _ h => h) (Or.inl ⟨by rfl, ?hy7⟩) (by assumption) ?rs7
      case hy7 =>
        intro w hSw
        (try dsimp only at hSw)
        go_simp
        try with_reducible rfl
      (try simp only [Act.put, List.setIfInBounds_toArray, List.set_cons_zero, List.set_cons_succ])
      refine wpAnyH_take (i := 8) (oi := { dst := some 38, op := Go.Op.extract (Go.Operand.tmp 30) 0, type := 69, pos := "load.go:29", after := #[{ on := 7, ground := Go.Ground.data }], guard := none }) (v := ?v8) rfl (by kernel_rfl) (by kernel_rfl) (by kernel_rfl) (fun _ _ _ h => h) (Or.inl ⟨by rfl, ?hy8⟩) (by assumption) ?rs8
      case hy8 =>
        intro w hSw
        (try dsimp only at hSw)
        go_simp
        try with_reducible rfl
      (try simp only [Act.put, List.setIfInBounds_toArray, List.set_cons_zero, List.set_cons_succ])
      refine wpAnyH_take (i := 9) (oi := { dst := some 39, op := Go.Op.extract (Go.Operand.tmp 30) 1, type := 69, pos := "load.go:29", after := #[{ on := 7, ground := Go.Ground.data }, { on := 12, ground := Go.Ground.gcOnly Go.Departure.lateStores }], guard := none }) (v := ?v9) rfl (by kernel_rfl) (by kernel_rfl) (by kernel_rfl) (fun _ _ _ h => h) (Or.inl ⟨by rfl, ?hy9⟩) (by assumption) ?rs9
      case hy9 =>
        intro w hSw
        (try dsimp only at hSw)
        go_simp
        try with_reducible rfl
      (try simp only [Act.put, List.setIfInBounds_toArray, List.set_cons_zero, List.set_cons_succ])
      refine wpAnyH_take (i := 10) (oi := { dst := some 40, op := Go.Op.extract (Go.Operand.tmp 30) 2, type := 4, pos := "load.go:29", after := #[{ on := 7, ground := Go.Ground.data }, { on := 14, ground := Go.Ground.gcOnly Go.Departure.lateStores }], guard := none }) (v := ?v10) rfl (by kernel_rfl) (by kernel_rfl) (by kernel_rfl) (fun _ _ _ h => h) (Or.inl ⟨by rfl, ?hy10⟩) (by assumption) ?rs10
      case hy10 =>
        intro w hSw
        (try dsimp only at hSw)
        go_simp
        try with_reducible rfl
      (try simp only [Act.put, List.setIfInBounds_toArray, List.set_cons_zero, List.set_cons_succ])
      refine wpAnyH_take (i := 11) (oi := { dst := some 41, op := Go.Op.indexAddr 99 (Go.Operand.tmp 31) (Go.Operand.tmp 32), type := 0, pos := "load.go:29", after := #[{ on := 0, ground := Go.Ground.data }, { on := 1, ground := Go.Ground.data }, { on := 0, ground := Go.Ground.phase }, { on := 1, ground := Go.Ground.phase }, { on := 2, ground := Go.Ground.textOnly Go.Departure.lateStores }, { on := 3, ground := Go.Ground.textOnly Go.Departure.lateStores }, { on := 4, ground := Go.Ground.textOnly Go.Departure.lateStores }, { on := 5, ground := Go.Ground.phase }, { on := 6, ground := Go.Ground.phase }, { on := 7, ground := Go.Ground.phase }, { on := 8, ground := Go.Ground.phase }, { on := 9, ground := Go.Ground.textOnly Go.Departure.lateStores }, { on := 10, ground := Go.Ground.textOnly Go.Departure.lateStores }], guard := none }) (v := ?v11) rfl (by kernel_rfl) (by kernel_rfl) (by kernel_rfl) (fun _ _ _ h => h) (Or.inl ⟨by rfl, ?hy11⟩) (by assumption) ?rs11
      case hy11 =>
        intro w hSw
        (try dsimp only at hSw)
        go_simp
        try with_reducible rfl
      (try simp only [Act.put, List.setIfInBounds_toArray, List.set_cons_zero, List.set_cons_succ])
      refine wpAnyH_ready (rs := [12]) (by kernel_rfl) (by simp) ?_
      refine AllReadyH.cons (o := { dst := none, op := Go.Op.store 69 (Go.Operand.tmp 41) (Go.Operand.tmp 38), type := 0, pos := "load.go:29", after := #[{ on := 11, ground := Go.Ground.data }, { on := 8, ground := Go.Ground.data }, { on := 6, ground := Go.Ground.chain }, { on := 0, ground := Go.Ground.phase }, { on := 1, ground := Go.Ground.phase }, { on := 2, ground := Go.Ground.textOnly Go.Departure.lateStores }, { on := 3, ground := Go.Ground.textOnly Go.Departure.lateStores }, { on := 4, ground := Go.Ground.textOnly Go.Departure.lateStores }, { on := 5, ground := Go.Ground.phase }, { on := 6, ground := Go.Ground.phase }, { on := 7, ground := Go.Ground.phase }, { on := 8, ground := Go.Ground.phase }, { on := 9, ground := Go.Ground.textOnly Go.Departure.lateStores }, { on := 10, ground := Go.Ground.textOnly Go.Departure.lateStores }], guard := none }) rfl (fun K12 hK12 => ?_) AllReadyH.nil
      go_simp
      skip
      (try go_wp2_with fail)
      have hb12 := hb6.setOther (a := ⟨gt, i, none⟩) nzt (.int .u64 ((T i : Nat) : Int))
      have hf12 := hRf6.setOther (a := ⟨gt, i, none⟩) nft (.int .u64 ((T i : Nat) : Int))
      have ht12 := hRt6.set i (.int .u64 ((T i : Nat) : Int))
      have hr12 := hr6.setOther (a := ⟨gt, i, none⟩) nrt (.int .u64 ((T i : Nat) : Int))
      have cf12 := hf12.cell hlt
      have ff12 := hf12.frozen i
      have dz12 := (bx2_cells hb12).2.1
      refine hK12.out _ _ ?_ (fun hHeld => ?_)
      · (try dsimp only)
        exact dz12
      (try simp only [Act.put, List.setIfInBounds_toArray, List.set_cons_zero, List.set_cons_succ])
      refine wpAnyH_take (i := 13) (oi := { dst := some 42, op := Go.Op.indexAddr 99 (Go.Operand.tmp 34) (Go.Operand.tmp 35), type := 0, pos := "load.go:29", after := #[{ on := 3, ground := Go.Ground.data }, { on := 4, ground := Go.Ground.data }, { on := 0, ground := Go.Ground.phase }, { on := 1, ground := Go.Ground.phase }, { on := 2, ground := Go.Ground.phase }, { on := 3, ground := Go.Ground.phase }, { on := 4, ground := Go.Ground.phase }, { on := 5, ground := Go.Ground.phase }, { on := 6, ground := Go.Ground.phase }, { on := 7, ground := Go.Ground.phase }, { on := 8, ground := Go.Ground.phase }, { on := 9, ground := Go.Ground.phase }, { on := 10, ground := Go.Ground.textOnly Go.Departure.lateStores }, { on := 11, ground := Go.Ground.phase }, { on := 12, ground := Go.Ground.phase }], guard := none }) (v := ?v12) rfl (by kernel_rfl) (by kernel_rfl) (by kernel_rfl) (fun _ _ _ h => h) (Or.inl ⟨by rfl, ?hy12⟩) (by assumption) ?rs12
      case hy12 =>
        intro w hSw
        (try dsimp only at hSw)
        go_simp
        try with_reducible rfl
      (try simp only [Act.put, List.setIfInBounds_toArray, List.set_cons_zero, List.set_cons_succ])
      refine wpAnyH_ready (rs := [14]) (by kernel_rfl) (by simp) ?_
      refine AllReadyH.cons (o := { dst := none, op := Go.Op.store 69 (Go.Operand.tmp 42) (Go.Operand.tmp 39), type := 0, pos := "load.go:29", after := #[{ on := 13, ground := Go.Ground.data }, { on := 9, ground := Go.Ground.data }, { on := 12, ground := Go.Ground.chain }, { on := 0, ground := Go.Ground.phase }, { on := 1, ground := Go.Ground.phase }, { on := 2, ground := Go.Ground.phase }, { on := 3, ground := Go.Ground.phase }, { on := 4, ground := Go.Ground.phase }, { on := 5, ground := Go.Ground.phase }, { on := 6, ground := Go.Ground.phase }, { on := 7, ground := Go.Ground.phase }, { on := 8, ground := Go.Ground.phase }, { on := 9, ground := Go.Ground.phase }, { on := 10, ground := Go.Ground.textOnly Go.Departure.lateStores }, { on := 11, ground := Go.Ground.phase }, { on := 12, ground := Go.Ground.phase }], guard := none }) rfl (fun K14 hK14 => ?_) AllReadyH.nil
      go_simp
      skip
      (try go_wp2_with fail)
      have hb14 := hb12.setOther (a := ⟨gf, i, none⟩) nzf (.int .u64 ((F i : Nat) : Int))
      have hf14 := hf12.set i (.int .u64 ((F i : Nat) : Int))
      have ht14 := ht12.setOther (a := ⟨gf, i, none⟩) ntf (.int .u64 ((F i : Nat) : Int))
      have hr14 := hr12.setOther (a := ⟨gf, i, none⟩) nrf (.int .u64 ((F i : Nat) : Int))
      have dz14 := (bx2_cells hb14).2.1
      refine hK14.out _ _ ?_ (fun hHeld => ?_)
      · (try dsimp only)
        exact dz14
      (try simp only [Act.put, List.setIfInBounds_toArray, List.set_cons_zero, List.set_cons_succ])
      refine wpAnyH_take (i := 15) (oi := { dst := some 10, op := Go.Op.assign (Go.Operand.tmp 40), type := 4, pos := "load.go:29", after := #[{ on := 10, ground := Go.Ground.data }, { on := 14, ground := Go.Ground.chain }, { on := 0, ground := Go.Ground.phase }, { on := 1, ground := Go.Ground.phase }, { on := 2, ground := Go.Ground.phase }, { on := 3, ground := Go.Ground.phase }, { on := 4, ground := Go.Ground.phase }, { on := 5, ground := Go.Ground.phase }, { on := 6, ground := Go.Ground.phase }, { on := 7, ground := Go.Ground.phase }, { on := 8, ground := Go.Ground.phase }, { on := 9, ground := Go.Ground.phase }, { on := 10, ground := Go.Ground.phase }, { on := 11, ground := Go.Ground.phase }, { on := 12, ground := Go.Ground.phase }, { on := 13, ground := Go.Ground.phase }, { on := 14, ground := Go.Ground.phase }], guard := none }) (v := ?v13) rfl (by kernel_rfl) (by kernel_rfl) (by kernel_rfl) (fun _ _ _ h => h) (Or.inl ⟨by rfl, ?hy13⟩) (by assumption) ?rs13
      case hy13 =>
        intro w hSw
        (try dsimp only at hSw)
        go_simp
        try with_reducible rfl
      (try simp only [Act.put, List.setIfInBounds_toArray, List.set_cons_zero, List.set_cons_succ])
      refine wpAnyH_done (by kernel_rfl) ?_ _
      have hKn : Kept w ((u6.setCell ⟨gt, i, none⟩ (.int .u64 ((T i : Nat) : Int))).setCell ⟨gf, i, none⟩ (.int .u64 ((F i : Nat) : Int))) := (((hK.drew.trans hu6).setCell hgtw _).setCell hgfw _)
      have hRfn := hf14.congr (g := fun t => .int .u64 (fillF F (i + 1) t)) (fun t _ => fill_at F i t)
      have hRtn := ht14.congr (g := fun t => .int .u64 (fillF T (i + 1) t)) (fun t _ => fill_at T i t)
      clear hb12 hf12 ht12 hr12 cf12 ff12 hf14 ht14 hRf6 hRt6 hb6 hr6 cf6 ct6 ff6 ft6 dz6 hHeld hu6
      go_wp2_with fail
      go_roundg (n - (i + 1))
      case measure => omega
      case rel => exact ⟨i + 1, by omega, rfl, by first | rfl | go_num, hKn, hr14, hb14, hRfn, hRtn⟩
    · obtain rfl : n = i := by omega
      have s1 : ¬ (n : Int) < (n : Int) := by omega
      have hRf2 := hRf.congr (g := fun t => .int .u64 ((F t : Nat) : Int)) (fun t ht => by unfold fillF; rw [if_pos ht])
      have hRt2 := hRt.congr (g := fun t => .int .u64 ((T t : Nat) : Int)) (fun t ht => by unfold fillF; rw [if_pos ht])
      clear hRf hRt
      obtain ⟨W2, rfl⟩ : ∃ W2 : World, W2 = wr := ⟨_, rfl⟩
      have hW2w : w.heap.size ≤ W2.heap.size := hK.size
      have hz6B : z6 < W2.heap.size := hb.lt
      have hr4B : r4 < W2.heap.size := hr.lt
      have hgfB : gf < W2.heap.size := hRf2.lt
      have hgtB : gt < W2.heap.size := hRt2.lt
      have hOw0 : W2.ownsRow W2.heap.size 130 1 (.slice none 0 0) 0 (vals (fun _ => undef) 0) := ⟨by simp [vals], .inl ⟨rfl, rfl⟩⟩
      go_wp2_with fail
      go_loopg [49] n (fun mm s49 wr => ∃ (i : Nat) (sv : Value) (P : Nat → Value), i ≤ n ∧ mm = n - i ∧ s49 = .int .i64 i ∧ Kept w wr ∧ W2.heap.size ≤ wr.heap.size ∧ wr.rowIs r4 101 2 (bx2 (.slice none 0 0) (.slice none 0 0)) ∧ wr.rowIs z6 101 2 (bx2 sv (.slice (some ⟨gf, 0, none⟩) n n)) ∧ wr.rowIs gf 69 n (fun t => .int .u64 ((F t : Nat) : Int)) ∧ wr.rowIs gt 69 n (fun t => .int .u64 ((T t : Nat) : Int)) ∧ wr.ownsRow W2.heap.size 130 1 sv i (vals P i) ∧ ∀ t, t < i → TyNat wr (P t) (partZ T F n t))
      case atStart => exact ⟨0, _, _, Nat.zero_le _, rfl, by first | rfl | go_num, hK, Nat.le_refl _, hr, hb, hRf2, hRt2, hOw0, fun t h => absurd h (by omega)⟩
      case round =>
        clear hK hr hb hRf2 hRt2 hOw0 HCW HWO
        obtain ⟨i, sv, P, hi, rfl, rfl, hK, hsz, hr, hb, hRf, hRt, hO, hTy⟩ := hrel
        obtain ⟨sa, cap, rfl⟩ := own_shape hO
        by_cases hlt : i < n
        · have s1 : (i : Int) < (n : Int) := by omega
          have s2 : (0 : Int) ≤ (i : Int) := by omega
          have s3 : (i : Int) ≤ (n : Int) := by omega
          have s4 : (i : Int) + 1 ≤ (n : Int) := by omega
          have s5 : (0 : Int) ≤ (i : Int) + 1 := by omega
          have et : ((i : Int) + 1).toNat = i + 1 := by omega
          have w1 : IntKind.i64.wrap ((i : Int) + 1) = (i : Int) + 1 := IntWalk.i64_in _ (by omega)
          have w2 : IntKind.i64.wrap (i : Int) = (i : Int) := IntWalk.i64_in _ (by omega)
          have tt := hRt.cell hlt
          obtain ⟨d0, dz, d02, d03⟩ := bx2_cells hb
          have hbd := partZ_bd (T := T) hn hlt HF12.out (by have := HT12.out i hlt; omega)
          have cf1 : CellsAt wr (.slice (some ⟨gf, 0, none⟩) i n) i (fun t => .int .u64 ((F t : Nat) : Int)) := ⟨_, gf, 0, n, rfl, fun _ => rfl, fun t ht => by rw [Nat.zero_add]; exact hRf.cell (by omega)⟩
          have cf2 : CellsAt wr (.slice (some ⟨gf, i + 1, none⟩) (n - (i + 1)) (n - (i + 1))) (n - (i + 1)) (fun t => .int .u64 ((restF F i t : Nat) : Int)) := ⟨_, gf, i + 1, _, rfl, fun _ => rfl, fun t ht => hRf.cell (show i + 1 + t < n by omega)⟩
          have P1 := Lib.hid (fun W (hk : Kept wr W) => product_any W _ i F (CellsAt.kept cf1 hk) (fun t ht => by have := HF12.out t (by omega); omega) (fun j hj => lt_big (prodN_bd (k := j) (fun t ht => HF12.out t (by omega))) (by omega)) (by omega))
          have SM := Lib.hid (fun W => small_any W (T i) (by have := HT12.out i hlt; omega))
          obtain ⟨xr, HXR⟩ : ∃ xr, Hid (xr = prodN (restF F i) (n - (i + 1))) := ⟨_, rfl⟩
          have HB1 : Hid (prodN F i * xr < bigU) := by show _ < _; rw [HXR.out]; exact lt_big (mul_tw (a := 9) (b := 9) hbd.1 hbd.2.1) (by omega)
          have HPZ : Hid (prodN F i * xr * ((T i : Nat) : Int) = partZ T F n i) := by show _ = _; rw [HXR.out]; rfl
          have HB2 : Hid (prodN F i * xr * ((T i : Nat) : Int) < bigU) := by show _ < _; rw [HPZ.out]; exact lt_big hbd.2.2 (by omega)
          have hcases : (∃ _ : Hid (∀ (W : World) (_ : Kept wr W), Calls Tryz.prog 80 #[.slice (some ⟨gf, 0, none⟩) (n - (i + 1)) (n - (i + 1))] W (NatPost W xr)), (n = i + 1) = True) ∨ (∃ _ : Hid (∀ (W : World) (_ : Kept wr W), Calls Tryz.prog 80 #[.slice (some ⟨gf, i + 1, none⟩) (n - (i + 1)) (n - (i + 1))] W (NatPost W xr)), (n = i + 1) = False) := by
            by_cases hc : n = i + 1
            · left
              refine ⟨fun W _ => ?_, eq_true hc⟩
              rw [HXR.out]
              exact product_any W _ (n - (i + 1)) (restF F i) ⟨_, gf, 0, _, rfl, fun _ => rfl, fun t ht => absurd ht (by omega)⟩ (fun t h => absurd h (by omega)) (fun j hj => lt_big (prodN_bd (k := j) (fun t ht => absurd ht (by omega))) (by omega)) (by omega)
            · right
              refine ⟨fun W hk => ?_, eq_false hc⟩
              rw [HXR.out]
              exact product_any W _ (n - (i + 1)) (restF F i) (CellsAt.kept cf2 hk) (fun t ht => by have := HF12.out (i + 1 + t) (by omega); unfold restF; omega) (fun j hj => lt_big (prodN_bd (k := j) (fun t ht => HF12.out (i + 1 + t) (by omega))) (by omega)) (by omega)
          clear hbd cf1 cf2 HXR
          rcases hcases with ⟨P2, hcap⟩ | ⟨P2, hcap⟩
          · skip
            go_wp2_with fail
            refine wp_region_held_drew (S := (fun w' => w'.cell? ⟨z6, 1, none⟩ = some (.slice (some ⟨gf, 0, none⟩) n n))) (by kernel_rfl) ?_ (fun hHeld => ?_)
            · (try dsimp only)
              exact dz
            refine wpAnyH_take (i := 0) (oi := { dst := some 54, op := Go.Op.fieldAddr 101 (Go.Operand.tmp 6) 0, type := 0, pos := "load.go:35", after := #[], guard := none }) (v := ?v14) rfl (by kernel_rfl) (by kernel_rfl) (by kernel_rfl) (fun _ _ _ h => h) (Or.inl ⟨by rfl, ?hy14⟩) (by assumption) ?rs14
            case hy14 =>
              intro w hSw
              (try dsimp only at hSw)
              go_simp
              try with_reducible rfl
            (try simp only [Act.put, List.setIfInBounds_toArray, List.set_cons_zero, List.set_cons_succ])
            refine wpAnyH_take (i := 2) (oi := { dst := some 56, op := Go.Op.fieldAddr 101 (Go.Operand.tmp 6) 1, type := 0, pos := "load.go:35", after := #[], guard := none }) (v := ?v15) rfl (by kernel_rfl) (by kernel_rfl) (by kernel_rfl) (fun _ _ _ h => h) (Or.inl ⟨by rfl, ?hy15⟩) (by assumption) ?rs15
            case hy15 =>
              intro w hSw
              (try dsimp only at hSw)
              go_simp
              try with_reducible rfl
            (try simp only [Act.put, List.setIfInBounds_toArray, List.set_cons_zero, List.set_cons_succ])
            refine wpAnyH_take (i := 3) (oi := { dst := some 57, op := Go.Op.load 99 (Go.Operand.tmp 56), type := 99, pos := "load.go:35", after := #[{ on := 2, ground := Go.Ground.data }], guard := none }) (v := ?v16) rfl (by kernel_rfl) (by kernel_rfl) (by kernel_rfl) (fun _ _ _ h => h) (Or.inl ⟨by rfl, ?hy16⟩) (by assumption) ?rs16
            case hy16 =>
              intro w hSw
              (try dsimp only at hSw)
              go_simp
              try with_reducible rfl
            (try simp only [Act.put, List.setIfInBounds_toArray, List.set_cons_zero, List.set_cons_succ])
            refine wpAnyH_take (i := 4) (oi := { dst := some 58, op := Go.Op.move (Go.Operand.tmp 11), type := 3, pos := "load.go:35", after := #[], guard := none }) (v := ?v17) rfl (by kernel_rfl) (by kernel_rfl) (by kernel_rfl) (fun _ _ _ h => h) (Or.inl ⟨by rfl, ?hy17⟩) (by assumption) ?rs17
            case hy17 =>
              intro w hSw
              (try dsimp only at hSw)
              go_simp
              try with_reducible rfl
            (try simp only [Act.put, List.setIfInBounds_toArray, List.set_cons_zero, List.set_cons_succ])
            refine wpAnyH_take (i := 5) (oi := { dst := some 59, op := Go.Op.slice 99 (Go.Operand.tmp 57) none (some (Go.Operand.tmp 58)) none, type := 99, pos := "load.go:35", after := #[{ on := 3, ground := Go.Ground.data }, { on := 4, ground := Go.Ground.data }], guard := none }) (v := ?v18) rfl (by kernel_rfl) (by kernel_rfl) (by kernel_rfl) (fun _ _ _ h => h) (Or.inl ⟨by rfl, ?hy18⟩) (by assumption) ?rs18
            case hy18 =>
              intro w hSw
              (try dsimp only at hSw)
              go_simp
              try with_reducible rfl
            (try simp only [Act.put, List.setIfInBounds_toArray, List.set_cons_zero, List.set_cons_succ])
            refine wpAnyH_take (i := 7) (oi := { dst := some 61, op := Go.Op.fieldAddr 101 (Go.Operand.tmp 6) 1, type := 0, pos := "load.go:35", after := #[], guard := none }) (v := ?v19) rfl (by kernel_rfl) (by kernel_rfl) (by kernel_rfl) (fun _ _ _ h => h) (Or.inl ⟨by rfl, ?hy19⟩) (by assumption) ?rs19
            case hy19 =>
              intro w hSw
              (try dsimp only at hSw)
              go_simp
              try with_reducible rfl
            (try simp only [Act.put, List.setIfInBounds_toArray, List.set_cons_zero, List.set_cons_succ])
            refine wpAnyH_take (i := 8) (oi := { dst := some 62, op := Go.Op.load 99 (Go.Operand.tmp 61), type := 99, pos := "load.go:35", after := #[{ on := 7, ground := Go.Ground.data }], guard := none }) (v := ?v20) rfl (by kernel_rfl) (by kernel_rfl) (by kernel_rfl) (fun _ _ _ h => h) (Or.inl ⟨by rfl, ?hy20⟩) (by assumption) ?rs20
            case hy20 =>
              intro w hSw
              (try dsimp only at hSw)
              go_simp
              try with_reducible rfl
            (try simp only [Act.put, List.setIfInBounds_toArray, List.set_cons_zero, List.set_cons_succ])
            refine wpAnyH_take (i := 9) (oi := { dst := some 63, op := Go.Op.move (Go.Operand.tmp 11), type := 3, pos := "load.go:35", after := #[], guard := none }) (v := ?v21) rfl (by kernel_rfl) (by kernel_rfl) (by kernel_rfl) (fun _ _ _ h => h) (Or.inl ⟨by rfl, ?hy21⟩) (by assumption) ?rs21
            case hy21 =>
              intro w hSw
              (try dsimp only at hSw)
              go_simp
              try with_reducible rfl
            (try simp only [Act.put, List.setIfInBounds_toArray, List.set_cons_zero, List.set_cons_succ])
            refine wpAnyH_take (i := 10) (oi := { dst := some 64, op := Go.Op.binOp Go.BinOp.add 3 (Go.Operand.tmp 63) (Go.Operand.const (Go.Value.int Go.IntKind.i64 1)) 3, type := 3, pos := "load.go:35", after := #[{ on := 9, ground := Go.Ground.data }], guard := none }) (v := ?v22) rfl (by kernel_rfl) (by kernel_rfl) (by kernel_rfl) (fun _ _ _ h => h) (Or.inl ⟨by rfl, ?hy22⟩) (by assumption) ?rs22
            case hy22 =>
              intro w hSw
              (try dsimp only at hSw)
              go_simp
              try with_reducible rfl
            (try simp only [Act.put, List.setIfInBounds_toArray, List.set_cons_zero, List.set_cons_succ])
            refine wpAnyH_take (i := 11) (oi := { dst := some 65, op := Go.Op.slice 99 (Go.Operand.tmp 62) (some (Go.Operand.tmp 64)) none none, type := 99, pos := "load.go:35", after := #[{ on := 8, ground := Go.Ground.data }, { on := 10, ground := Go.Ground.data }], guard := none }) (v := ?v23) rfl (by kernel_rfl) (by kernel_rfl) (by kernel_rfl) (fun _ _ _ h => h) (Or.inl ⟨by rfl, ?hy23⟩) (by assumption) ?rs23
            case hy23 =>
              intro w hSw
              (try dsimp only at hSw)
              go_simp
              try with_reducible rfl
            (try simp only [Act.put, List.setIfInBounds_toArray, List.set_cons_zero, List.set_cons_succ])
            refine wpAnyH_take (i := 14) (oi := { dst := some 68, op := Go.Op.move (Go.Operand.tmp 12), type := 69, pos := "load.go:35", after := #[], guard := none }) (v := ?v24) rfl (by kernel_rfl) (by kernel_rfl) (by kernel_rfl) (fun _ _ _ h => h) (Or.inl ⟨by rfl, ?hy24⟩) (by assumption) ?rs24
            case hy24 =>
              intro w hSw
              (try dsimp only at hSw)
              go_simp
              try with_reducible rfl
            (try simp only [Act.put, List.setIfInBounds_toArray, List.set_cons_zero, List.set_cons_succ])
            refine wpAnyH_ready (rs := [1, 6]) (by kernel_rfl) (by simp) ?_
            refine AllReadyH.cons (o := { dst := some 55, op := Go.Op.load 98 (Go.Operand.tmp 54), type := 98, pos := "load.go:35", after := #[{ on := 0, ground := Go.Ground.data }], guard := none }) rfl (fun K1 hK1 => ?_) (AllReadyH.cons (o := { dst := some 60, op := Go.Op.call { callee := Go.Callee.value (Go.Operand.func 80), args := #[Go.Operand.tmp 59], argTypes := #[99] }, type := 130, pos := "load.go:35", after := #[{ on := 5, ground := Go.Ground.data }], guard := none }) rfl (fun K6 hK6 => ?_) AllReadyH.nil)
            · skip
              go_simp
              skip
              (try go_wp2_with fail)
              refine hK1.out _ _ ?_ (fun hHeld => ?_)
              · (try dsimp only)
                exact dz
              (try simp only [Act.put, List.setIfInBounds_toArray, List.set_cons_zero, List.set_cons_succ])
              refine wpAnyH_ready (rs := [6]) (by kernel_rfl) (by simp) ?_
              refine AllReadyH.cons (o := { dst := some 60, op := Go.Op.call { callee := Go.Callee.value (Go.Operand.func 80), args := #[Go.Operand.tmp 59], argTypes := #[99] }, type := 130, pos := "load.go:35", after := #[{ on := 5, ground := Go.Ground.data }], guard := none }) rfl (fun K6 hK6 => ?_) AllReadyH.nil
              go_simp
              (go_at_call 80; refine (P1.out _ (by repeat (first | assumption | exact Kept.refl _ | apply Kept.drew | apply Kept.drewN | apply Kept.alloc | refine Kept.trans ?_ (by assumption)))).mono ?_; rintro e u6 ⟨v6, rfl, hN6, hu6⟩; obtain ⟨a6, k6, c6, rfl⟩ := natAt_slice hN6)
              (try go_wp2_with fail)
              have d06 := Kept.cellSome hu6 d0
              have dz6 := Kept.cellSome hu6 dz
              refine hK6.out _ _ ?_ (fun hHeld => ?_)
              · (try dsimp only)
                exact dz6
              (try simp only [Act.put, List.setIfInBounds_toArray, List.set_cons_zero, List.set_cons_succ])
              refine wpAnyH_ready (rs := [12]) (by kernel_rfl) (by simp) ?_
              refine AllReadyH.cons (o := { dst := some 66, op := Go.Op.call { callee := Go.Callee.value (Go.Operand.func 80), args := #[Go.Operand.tmp 65], argTypes := #[99] }, type := 130, pos := "load.go:35", after := #[{ on := 11, ground := Go.Ground.data }, { on := 6, ground := Go.Ground.chain }], guard := none }) rfl (fun K12 hK12 => ?_) AllReadyH.nil
              go_simp
              (go_at_call 80; refine (P2.out _ (by repeat (first | assumption | exact Kept.refl _ | apply Kept.drew | apply Kept.drewN | apply Kept.alloc | refine Kept.trans ?_ (by assumption)))).mono ?_; rintro e u12 ⟨v12, rfl, hN12, hu12⟩; obtain ⟨a12, k12, c12, rfl⟩ := natAt_slice hN12)
              (try go_wp2_with fail)
              have d012 := Kept.cellSome hu12 d06
              have dz12 := Kept.cellSome hu12 dz6
              refine hK12.out _ _ ?_ (fun hHeld => ?_)
              · (try dsimp only)
                exact dz12
              (try simp only [Act.put, List.setIfInBounds_toArray, List.set_cons_zero, List.set_cons_succ])
              refine wpAnyH_ready (rs := [13]) (by kernel_rfl) (by simp) ?_
              refine AllReadyH.cons (o := { dst := some 67, op := Go.Op.call { callee := Go.Callee.value (Go.Operand.func 81), args := #[Go.Operand.tmp 60, Go.Operand.tmp 66], argTypes := #[130, 130] }, type := 130, pos := "load.go:35", after := #[{ on := 6, ground := Go.Ground.data }, { on := 12, ground := Go.Ground.data }, { on := 12, ground := Go.Ground.chain }], guard := none }) rfl (fun K13 hK13 => ?_) AllReadyH.nil
              go_simp
              (go_at_call 81; refine (times_row _ _ _ _ _ (hN6.kept (by repeat (first | assumption | exact Kept.refl _ | apply Kept.drew | apply Kept.drewN | apply Kept.alloc | refine Kept.trans ?_ (by assumption)))) (hN12.kept (by repeat (first | assumption | exact Kept.refl _ | apply Kept.drew | apply Kept.drewN | apply Kept.alloc | refine Kept.trans ?_ (by assumption)))) HB1.out).mono ?_; rintro e u13 ⟨g13, k13, c13, N13, f13, rfl, hN13, hu13, _⟩)
              (try go_wp2_with fail)
              have d013 := Kept.cellSome hu13 d012
              have dz13 := Kept.cellSome hu13 dz12
              refine hK13.out _ _ ?_ (fun hHeld => ?_)
              · (try dsimp only)
                exact dz13
              (try simp only [Act.put, List.setIfInBounds_toArray, List.set_cons_zero, List.set_cons_succ])
              refine wpAnyH_ready (rs := [15]) (by kernel_rfl) (by simp) ?_
              refine AllReadyH.cons (o := { dst := some 69, op := Go.Op.call { callee := Go.Callee.value (Go.Operand.func 82), args := #[Go.Operand.tmp 68], argTypes := #[69] }, type := 130, pos := "load.go:35", after := #[{ on := 14, ground := Go.Ground.data }, { on := 13, ground := Go.Ground.chain }], guard := none }) rfl (fun K15 hK15 => ?_) AllReadyH.nil
              go_simp
              (go_at_call 82; refine (SM.out _).mono ?_; rintro e u15 ⟨v15, rfl, hN15, hu15⟩; obtain ⟨a15, k15, c15, rfl⟩ := natAt_slice hN15)
              (try go_wp2_with fail)
              have d015 := Kept.cellSome hu15 d013
              have dz15 := Kept.cellSome hu15 dz13
              refine hK15.out _ _ ?_ (fun hHeld => ?_)
              · (try dsimp only)
                exact dz15
              (try simp only [Act.put, List.setIfInBounds_toArray, List.set_cons_zero, List.set_cons_succ])
              refine wpAnyH_ready (rs := [16]) (by kernel_rfl) (by simp) ?_
              refine AllReadyH.cons (o := { dst := some 70, op := Go.Op.call { callee := Go.Callee.value (Go.Operand.func 81), args := #[Go.Operand.tmp 67, Go.Operand.tmp 69], argTypes := #[130, 130] }, type := 130, pos := "load.go:35", after := #[{ on := 13, ground := Go.Ground.data }, { on := 15, ground := Go.Ground.data }, { on := 15, ground := Go.Ground.chain }], guard := none }) rfl (fun K16 hK16 => ?_) AllReadyH.nil
              go_simp
              (go_at_call 81; refine (times_row _ _ _ _ _ (hN13.kept (by repeat (first | assumption | exact Kept.refl _ | apply Kept.drew | apply Kept.drewN | apply Kept.alloc | refine Kept.trans ?_ (by assumption)))) (hN15.kept (by repeat (first | assumption | exact Kept.refl _ | apply Kept.drew | apply Kept.drewN | apply Kept.alloc | refine Kept.trans ?_ (by assumption)))) HB2.out).mono ?_; rintro e u16 ⟨g16, k16, c16, N16, f16, rfl, hN16, hu16, hR16⟩)
              (try go_wp2_with fail)
              have d016 := Kept.cellSome hu16 d015
              have dz16 := Kept.cellSome hu16 dz15
              refine hK16.out _ _ ?_ (fun hHeld => ?_)
              · (try dsimp only)
                exact dz16
              (try simp only [Act.put, List.setIfInBounds_toArray, List.set_cons_zero, List.set_cons_succ])
              refine wpAnyH_ready (rs := [17]) (by kernel_rfl) (by simp) ?_
              refine AllReadyH.cons (o := { dst := some 71, op := Go.Op.buildSlice 98 1 #[(0, Go.Operand.tmp 70)], type := 98, pos := "load.go:35", after := #[{ on := 16, ground := Go.Ground.data }], guard := none }) rfl (fun K17 hK17 => ?_) AllReadyH.nil
              go_simp
              skip
              (try go_wp2_with fail)
              have hu17 : Kept u16 (u16.alloc (.cells #[(.slice (some ⟨g16, 0, none⟩) k16 c16)] 130)) := (Kept.refl u16).alloc _
              have d017 := Kept.cellSome hu17 d016
              have dz17 := Kept.cellSome hu17 dz16
              have hKs17 : Kept wr (u16.alloc (.cells #[(.slice (some ⟨g16, 0, none⟩) k16 c16)] 130)) := Kept.trans (show Kept wr u16 from (by repeat (first | assumption | exact Kept.refl _ | apply Kept.drew | apply Kept.drewN | apply Kept.alloc | refine Kept.trans ?_ (by assumption)))) hu17
              have hO17 := own_keptY hO hKs17 (fun _ _ _ _ _ h => h)
              have hTy16 : TyNat (u16.alloc (.cells #[(.slice (some ⟨g16, 0, none⟩) k16 c16)] 130)) (.slice (some ⟨g16, 0, none⟩) k16 c16) (partZ T F n i) := TyNat.kept ⟨_, _, _, _, _, rfl, by rw [← HPZ.out]; exact hN16, hR16⟩ hu17
              have hB17 : W2.heap.size ≤ (u16.alloc (.cells #[(.slice (some ⟨g16, 0, none⟩) k16 c16)] 130)).heap.size := Nat.le_trans hsz hKs17.size
              refine hK17.out _ _ ?_ (fun hHeld => ?_)
              · (try dsimp only)
                exact dz17
              (try simp only [Act.put, List.setIfInBounds_toArray, List.set_cons_zero, List.set_cons_succ])
              refine wpAnyH_ready (rs := [18]) (by kernel_rfl) (by simp) ?_
              refine AllReadyH.cons (o := { dst := some 72, op := Go.Op.call { callee := Go.Callee.builtin Go.Builtin.append, args := #[Go.Operand.tmp 55, Go.Operand.tmp 71], argTypes := #[98, 98] }, type := 98, pos := "load.go:35", after := #[{ on := 1, ground := Go.Ground.data }, { on := 17, ground := Go.Ground.data }, { on := 16, ground := Go.Ground.chain }], guard := none }) rfl (fun K18 hK18 => ?_) AllReadyH.nil
              rw [if_pos (by rfl)]
              refine wp_append_own _ _ _ 98 rfl W2.heap.size 130 i0 (.slice none 0 0) 1 24 Tryz.underlying98 hi0 hz0 hz1 hz2 rfl (by decide) _ _ _ (by rfl) hO17 ⟨u16.heap.size, 0, none⟩ 1 1 [(.slice (some ⟨g16, 0, none⟩) k16 c16)] (by rfl) rfl (cell_one_new _ _ _) ?c2 ?c3 ?c4 ?c5 ?_
              case c2 => simp [Value.oneCell']
              case c3 => unfold maxLen; omega
              case c4 => omega
              case c5 => exact hB17
              intro v18 w18 hO18 hgr18 _
              have hXg : KeptX (fun k => (Value.slice sa i cap).ownBlock = some k) (u16.alloc (.cells #[(.slice (some ⟨g16, 0, none⟩) k16 c16)] 130)) w18 := KeptX.grown (KeptX.refl _ _) hgr18 (fun k hk => Or.inl hk)
              have hb18 := hXg.row (hKs17.row hb) (own_below hO17 hz6B)
              have hr18 := hXg.row (hKs17.row hr) (own_below hO17 hr4B)
              have hf18 := hXg.row (hKs17.row hRf) (own_below hO17 hgfB)
              have ht18 := hXg.row (hKs17.row hRt) (own_below hO17 hgtB)
              have hKw18 : Kept w w18 := (hK.trans hKs17).grown hgr18 (fun k hk => Nat.le_trans hW2w ((hO17.lt k hk).1))
              have hnu : ∀ b c f, (u16.alloc (.cells #[(.slice (some ⟨g16, 0, none⟩) k16 c16)] 130)).heap[b]? = some (.cells c 69 f) → ¬ (Value.slice sa i cap).ownBlock = some b := fun b c f h => own_not hO17 (by decide) h
              have hTy18 : ∀ t, t < i → TyNat w18 (P t) (partZ T F n t) := fun t ht => ((hTy t ht).kept hKs17).keptX hXg hnu
              have hTn18 := hTy16.keptX hXg hnu
              have hsz18 : W2.heap.size ≤ w18.heap.size := Nat.le_trans hB17 hXg.size
              obtain ⟨va18, vc18, rfl⟩ := own_shape hO18
              obtain ⟨x0, x1, x2, x3⟩ := bx2_cells hb18
              refine hK18.out _ _ ?_ (fun hHeld => ?_)
              · (try dsimp only)
                exact x1
              (try simp only [Act.put, List.setIfInBounds_toArray, List.set_cons_zero, List.set_cons_succ])
              refine wpAnyH_take (i := 19) (oi := { dst := some 73, op := Go.Op.fieldAddr 101 (Go.Operand.tmp 6) 0, type := 0, pos := "load.go:35", after := #[{ on := 0, ground := Go.Ground.phase }, { on := 1, ground := Go.Ground.phase }, { on := 2, ground := Go.Ground.phase }, { on := 3, ground := Go.Ground.phase }, { on := 4, ground := Go.Ground.phase }, { on := 5, ground := Go.Ground.phase }, { on := 6, ground := Go.Ground.phase }, { on := 7, ground := Go.Ground.phase }, { on := 8, ground := Go.Ground.phase }, { on := 9, ground := Go.Ground.phase }, { on := 10, ground := Go.Ground.phase }, { on := 11, ground := Go.Ground.phase }, { on := 12, ground := Go.Ground.phase }, { on := 13, ground := Go.Ground.phase }, { on := 14, ground := Go.Ground.phase }, { on := 15, ground := Go.Ground.phase }, { on := 16, ground := Go.Ground.phase }, { on := 17, ground := Go.Ground.phase }, { on := 18, ground := Go.Ground.phase }], guard := none }) (v := ?v25) rfl (by kernel_rfl) (by kernel_rfl) (by kernel_rfl) (fun _ _ _ h => h) (Or.inl ⟨by rfl, ?hy25⟩) (by assumption) ?rs25
              case hy25 =>
                intro w hSw
                (try dsimp only at hSw)
                go_simp
                try with_reducible rfl
              (try simp only [Act.put, List.setIfInBounds_toArray, List.set_cons_zero, List.set_cons_succ])
              refine wpAnyH_ready (rs := [20]) (by kernel_rfl) (by simp) ?_
              refine AllReadyH.cons (o := { dst := none, op := Go.Op.store 98 (Go.Operand.tmp 73) (Go.Operand.tmp 72), type := 0, pos := "load.go:35", after := #[{ on := 19, ground := Go.Ground.data }, { on := 18, ground := Go.Ground.data }, { on := 18, ground := Go.Ground.chain }, { on := 0, ground := Go.Ground.phase }, { on := 1, ground := Go.Ground.phase }, { on := 2, ground := Go.Ground.phase }, { on := 3, ground := Go.Ground.phase }, { on := 4, ground := Go.Ground.phase }, { on := 5, ground := Go.Ground.phase }, { on := 6, ground := Go.Ground.phase }, { on := 7, ground := Go.Ground.phase }, { on := 8, ground := Go.Ground.phase }, { on := 9, ground := Go.Ground.phase }, { on := 10, ground := Go.Ground.phase }, { on := 11, ground := Go.Ground.phase }, { on := 12, ground := Go.Ground.phase }, { on := 13, ground := Go.Ground.phase }, { on := 14, ground := Go.Ground.phase }, { on := 15, ground := Go.Ground.phase }, { on := 16, ground := Go.Ground.phase }, { on := 17, ground := Go.Ground.phase }, { on := 18, ground := Go.Ground.phase }], guard := none }) rfl (fun K20 hK20 => ?_) AllReadyH.nil
              go_simp
              skip
              (try go_wp2_with fail)
              have hX20 : KeptX (fun k => k = z6) w18 (w18.setCell ⟨z6, 0, none⟩ (.slice va18 (i + 1) vc18)) := (KeptX.refl (fun k => k = z6) w18).setIn 0 _
              have hb20 := bx2_set0 hb18 (.slice va18 (i + 1) vc18)
              have hr20 := hr18.setOther (a := ⟨z6, 0, none⟩) nrz (.slice va18 (i + 1) vc18)
              have hf20 := hf18.setOther (a := ⟨z6, 0, none⟩) (Ne.symm nzf) (.slice va18 (i + 1) vc18)
              have ht20 := ht18.setOther (a := ⟨z6, 0, none⟩) (Ne.symm nzt) (.slice va18 (i + 1) vc18)
              have hO20 := own_keptY hO18 hX20 (fun b c f _ hb h => by omega)
              have hz6t : ∀ b c f, w18.heap[b]? = some (.cells c 69 f) → ¬ b = z6 := fun b c f h e => by
                subst e
                obtain ⟨cur, hh, _⟩ := id hb18
                rw [h] at hh
                injection hh with hh
                injection hh with _ hh
                exact absurd hh (by decide)
              have hTy20 : ∀ t, t < i → TyNat (w18.setCell ⟨z6, 0, none⟩ (.slice va18 (i + 1) vc18)) (P t) (partZ T F n t) := fun t ht => (hTy18 t ht).keptX hX20 hz6t
              have hTn20 := hTn18.keptX hX20 hz6t
              have hKw20 := hKw18.setCell (p := ⟨z6, 0, none⟩) hz6w (.slice va18 (i + 1) vc18)
              have hsz20 : W2.heap.size ≤ (w18.setCell ⟨z6, 0, none⟩ (.slice va18 (i + 1) vc18)).heap.size := by rw [World.size_setCell]; exact hsz18
              refine hK20.out _ _ ?_ (fun hHeld => ?_)
              · (try dsimp only)
                exact (bx2_cells hb20).2.1
              (try simp only [Act.put, List.setIfInBounds_toArray, List.set_cons_zero, List.set_cons_succ])
              refine wpAnyH_done (by kernel_rfl) ?_ _
              have HALL : Hid (∀ t, t < i + 1 → TyNat (w18.setCell ⟨z6, 0, none⟩ (.slice va18 (i + 1) vc18)) (updV P i (.slice (some ⟨g16, 0, none⟩) k16 c16) t) (partZ T F n t)) := fun t ht => by
                unfold updV
                by_cases e : t = i
                · rw [if_pos e, e]; exact hTn20
                · rw [if_neg e]; exact hTy20 t (by omega)
              have HOV : Hid ((w18.setCell ⟨z6, 0, none⟩ (.slice va18 (i + 1) vc18)).ownsRow W2.heap.size 130 1 (.slice va18 (i + 1) vc18) (i + 1) (vals (updV P i (.slice (some ⟨g16, 0, none⟩) k16 c16)) (i + 1))) := by
                show World.ownsRow _ _ _ _ _ _ _
                rw [vals_succ]
                exact hO20
              have HKW := Lib.hid hKw20
              have HSZ := Lib.hid hsz20
              have HR := Lib.hid (And.intro hr20 (And.intro hb20 (And.intro hf20 ht20)))
              generalize (w18.setCell ⟨z6, 0, none⟩ (.slice va18 (i + 1) vc18)) = WN at *
              clear hX20 hb20 hr20 hf20 ht20 hO20 hTy20 hTn20 hKw20 hsz20 hz6t hXg hb18 hr18 hf18 ht18 hKw18 hnu hTy18 hTn18 hsz18 x0 x1 x2 x3 hO18 hgr18 hO17 hTy16 hB17 hKs17 hu17 d017 dz17 hHeld hN6 hN12 hN13 hN15 hN16 hR16 hu6 hu12 hu13 hu15 hu16 d06 dz6 d012 dz12 d013 dz13 d015 dz15 d016 dz16
              go_wp2_with fail
              go_roundg (n - (i + 1))
              case measure => omega
              case rel => exact ⟨i + 1, _, _, by omega, rfl, by first | rfl | go_num, HKW.out, HSZ.out, HR.out.1, HR.out.2.1, HR.out.2.2.1, HR.out.2.2.2, HOV.out, HALL.out⟩
            · skip
              go_simp
              (go_at_call 80; refine (P1.out _ (by repeat (first | assumption | exact Kept.refl _ | apply Kept.drew | apply Kept.drewN | apply Kept.alloc | refine Kept.trans ?_ (by assumption)))).mono ?_; rintro e u6 ⟨v6, rfl, hN6, hu6⟩; obtain ⟨a6, k6, c6, rfl⟩ := natAt_slice hN6)
              (try go_wp2_with fail)
              have d06 := Kept.cellSome hu6 d0
              have dz6 := Kept.cellSome hu6 dz
              refine hK6.out _ _ ?_ (fun hHeld => ?_)
              · (try dsimp only)
                exact dz6
              (try simp only [Act.put, List.setIfInBounds_toArray, List.set_cons_zero, List.set_cons_succ])
              refine wpAnyH_ready (rs := [1, 12]) (by kernel_rfl) (by simp) ?_
              refine AllReadyH.cons (o := { dst := some 55, op := Go.Op.load 98 (Go.Operand.tmp 54), type := 98, pos := "load.go:35", after := #[{ on := 0, ground := Go.Ground.data }], guard := none }) rfl (fun K1 hK1 => ?_) (AllReadyH.cons (o := { dst := some 66, op := Go.Op.call { callee := Go.Callee.value (Go.Operand.func 80), args := #[Go.Operand.tmp 65], argTypes := #[99] }, type := 130, pos := "load.go:35", after := #[{ on := 11, ground := Go.Ground.data }, { on := 6, ground := Go.Ground.chain }], guard := none }) rfl (fun K12 hK12 => ?_) AllReadyH.nil)
              · skip
                go_simp
                skip
                (try go_wp2_with fail)
                refine hK1.out _ _ ?_ (fun hHeld => ?_)
                · (try dsimp only)
                  exact dz6
                (try simp only [Act.put, List.setIfInBounds_toArray, List.set_cons_zero, List.set_cons_succ])
                refine wpAnyH_ready (rs := [12]) (by kernel_rfl) (by simp) ?_
                refine AllReadyH.cons (o := { dst := some 66, op := Go.Op.call { callee := Go.Callee.value (Go.Operand.func 80), args := #[Go.Operand.tmp 65], argTypes := #[99] }, type := 130, pos := "load.go:35", after := #[{ on := 11, ground := Go.Ground.data }, { on := 6, ground := Go.Ground.chain }], guard := none }) rfl (fun K12 hK12 => ?_) AllReadyH.nil
                go_simp
                (go_at_call 80; refine (P2.out _ (by repeat (first | assumption | exact Kept.refl _ | apply Kept.drew | apply Kept.drewN | apply Kept.alloc | refine Kept.trans ?_ (by assumption)))).mono ?_; rintro e u12 ⟨v12, rfl, hN12, hu12⟩; obtain ⟨a12, k12, c12, rfl⟩ := natAt_slice hN12)
                (try go_wp2_with fail)
                have d012 := Kept.cellSome hu12 d06
                have dz12 := Kept.cellSome hu12 dz6
                refine hK12.out _ _ ?_ (fun hHeld => ?_)
                · (try dsimp only)
                  exact dz12
                (try simp only [Act.put, List.setIfInBounds_toArray, List.set_cons_zero, List.set_cons_succ])
                refine wpAnyH_ready (rs := [13]) (by kernel_rfl) (by simp) ?_
                refine AllReadyH.cons (o := { dst := some 67, op := Go.Op.call { callee := Go.Callee.value (Go.Operand.func 81), args := #[Go.Operand.tmp 60, Go.Operand.tmp 66], argTypes := #[130, 130] }, type := 130, pos := "load.go:35", after := #[{ on := 6, ground := Go.Ground.data }, { on := 12, ground := Go.Ground.data }, { on := 12, ground := Go.Ground.chain }], guard := none }) rfl (fun K13 hK13 => ?_) AllReadyH.nil
                go_simp
                (go_at_call 81; refine (times_row _ _ _ _ _ (hN6.kept (by repeat (first | assumption | exact Kept.refl _ | apply Kept.drew | apply Kept.drewN | apply Kept.alloc | refine Kept.trans ?_ (by assumption)))) (hN12.kept (by repeat (first | assumption | exact Kept.refl _ | apply Kept.drew | apply Kept.drewN | apply Kept.alloc | refine Kept.trans ?_ (by assumption)))) HB1.out).mono ?_; rintro e u13 ⟨g13, k13, c13, N13, f13, rfl, hN13, hu13, _⟩)
                (try go_wp2_with fail)
                have d013 := Kept.cellSome hu13 d012
                have dz13 := Kept.cellSome hu13 dz12
                refine hK13.out _ _ ?_ (fun hHeld => ?_)
                · (try dsimp only)
                  exact dz13
                (try simp only [Act.put, List.setIfInBounds_toArray, List.set_cons_zero, List.set_cons_succ])
                refine wpAnyH_ready (rs := [15]) (by kernel_rfl) (by simp) ?_
                refine AllReadyH.cons (o := { dst := some 69, op := Go.Op.call { callee := Go.Callee.value (Go.Operand.func 82), args := #[Go.Operand.tmp 68], argTypes := #[69] }, type := 130, pos := "load.go:35", after := #[{ on := 14, ground := Go.Ground.data }, { on := 13, ground := Go.Ground.chain }], guard := none }) rfl (fun K15 hK15 => ?_) AllReadyH.nil
                go_simp
                (go_at_call 82; refine (SM.out _).mono ?_; rintro e u15 ⟨v15, rfl, hN15, hu15⟩; obtain ⟨a15, k15, c15, rfl⟩ := natAt_slice hN15)
                (try go_wp2_with fail)
                have d015 := Kept.cellSome hu15 d013
                have dz15 := Kept.cellSome hu15 dz13
                refine hK15.out _ _ ?_ (fun hHeld => ?_)
                · (try dsimp only)
                  exact dz15
                (try simp only [Act.put, List.setIfInBounds_toArray, List.set_cons_zero, List.set_cons_succ])
                refine wpAnyH_ready (rs := [16]) (by kernel_rfl) (by simp) ?_
                refine AllReadyH.cons (o := { dst := some 70, op := Go.Op.call { callee := Go.Callee.value (Go.Operand.func 81), args := #[Go.Operand.tmp 67, Go.Operand.tmp 69], argTypes := #[130, 130] }, type := 130, pos := "load.go:35", after := #[{ on := 13, ground := Go.Ground.data }, { on := 15, ground := Go.Ground.data }, { on := 15, ground := Go.Ground.chain }], guard := none }) rfl (fun K16 hK16 => ?_) AllReadyH.nil
                go_simp
                (go_at_call 81; refine (times_row _ _ _ _ _ (hN13.kept (by repeat (first | assumption | exact Kept.refl _ | apply Kept.drew | apply Kept.drewN | apply Kept.alloc | refine Kept.trans ?_ (by assumption)))) (hN15.kept (by repeat (first | assumption | exact Kept.refl _ | apply Kept.drew | apply Kept.drewN | apply Kept.alloc | refine Kept.trans ?_ (by assumption)))) HB2.out).mono ?_; rintro e u16 ⟨g16, k16, c16, N16, f16, rfl, hN16, hu16, hR16⟩)
                (try go_wp2_with fail)
                have d016 := Kept.cellSome hu16 d015
                have dz16 := Kept.cellSome hu16 dz15
                refine hK16.out _ _ ?_ (fun hHeld => ?_)
                · (try dsimp only)
                  exact dz16
                (try simp only [Act.put, List.setIfInBounds_toArray, List.set_cons_zero, List.set_cons_succ])
                refine wpAnyH_ready (rs := [17]) (by kernel_rfl) (by simp) ?_
                refine AllReadyH.cons (o := { dst := some 71, op := Go.Op.buildSlice 98 1 #[(0, Go.Operand.tmp 70)], type := 98, pos := "load.go:35", after := #[{ on := 16, ground := Go.Ground.data }], guard := none }) rfl (fun K17 hK17 => ?_) AllReadyH.nil
                go_simp
                skip
                (try go_wp2_with fail)
                have hu17 : Kept u16 (u16.alloc (.cells #[(.slice (some ⟨g16, 0, none⟩) k16 c16)] 130)) := (Kept.refl u16).alloc _
                have d017 := Kept.cellSome hu17 d016
                have dz17 := Kept.cellSome hu17 dz16
                have hKs17 : Kept wr (u16.alloc (.cells #[(.slice (some ⟨g16, 0, none⟩) k16 c16)] 130)) := Kept.trans (show Kept wr u16 from (by repeat (first | assumption | exact Kept.refl _ | apply Kept.drew | apply Kept.drewN | apply Kept.alloc | refine Kept.trans ?_ (by assumption)))) hu17
                have hO17 := own_keptY hO hKs17 (fun _ _ _ _ _ h => h)
                have hTy16 : TyNat (u16.alloc (.cells #[(.slice (some ⟨g16, 0, none⟩) k16 c16)] 130)) (.slice (some ⟨g16, 0, none⟩) k16 c16) (partZ T F n i) := TyNat.kept ⟨_, _, _, _, _, rfl, by rw [← HPZ.out]; exact hN16, hR16⟩ hu17
                have hB17 : W2.heap.size ≤ (u16.alloc (.cells #[(.slice (some ⟨g16, 0, none⟩) k16 c16)] 130)).heap.size := Nat.le_trans hsz hKs17.size
                refine hK17.out _ _ ?_ (fun hHeld => ?_)
                · (try dsimp only)
                  exact dz17
                (try simp only [Act.put, List.setIfInBounds_toArray, List.set_cons_zero, List.set_cons_succ])
                refine wpAnyH_ready (rs := [18]) (by kernel_rfl) (by simp) ?_
                refine AllReadyH.cons (o := { dst := some 72, op := Go.Op.call { callee := Go.Callee.builtin Go.Builtin.append, args := #[Go.Operand.tmp 55, Go.Operand.tmp 71], argTypes := #[98, 98] }, type := 98, pos := "load.go:35", after := #[{ on := 1, ground := Go.Ground.data }, { on := 17, ground := Go.Ground.data }, { on := 16, ground := Go.Ground.chain }], guard := none }) rfl (fun K18 hK18 => ?_) AllReadyH.nil
                rw [if_pos (by rfl)]
                refine wp_append_own _ _ _ 98 rfl W2.heap.size 130 i0 (.slice none 0 0) 1 24 Tryz.underlying98 hi0 hz0 hz1 hz2 rfl (by decide) _ _ _ (by rfl) hO17 ⟨u16.heap.size, 0, none⟩ 1 1 [(.slice (some ⟨g16, 0, none⟩) k16 c16)] (by rfl) rfl (cell_one_new _ _ _) ?c2 ?c3 ?c4 ?c5 ?_
                case c2 => simp [Value.oneCell']
                case c3 => unfold maxLen; omega
                case c4 => omega
                case c5 => exact hB17
                intro v18 w18 hO18 hgr18 _
                have hXg : KeptX (fun k => (Value.slice sa i cap).ownBlock = some k) (u16.alloc (.cells #[(.slice (some ⟨g16, 0, none⟩) k16 c16)] 130)) w18 := KeptX.grown (KeptX.refl _ _) hgr18 (fun k hk => Or.inl hk)
                have hb18 := hXg.row (hKs17.row hb) (own_below hO17 hz6B)
                have hr18 := hXg.row (hKs17.row hr) (own_below hO17 hr4B)
                have hf18 := hXg.row (hKs17.row hRf) (own_below hO17 hgfB)
                have ht18 := hXg.row (hKs17.row hRt) (own_below hO17 hgtB)
                have hKw18 : Kept w w18 := (hK.trans hKs17).grown hgr18 (fun k hk => Nat.le_trans hW2w ((hO17.lt k hk).1))
                have hnu : ∀ b c f, (u16.alloc (.cells #[(.slice (some ⟨g16, 0, none⟩) k16 c16)] 130)).heap[b]? = some (.cells c 69 f) → ¬ (Value.slice sa i cap).ownBlock = some b := fun b c f h => own_not hO17 (by decide) h
                have hTy18 : ∀ t, t < i → TyNat w18 (P t) (partZ T F n t) := fun t ht => ((hTy t ht).kept hKs17).keptX hXg hnu
                have hTn18 := hTy16.keptX hXg hnu
                have hsz18 : W2.heap.size ≤ w18.heap.size := Nat.le_trans hB17 hXg.size
                obtain ⟨va18, vc18, rfl⟩ := own_shape hO18
                obtain ⟨x0, x1, x2, x3⟩ := bx2_cells hb18
                refine hK18.out _ _ ?_ (fun hHeld => ?_)
                · (try dsimp only)
                  exact x1
                (try simp only [Act.put, List.setIfInBounds_toArray, List.set_cons_zero, List.set_cons_succ])
                refine wpAnyH_take (i := 19) (oi := { dst := some 73, op := Go.Op.fieldAddr 101 (Go.Operand.tmp 6) 0, type := 0, pos := "load.go:35", after := #[{ on := 0, ground := Go.Ground.phase }, { on := 1, ground := Go.Ground.phase }, { on := 2, ground := Go.Ground.phase }, { on := 3, ground := Go.Ground.phase }, { on := 4, ground := Go.Ground.phase }, { on := 5, ground := Go.Ground.phase }, { on := 6, ground := Go.Ground.phase }, { on := 7, ground := Go.Ground.phase }, { on := 8, ground := Go.Ground.phase }, { on := 9, ground := Go.Ground.phase }, { on := 10, ground := Go.Ground.phase }, { on := 11, ground := Go.Ground.phase }, { on := 12, ground := Go.Ground.phase }, { on := 13, ground := Go.Ground.phase }, { on := 14, ground := Go.Ground.phase }, { on := 15, ground := Go.Ground.phase }, { on := 16, ground := Go.Ground.phase }, { on := 17, ground := Go.Ground.phase }, { on := 18, ground := Go.Ground.phase }], guard := none }) (v := ?v26) rfl (by kernel_rfl) (by kernel_rfl) (by kernel_rfl) (fun _ _ _ h => h) (Or.inl ⟨by rfl, ?hy26⟩) (by assumption) ?rs26
                case hy26 =>
                  intro w hSw
                  (try dsimp only at hSw)
                  go_simp
                  try with_reducible rfl
                (try simp only [Act.put, List.setIfInBounds_toArray, List.set_cons_zero, List.set_cons_succ])
                refine wpAnyH_ready (rs := [20]) (by kernel_rfl) (by simp) ?_
                refine AllReadyH.cons (o := { dst := none, op := Go.Op.store 98 (Go.Operand.tmp 73) (Go.Operand.tmp 72), type := 0, pos := "load.go:35", after := #[{ on := 19, ground := Go.Ground.data }, { on := 18, ground := Go.Ground.data }, { on := 18, ground := Go.Ground.chain }, { on := 0, ground := Go.Ground.phase }, { on := 1, ground := Go.Ground.phase }, { on := 2, ground := Go.Ground.phase }, { on := 3, ground := Go.Ground.phase }, { on := 4, ground := Go.Ground.phase }, { on := 5, ground := Go.Ground.phase }, { on := 6, ground := Go.Ground.phase }, { on := 7, ground := Go.Ground.phase }, { on := 8, ground := Go.Ground.phase }, { on := 9, ground := Go.Ground.phase }, { on := 10, ground := Go.Ground.phase }, { on := 11, ground := Go.Ground.phase }, { on := 12, ground := Go.Ground.phase }, { on := 13, ground := Go.Ground.phase }, { on := 14, ground := Go.Ground.phase }, { on := 15, ground := Go.Ground.phase }, { on := 16, ground := Go.Ground.phase }, { on := 17, ground := Go.Ground.phase }, { on := 18, ground := Go.Ground.phase }], guard := none }) rfl (fun K20 hK20 => ?_) AllReadyH.nil
                go_simp
                skip
                (try go_wp2_with fail)
                have hX20 : KeptX (fun k => k = z6) w18 (w18.setCell ⟨z6, 0, none⟩ (.slice va18 (i + 1) vc18)) := (KeptX.refl (fun k => k = z6) w18).setIn 0 _
                have hb20 := bx2_set0 hb18 (.slice va18 (i + 1) vc18)
                have hr20 := hr18.setOther (a := ⟨z6, 0, none⟩) nrz (.slice va18 (i + 1) vc18)
                have hf20 := hf18.setOther (a := ⟨z6, 0, none⟩) (Ne.symm nzf) (.slice va18 (i + 1) vc18)
                have ht20 := ht18.setOther (a := ⟨z6, 0, none⟩) (Ne.symm nzt) (.slice va18 (i + 1) vc18)
                have hO20 := own_keptY hO18 hX20 (fun b c f _ hb h => by omega)
                have hz6t : ∀ b c f, w18.heap[b]? = some (.cells c 69 f) → ¬ b = z6 := fun b c f h e => by
                  subst e
                  obtain ⟨cur, hh, _⟩ := id hb18
                  rw [h] at hh
                  injection hh with hh
                  injection hh with _ hh
                  exact absurd hh (by decide)
                have hTy20 : ∀ t, t < i → TyNat (w18.setCell ⟨z6, 0, none⟩ (.slice va18 (i + 1) vc18)) (P t) (partZ T F n t) := fun t ht => (hTy18 t ht).keptX hX20 hz6t
                have hTn20 := hTn18.keptX hX20 hz6t
                have hKw20 := hKw18.setCell (p := ⟨z6, 0, none⟩) hz6w (.slice va18 (i + 1) vc18)
                have hsz20 : W2.heap.size ≤ (w18.setCell ⟨z6, 0, none⟩ (.slice va18 (i + 1) vc18)).heap.size := by rw [World.size_setCell]; exact hsz18
                refine hK20.out _ _ ?_ (fun hHeld => ?_)
                · (try dsimp only)
                  exact (bx2_cells hb20).2.1
                (try simp only [Act.put, List.setIfInBounds_toArray, List.set_cons_zero, List.set_cons_succ])
                refine wpAnyH_done (by kernel_rfl) ?_ _
                have HALL : Hid (∀ t, t < i + 1 → TyNat (w18.setCell ⟨z6, 0, none⟩ (.slice va18 (i + 1) vc18)) (updV P i (.slice (some ⟨g16, 0, none⟩) k16 c16) t) (partZ T F n t)) := fun t ht => by
                  unfold updV
                  by_cases e : t = i
                  · rw [if_pos e, e]; exact hTn20
                  · rw [if_neg e]; exact hTy20 t (by omega)
                have HOV : Hid ((w18.setCell ⟨z6, 0, none⟩ (.slice va18 (i + 1) vc18)).ownsRow W2.heap.size 130 1 (.slice va18 (i + 1) vc18) (i + 1) (vals (updV P i (.slice (some ⟨g16, 0, none⟩) k16 c16)) (i + 1))) := by
                  show World.ownsRow _ _ _ _ _ _ _
                  rw [vals_succ]
                  exact hO20
                have HKW := Lib.hid hKw20
                have HSZ := Lib.hid hsz20
                have HR := Lib.hid (And.intro hr20 (And.intro hb20 (And.intro hf20 ht20)))
                generalize (w18.setCell ⟨z6, 0, none⟩ (.slice va18 (i + 1) vc18)) = WN at *
                clear hX20 hb20 hr20 hf20 ht20 hO20 hTy20 hTn20 hKw20 hsz20 hz6t hXg hb18 hr18 hf18 ht18 hKw18 hnu hTy18 hTn18 hsz18 x0 x1 x2 x3 hO18 hgr18 hO17 hTy16 hB17 hKs17 hu17 d017 dz17 hHeld hN6 hN12 hN13 hN15 hN16 hR16 hu6 hu12 hu13 hu15 hu16 d06 dz6 d012 dz12 d013 dz13 d015 dz15 d016 dz16
                go_wp2_with fail
                go_roundg (n - (i + 1))
                case measure => omega
                case rel => exact ⟨i + 1, _, _, by omega, rfl, by first | rfl | go_num, HKW.out, HSZ.out, HR.out.1, HR.out.2.1, HR.out.2.2.1, HR.out.2.2.2, HOV.out, HALL.out⟩
              · skip
                go_simp
                (go_at_call 80; refine (P2.out _ (by repeat (first | assumption | exact Kept.refl _ | apply Kept.drew | apply Kept.drewN | apply Kept.alloc | refine Kept.trans ?_ (by assumption)))).mono ?_; rintro e u12 ⟨v12, rfl, hN12, hu12⟩; obtain ⟨a12, k12, c12, rfl⟩ := natAt_slice hN12)
                (try go_wp2_with fail)
                have d012 := Kept.cellSome hu12 d06
                have dz12 := Kept.cellSome hu12 dz6
                refine hK12.out _ _ ?_ (fun hHeld => ?_)
                · (try dsimp only)
                  exact dz12
                (try simp only [Act.put, List.setIfInBounds_toArray, List.set_cons_zero, List.set_cons_succ])
                refine wpAnyH_ready (rs := [1, 13]) (by kernel_rfl) (by simp) ?_
                refine AllReadyH.cons (o := { dst := some 55, op := Go.Op.load 98 (Go.Operand.tmp 54), type := 98, pos := "load.go:35", after := #[{ on := 0, ground := Go.Ground.data }], guard := none }) rfl (fun K1 hK1 => ?_) (AllReadyH.cons (o := { dst := some 67, op := Go.Op.call { callee := Go.Callee.value (Go.Operand.func 81), args := #[Go.Operand.tmp 60, Go.Operand.tmp 66], argTypes := #[130, 130] }, type := 130, pos := "load.go:35", after := #[{ on := 6, ground := Go.Ground.data }, { on := 12, ground := Go.Ground.data }, { on := 12, ground := Go.Ground.chain }], guard := none }) rfl (fun K13 hK13 => ?_) AllReadyH.nil)
                · skip
                  go_simp
                  skip
                  (try go_wp2_with fail)
                  refine hK1.out _ _ ?_ (fun hHeld => ?_)
                  · (try dsimp only)
                    exact dz12
                  (try simp only [Act.put, List.setIfInBounds_toArray, List.set_cons_zero, List.set_cons_succ])
                  refine wpAnyH_ready (rs := [13]) (by kernel_rfl) (by simp) ?_
                  refine AllReadyH.cons (o := { dst := some 67, op := Go.Op.call { callee := Go.Callee.value (Go.Operand.func 81), args := #[Go.Operand.tmp 60, Go.Operand.tmp 66], argTypes := #[130, 130] }, type := 130, pos := "load.go:35", after := #[{ on := 6, ground := Go.Ground.data }, { on := 12, ground := Go.Ground.data }, { on := 12, ground := Go.Ground.chain }], guard := none }) rfl (fun K13 hK13 => ?_) AllReadyH.nil
                  go_simp
                  (go_at_call 81; refine (times_row _ _ _ _ _ (hN6.kept (by repeat (first | assumption | exact Kept.refl _ | apply Kept.drew | apply Kept.drewN | apply Kept.alloc | refine Kept.trans ?_ (by assumption)))) (hN12.kept (by repeat (first | assumption | exact Kept.refl _ | apply Kept.drew | apply Kept.drewN | apply Kept.alloc | refine Kept.trans ?_ (by assumption)))) HB1.out).mono ?_; rintro e u13 ⟨g13, k13, c13, N13, f13, rfl, hN13, hu13, _⟩)
                  (try go_wp2_with fail)
                  have d013 := Kept.cellSome hu13 d012
                  have dz13 := Kept.cellSome hu13 dz12
                  refine hK13.out _ _ ?_ (fun hHeld => ?_)
                  · (try dsimp only)
                    exact dz13
                  (try simp only [Act.put, List.setIfInBounds_toArray, List.set_cons_zero, List.set_cons_succ])
                  refine wpAnyH_ready (rs := [15]) (by kernel_rfl) (by simp) ?_
                  refine AllReadyH.cons (o := { dst := some 69, op := Go.Op.call { callee := Go.Callee.value (Go.Operand.func 82), args := #[Go.Operand.tmp 68], argTypes := #[69] }, type := 130, pos := "load.go:35", after := #[{ on := 14, ground := Go.Ground.data }, { on := 13, ground := Go.Ground.chain }], guard := none }) rfl (fun K15 hK15 => ?_) AllReadyH.nil
                  go_simp
                  (go_at_call 82; refine (SM.out _).mono ?_; rintro e u15 ⟨v15, rfl, hN15, hu15⟩; obtain ⟨a15, k15, c15, rfl⟩ := natAt_slice hN15)
                  (try go_wp2_with fail)
                  have d015 := Kept.cellSome hu15 d013
                  have dz15 := Kept.cellSome hu15 dz13
                  refine hK15.out _ _ ?_ (fun hHeld => ?_)
                  · (try dsimp only)
                    exact dz15
                  (try simp only [Act.put, List.setIfInBounds_toArray, List.set_cons_zero, List.set_cons_succ])
                  refine wpAnyH_ready (rs := [16]) (by kernel_rfl) (by simp) ?_
                  refine AllReadyH.cons (o := { dst := some 70, op := Go.Op.call { callee := Go.Callee.value (Go.Operand.func 81), args := #[Go.Operand.tmp 67, Go.Operand.tmp 69], argTypes := #[130, 130] }, type := 130, pos := "load.go:35", after := #[{ on := 13, ground := Go.Ground.data }, { on := 15, ground := Go.Ground.data }, { on := 15, ground := Go.Ground.chain }], guard := none }) rfl (fun K16 hK16 => ?_) AllReadyH.nil
                  go_simp
                  (go_at_call 81; refine (times_row _ _ _ _ _ (hN13.kept (by repeat (first | assumption | exact Kept.refl _ | apply Kept.drew | apply Kept.drewN | apply Kept.alloc | refine Kept.trans ?_ (by assumption)))) (hN15.kept (by repeat (first | assumption | exact Kept.refl _ | apply Kept.drew | apply Kept.drewN | apply Kept.alloc | refine Kept.trans ?_ (by assumption)))) HB2.out).mono ?_; rintro e u16 ⟨g16, k16, c16, N16, f16, rfl, hN16, hu16, hR16⟩)
                  (try go_wp2_with fail)
                  have d016 := Kept.cellSome hu16 d015
                  have dz16 := Kept.cellSome hu16 dz15
                  refine hK16.out _ _ ?_ (fun hHeld => ?_)
                  · (try dsimp only)
                    exact dz16
                  (try simp only [Act.put, List.setIfInBounds_toArray, List.set_cons_zero, List.set_cons_succ])
                  refine wpAnyH_ready (rs := [17]) (by kernel_rfl) (by simp) ?_
                  refine AllReadyH.cons (o := { dst := some 71, op := Go.Op.buildSlice 98 1 #[(0, Go.Operand.tmp 70)], type := 98, pos := "load.go:35", after := #[{ on := 16, ground := Go.Ground.data }], guard := none }) rfl (fun K17 hK17 => ?_) AllReadyH.nil
                  go_simp
                  skip
                  (try go_wp2_with fail)
                  have hu17 : Kept u16 (u16.alloc (.cells #[(.slice (some ⟨g16, 0, none⟩) k16 c16)] 130)) := (Kept.refl u16).alloc _
                  have d017 := Kept.cellSome hu17 d016
                  have dz17 := Kept.cellSome hu17 dz16
                  have hKs17 : Kept wr (u16.alloc (.cells #[(.slice (some ⟨g16, 0, none⟩) k16 c16)] 130)) := Kept.trans (show Kept wr u16 from (by repeat (first | assumption | exact Kept.refl _ | apply Kept.drew | apply Kept.drewN | apply Kept.alloc | refine Kept.trans ?_ (by assumption)))) hu17
                  have hO17 := own_keptY hO hKs17 (fun _ _ _ _ _ h => h)
                  have hTy16 : TyNat (u16.alloc (.cells #[(.slice (some ⟨g16, 0, none⟩) k16 c16)] 130)) (.slice (some ⟨g16, 0, none⟩) k16 c16) (partZ T F n i) := TyNat.kept ⟨_, _, _, _, _, rfl, by rw [← HPZ.out]; exact hN16, hR16⟩ hu17
                  have hB17 : W2.heap.size ≤ (u16.alloc (.cells #[(.slice (some ⟨g16, 0, none⟩) k16 c16)] 130)).heap.size := Nat.le_trans hsz hKs17.size
                  refine hK17.out _ _ ?_ (fun hHeld => ?_)
                  · (try dsimp only)
                    exact dz17
                  (try simp only [Act.put, List.setIfInBounds_toArray, List.set_cons_zero, List.set_cons_succ])
                  refine wpAnyH_ready (rs := [18]) (by kernel_rfl) (by simp) ?_
                  refine AllReadyH.cons (o := { dst := some 72, op := Go.Op.call { callee := Go.Callee.builtin Go.Builtin.append, args := #[Go.Operand.tmp 55, Go.Operand.tmp 71], argTypes := #[98, 98] }, type := 98, pos := "load.go:35", after := #[{ on := 1, ground := Go.Ground.data }, { on := 17, ground := Go.Ground.data }, { on := 16, ground := Go.Ground.chain }], guard := none }) rfl (fun K18 hK18 => ?_) AllReadyH.nil
                  rw [if_pos (by rfl)]
                  refine wp_append_own _ _ _ 98 rfl W2.heap.size 130 i0 (.slice none 0 0) 1 24 Tryz.underlying98 hi0 hz0 hz1 hz2 rfl (by decide) _ _ _ (by rfl) hO17 ⟨u16.heap.size, 0, none⟩ 1 1 [(.slice (some ⟨g16, 0, none⟩) k16 c16)] (by rfl) rfl (cell_one_new _ _ _) ?c2 ?c3 ?c4 ?c5 ?_
                  case c2 => simp [Value.oneCell']
                  case c3 => unfold maxLen; omega
                  case c4 => omega
                  case c5 => exact hB17
                  intro v18 w18 hO18 hgr18 _
                  have hXg : KeptX (fun k => (Value.slice sa i cap).ownBlock = some k) (u16.alloc (.cells #[(.slice (some ⟨g16, 0, none⟩) k16 c16)] 130)) w18 := KeptX.grown (KeptX.refl _ _) hgr18 (fun k hk => Or.inl hk)
                  have hb18 := hXg.row (hKs17.row hb) (own_below hO17 hz6B)
                  have hr18 := hXg.row (hKs17.row hr) (own_below hO17 hr4B)
                  have hf18 := hXg.row (hKs17.row hRf) (own_below hO17 hgfB)
                  have ht18 := hXg.row (hKs17.row hRt) (own_below hO17 hgtB)
                  have hKw18 : Kept w w18 := (hK.trans hKs17).grown hgr18 (fun k hk => Nat.le_trans hW2w ((hO17.lt k hk).1))
                  have hnu : ∀ b c f, (u16.alloc (.cells #[(.slice (some ⟨g16, 0, none⟩) k16 c16)] 130)).heap[b]? = some (.cells c 69 f) → ¬ (Value.slice sa i cap).ownBlock = some b := fun b c f h => own_not hO17 (by decide) h
                  have hTy18 : ∀ t, t < i → TyNat w18 (P t) (partZ T F n t) := fun t ht => ((hTy t ht).kept hKs17).keptX hXg hnu
                  have hTn18 := hTy16.keptX hXg hnu
                  have hsz18 : W2.heap.size ≤ w18.heap.size := Nat.le_trans hB17 hXg.size
                  obtain ⟨va18, vc18, rfl⟩ := own_shape hO18
                  obtain ⟨x0, x1, x2, x3⟩ := bx2_cells hb18
                  refine hK18.out _ _ ?_ (fun hHeld => ?_)
                  · (try dsimp only)
                    exact x1
                  (try simp only [Act.put, List.setIfInBounds_toArray, List.set_cons_zero, List.set_cons_succ])
                  refine wpAnyH_take (i := 19) (oi := { dst := some 73, op := Go.Op.fieldAddr 101 (Go.Operand.tmp 6) 0, type := 0, pos := "load.go:35", after := #[{ on := 0, ground := Go.Ground.phase }, { on := 1, ground := Go.Ground.phase }, { on := 2, ground := Go.Ground.phase }, { on := 3, ground := Go.Ground.phase }, { on := 4, ground := Go.Ground.phase }, { on := 5, ground := Go.Ground.phase }, { on := 6, ground := Go.Ground.phase }, { on := 7, ground := Go.Ground.phase }, { on := 8, ground := Go.Ground.phase }, { on := 9, ground := Go.Ground.phase }, { on := 10, ground := Go.Ground.phase }, { on := 11, ground := Go.Ground.phase }, { on := 12, ground := Go.Ground.phase }, { on := 13, ground := Go.Ground.phase }, { on := 14, ground := Go.Ground.phase }, { on := 15, ground := Go.Ground.phase }, { on := 16, ground := Go.Ground.phase }, { on := 17, ground := Go.Ground.phase }, { on := 18, ground := Go.Ground.phase }], guard := none }) (v := ?v27) rfl (by kernel_rfl) (by kernel_rfl) (by kernel_rfl) (fun _ _ _ h => h) (Or.inl ⟨by rfl, ?hy27⟩) (by assumption) ?rs27
                  case hy27 =>
                    intro w hSw
                    (try dsimp only at hSw)
                    go_simp
                    try with_reducible rfl
                  (try simp only [Act.put, List.setIfInBounds_toArray, List.set_cons_zero, List.set_cons_succ])
                  refine wpAnyH_ready (rs := [20]) (by kernel_rfl) (by simp) ?_
                  refine AllReadyH.cons (o := { dst := none, op := Go.Op.store 98 (Go.Operand.tmp 73) (Go.Operand.tmp 72), type := 0, pos := "load.go:35", after := #[{ on := 19, ground := Go.Ground.data }, { on := 18, ground := Go.Ground.data }, { on := 18, ground := Go.Ground.chain }, { on := 0, ground := Go.Ground.phase }, { on := 1, ground := Go.Ground.phase }, { on := 2, ground := Go.Ground.phase }, { on := 3, ground := Go.Ground.phase }, { on := 4, ground := Go.Ground.phase }, { on := 5, ground := Go.Ground.phase }, { on := 6, ground := Go.Ground.phase }, { on := 7, ground := Go.Ground.phase }, { on := 8, ground := Go.Ground.phase }, { on := 9, ground := Go.Ground.phase }, { on := 10, ground := Go.Ground.phase }, { on := 11, ground := Go.Ground.phase }, { on := 12, ground := Go.Ground.phase }, { on := 13, ground := Go.Ground.phase }, { on := 14, ground := Go.Ground.phase }, { on := 15, ground := Go.Ground.phase }, { on := 16, ground := Go.Ground.phase }, { on := 17, ground := Go.Ground.phase }, { on := 18, ground := Go.Ground.phase }], guard := none }) rfl (fun K20 hK20 => ?_) AllReadyH.nil
                  go_simp
                  skip
                  (try go_wp2_with fail)
                  have hX20 : KeptX (fun k => k = z6) w18 (w18.setCell ⟨z6, 0, none⟩ (.slice va18 (i + 1) vc18)) := (KeptX.refl (fun k => k = z6) w18).setIn 0 _
                  have hb20 := bx2_set0 hb18 (.slice va18 (i + 1) vc18)
                  have hr20 := hr18.setOther (a := ⟨z6, 0, none⟩) nrz (.slice va18 (i + 1) vc18)
                  have hf20 := hf18.setOther (a := ⟨z6, 0, none⟩) (Ne.symm nzf) (.slice va18 (i + 1) vc18)
                  have ht20 := ht18.setOther (a := ⟨z6, 0, none⟩) (Ne.symm nzt) (.slice va18 (i + 1) vc18)
                  have hO20 := own_keptY hO18 hX20 (fun b c f _ hb h => by omega)
                  have hz6t : ∀ b c f, w18.heap[b]? = some (.cells c 69 f) → ¬ b = z6 := fun b c f h e => by
                    subst e
                    obtain ⟨cur, hh, _⟩ := id hb18
                    rw [h] at hh
                    injection hh with hh
                    injection hh with _ hh
                    exact absurd hh (by decide)
                  have hTy20 : ∀ t, t < i → TyNat (w18.setCell ⟨z6, 0, none⟩ (.slice va18 (i + 1) vc18)) (P t) (partZ T F n t) := fun t ht => (hTy18 t ht).keptX hX20 hz6t
                  have hTn20 := hTn18.keptX hX20 hz6t
                  have hKw20 := hKw18.setCell (p := ⟨z6, 0, none⟩) hz6w (.slice va18 (i + 1) vc18)
                  have hsz20 : W2.heap.size ≤ (w18.setCell ⟨z6, 0, none⟩ (.slice va18 (i + 1) vc18)).heap.size := by rw [World.size_setCell]; exact hsz18
                  refine hK20.out _ _ ?_ (fun hHeld => ?_)
                  · (try dsimp only)
                    exact (bx2_cells hb20).2.1
                  (try simp only [Act.put, List.setIfInBounds_toArray, List.set_cons_zero, List.set_cons_succ])
                  refine wpAnyH_done (by kernel_rfl) ?_ _
                  have HALL : Hid (∀ t, t < i + 1 → TyNat (w18.setCell ⟨z6, 0, none⟩ (.slice va18 (i + 1) vc18)) (updV P i (.slice (some ⟨g16, 0, none⟩) k16 c16) t) (partZ T F n t)) := fun t ht => by
                    unfold updV
                    by_cases e : t = i
                    · rw [if_pos e, e]; exact hTn20
                    · rw [if_neg e]; exact hTy20 t (by omega)
                  have HOV : Hid ((w18.setCell ⟨z6, 0, none⟩ (.slice va18 (i + 1) vc18)).ownsRow W2.heap.size 130 1 (.slice va18 (i + 1) vc18) (i + 1) (vals (updV P i (.slice (some ⟨g16, 0, none⟩) k16 c16)) (i + 1))) := by
                    show World.ownsRow _ _ _ _ _ _ _
                    rw [vals_succ]
                    exact hO20
                  have HKW := Lib.hid hKw20
                  have HSZ := Lib.hid hsz20
                  have HR := Lib.hid (And.intro hr20 (And.intro hb20 (And.intro hf20 ht20)))
                  generalize (w18.setCell ⟨z6, 0, none⟩ (.slice va18 (i + 1) vc18)) = WN at *
                  clear hX20 hb20 hr20 hf20 ht20 hO20 hTy20 hTn20 hKw20 hsz20 hz6t hXg hb18 hr18 hf18 ht18 hKw18 hnu hTy18 hTn18 hsz18 x0 x1 x2 x3 hO18 hgr18 hO17 hTy16 hB17 hKs17 hu17 d017 dz17 hHeld hN6 hN12 hN13 hN15 hN16 hR16 hu6 hu12 hu13 hu15 hu16 d06 dz6 d012 dz12 d013 dz13 d015 dz15 d016 dz16
                  go_wp2_with fail
                  go_roundg (n - (i + 1))
                  case measure => omega
                  case rel => exact ⟨i + 1, _, _, by omega, rfl, by first | rfl | go_num, HKW.out, HSZ.out, HR.out.1, HR.out.2.1, HR.out.2.2.1, HR.out.2.2.2, HOV.out, HALL.out⟩
                · skip
                  go_simp
                  (go_at_call 81; refine (times_row _ _ _ _ _ (hN6.kept (by repeat (first | assumption | exact Kept.refl _ | apply Kept.drew | apply Kept.drewN | apply Kept.alloc | refine Kept.trans ?_ (by assumption)))) (hN12.kept (by repeat (first | assumption | exact Kept.refl _ | apply Kept.drew | apply Kept.drewN | apply Kept.alloc | refine Kept.trans ?_ (by assumption)))) HB1.out).mono ?_; rintro e u13 ⟨g13, k13, c13, N13, f13, rfl, hN13, hu13, _⟩)
                  (try go_wp2_with fail)
                  have d013 := Kept.cellSome hu13 d012
                  have dz13 := Kept.cellSome hu13 dz12
                  refine hK13.out _ _ ?_ (fun hHeld => ?_)
                  · (try dsimp only)
                    exact dz13
                  (try simp only [Act.put, List.setIfInBounds_toArray, List.set_cons_zero, List.set_cons_succ])
                  refine wpAnyH_ready (rs := [1, 15]) (by kernel_rfl) (by simp) ?_
                  refine AllReadyH.cons (o := { dst := some 55, op := Go.Op.load 98 (Go.Operand.tmp 54), type := 98, pos := "load.go:35", after := #[{ on := 0, ground := Go.Ground.data }], guard := none }) rfl (fun K1 hK1 => ?_) (AllReadyH.cons (o := { dst := some 69, op := Go.Op.call { callee := Go.Callee.value (Go.Operand.func 82), args := #[Go.Operand.tmp 68], argTypes := #[69] }, type := 130, pos := "load.go:35", after := #[{ on := 14, ground := Go.Ground.data }, { on := 13, ground := Go.Ground.chain }], guard := none }) rfl (fun K15 hK15 => ?_) AllReadyH.nil)
                  · skip
                    go_simp
                    skip
                    (try go_wp2_with fail)
                    refine hK1.out _ _ ?_ (fun hHeld => ?_)
                    · (try dsimp only)
                      exact dz13
                    (try simp only [Act.put, List.setIfInBounds_toArray, List.set_cons_zero, List.set_cons_succ])
                    refine wpAnyH_ready (rs := [15]) (by kernel_rfl) (by simp) ?_
                    refine AllReadyH.cons (o := { dst := some 69, op := Go.Op.call { callee := Go.Callee.value (Go.Operand.func 82), args := #[Go.Operand.tmp 68], argTypes := #[69] }, type := 130, pos := "load.go:35", after := #[{ on := 14, ground := Go.Ground.data }, { on := 13, ground := Go.Ground.chain }], guard := none }) rfl (fun K15 hK15 => ?_) AllReadyH.nil
                    go_simp
                    (go_at_call 82; refine (SM.out _).mono ?_; rintro e u15 ⟨v15, rfl, hN15, hu15⟩; obtain ⟨a15, k15, c15, rfl⟩ := natAt_slice hN15)
                    (try go_wp2_with fail)
                    have d015 := Kept.cellSome hu15 d013
                    have dz15 := Kept.cellSome hu15 dz13
                    refine hK15.out _ _ ?_ (fun hHeld => ?_)
                    · (try dsimp only)
                      exact dz15
                    (try simp only [Act.put, List.setIfInBounds_toArray, List.set_cons_zero, List.set_cons_succ])
                    refine wpAnyH_ready (rs := [16]) (by kernel_rfl) (by simp) ?_
                    refine AllReadyH.cons (o := { dst := some 70, op := Go.Op.call { callee := Go.Callee.value (Go.Operand.func 81), args := #[Go.Operand.tmp 67, Go.Operand.tmp 69], argTypes := #[130, 130] }, type := 130, pos := "load.go:35", after := #[{ on := 13, ground := Go.Ground.data }, { on := 15, ground := Go.Ground.data }, { on := 15, ground := Go.Ground.chain }], guard := none }) rfl (fun K16 hK16 => ?_) AllReadyH.nil
                    go_simp
                    (go_at_call 81; refine (times_row _ _ _ _ _ (hN13.kept (by repeat (first | assumption | exact Kept.refl _ | apply Kept.drew | apply Kept.drewN | apply Kept.alloc | refine Kept.trans ?_ (by assumption)))) (hN15.kept (by repeat (first | assumption | exact Kept.refl _ | apply Kept.drew | apply Kept.drewN | apply Kept.alloc | refine Kept.trans ?_ (by assumption)))) HB2.out).mono ?_; rintro e u16 ⟨g16, k16, c16, N16, f16, rfl, hN16, hu16, hR16⟩)
                    (try go_wp2_with fail)
                    have d016 := Kept.cellSome hu16 d015
                    have dz16 := Kept.cellSome hu16 dz15
                    refine hK16.out _ _ ?_ (fun hHeld => ?_)
                    · (try dsimp only)
                      exact dz16
                    (try simp only [Act.put, List.setIfInBounds_toArray, List.set_cons_zero, List.set_cons_succ])
                    refine wpAnyH_ready (rs := [17]) (by kernel_rfl) (by simp) ?_
                    refine AllReadyH.cons (o := { dst := some 71, op := Go.Op.buildSlice 98 1 #[(0, Go.Operand.tmp 70)], type := 98, pos := "load.go:35", after := #[{ on := 16, ground := Go.Ground.data }], guard := none }) rfl (fun K17 hK17 => ?_) AllReadyH.nil
                    go_simp
                    skip
                    (try go_wp2_with fail)
                    have hu17 : Kept u16 (u16.alloc (.cells #[(.slice (some ⟨g16, 0, none⟩) k16 c16)] 130)) := (Kept.refl u16).alloc _
                    have d017 := Kept.cellSome hu17 d016
                    have dz17 := Kept.cellSome hu17 dz16
                    have hKs17 : Kept wr (u16.alloc (.cells #[(.slice (some ⟨g16, 0, none⟩) k16 c16)] 130)) := Kept.trans (show Kept wr u16 from (by repeat (first | assumption | exact Kept.refl _ | apply Kept.drew | apply Kept.drewN | apply Kept.alloc | refine Kept.trans ?_ (by assumption)))) hu17
                    have hO17 := own_keptY hO hKs17 (fun _ _ _ _ _ h => h)
                    have hTy16 : TyNat (u16.alloc (.cells #[(.slice (some ⟨g16, 0, none⟩) k16 c16)] 130)) (.slice (some ⟨g16, 0, none⟩) k16 c16) (partZ T F n i) := TyNat.kept ⟨_, _, _, _, _, rfl, by rw [← HPZ.out]; exact hN16, hR16⟩ hu17
                    have hB17 : W2.heap.size ≤ (u16.alloc (.cells #[(.slice (some ⟨g16, 0, none⟩) k16 c16)] 130)).heap.size := Nat.le_trans hsz hKs17.size
                    refine hK17.out _ _ ?_ (fun hHeld => ?_)
                    · (try dsimp only)
                      exact dz17
                    (try simp only [Act.put, List.setIfInBounds_toArray, List.set_cons_zero, List.set_cons_succ])
                    refine wpAnyH_ready (rs := [18]) (by kernel_rfl) (by simp) ?_
                    refine AllReadyH.cons (o := { dst := some 72, op := Go.Op.call { callee := Go.Callee.builtin Go.Builtin.append, args := #[Go.Operand.tmp 55, Go.Operand.tmp 71], argTypes := #[98, 98] }, type := 98, pos := "load.go:35", after := #[{ on := 1, ground := Go.Ground.data }, { on := 17, ground := Go.Ground.data }, { on := 16, ground := Go.Ground.chain }], guard := none }) rfl (fun K18 hK18 => ?_) AllReadyH.nil
                    rw [if_pos (by rfl)]
                    refine wp_append_own _ _ _ 98 rfl W2.heap.size 130 i0 (.slice none 0 0) 1 24 Tryz.underlying98 hi0 hz0 hz1 hz2 rfl (by decide) _ _ _ (by rfl) hO17 ⟨u16.heap.size, 0, none⟩ 1 1 [(.slice (some ⟨g16, 0, none⟩) k16 c16)] (by rfl) rfl (cell_one_new _ _ _) ?c2 ?c3 ?c4 ?c5 ?_
                    case c2 => simp [Value.oneCell']
                    case c3 => unfold maxLen; omega
                    case c4 => omega
                    case c5 => exact hB17
                    intro v18 w18 hO18 hgr18 _
                    have hXg : KeptX (fun k => (Value.slice sa i cap).ownBlock = some k) (u16.alloc (.cells #[(.slice (some ⟨g16, 0, none⟩) k16 c16)] 130)) w18 := KeptX.grown (KeptX.refl _ _) hgr18 (fun k hk => Or.inl hk)
                    have hb18 := hXg.row (hKs17.row hb) (own_below hO17 hz6B)
                    have hr18 := hXg.row (hKs17.row hr) (own_below hO17 hr4B)
                    have hf18 := hXg.row (hKs17.row hRf) (own_below hO17 hgfB)
                    have ht18 := hXg.row (hKs17.row hRt) (own_below hO17 hgtB)
                    have hKw18 : Kept w w18 := (hK.trans hKs17).grown hgr18 (fun k hk => Nat.le_trans hW2w ((hO17.lt k hk).1))
                    have hnu : ∀ b c f, (u16.alloc (.cells #[(.slice (some ⟨g16, 0, none⟩) k16 c16)] 130)).heap[b]? = some (.cells c 69 f) → ¬ (Value.slice sa i cap).ownBlock = some b := fun b c f h => own_not hO17 (by decide) h
                    have hTy18 : ∀ t, t < i → TyNat w18 (P t) (partZ T F n t) := fun t ht => ((hTy t ht).kept hKs17).keptX hXg hnu
                    have hTn18 := hTy16.keptX hXg hnu
                    have hsz18 : W2.heap.size ≤ w18.heap.size := Nat.le_trans hB17 hXg.size
                    obtain ⟨va18, vc18, rfl⟩ := own_shape hO18
                    obtain ⟨x0, x1, x2, x3⟩ := bx2_cells hb18
                    refine hK18.out _ _ ?_ (fun hHeld => ?_)
                    · (try dsimp only)
                      exact x1
                    (try simp only [Act.put, List.setIfInBounds_toArray, List.set_cons_zero, List.set_cons_succ])
                    refine wpAnyH_take (i := 19) (oi := { dst := some 73, op := Go.Op.fieldAddr 101 (Go.Operand.tmp 6) 0, type := 0, pos := "load.go:35", after := #[{ on := 0, ground := Go.Ground.phase }, { on := 1, ground := Go.Ground.phase }, { on := 2, ground := Go.Ground.phase }, { on := 3, ground := Go.Ground.phase }, { on := 4, ground := Go.Ground.phase }, { on := 5, ground := Go.Ground.phase }, { on := 6, ground := Go.Ground.phase }, { on := 7, ground := Go.Ground.phase }, { on := 8, ground := Go.Ground.phase }, { on := 9, ground := Go.Ground.phase }, { on := 10, ground := Go.Ground.phase }, { on := 11, ground := Go.Ground.phase }, { on := 12, ground := Go.Ground.phase }, { on := 13, ground := Go.Ground.phase }, { on := 14, ground := Go.Ground.phase }, { on := 15, ground := Go.Ground.phase }, { on := 16, ground := Go.Ground.phase }, { on := 17, ground := Go.Ground.phase }, { on := 18, ground := Go.Ground.phase }], guard := none }) (v := ?v28) rfl (by kernel_rfl) (by kernel_rfl) (by kernel_rfl) (fun _ _ _ h => h) (Or.inl ⟨by rfl, ?hy28⟩) (by assumption) ?rs28
                    case hy28 =>
                      intro w hSw
                      (try dsimp only at hSw)
                      go_simp
                      try with_reducible rfl
                    (try simp only [Act.put, List.setIfInBounds_toArray, List.set_cons_zero, List.set_cons_succ])
                    refine wpAnyH_ready (rs := [20]) (by kernel_rfl) (by simp) ?_
                    refine AllReadyH.cons (o := { dst := none, op := Go.Op.store 98 (Go.Operand.tmp 73) (Go.Operand.tmp 72), type := 0, pos := "load.go:35", after := #[{ on := 19, ground := Go.Ground.data }, { on := 18, ground := Go.Ground.data }, { on := 18, ground := Go.Ground.chain }, { on := 0, ground := Go.Ground.phase }, { on := 1, ground := Go.Ground.phase }, { on := 2, ground := Go.Ground.phase }, { on := 3, ground := Go.Ground.phase }, { on := 4, ground := Go.Ground.phase }, { on := 5, ground := Go.Ground.phase }, { on := 6, ground := Go.Ground.phase }, { on := 7, ground := Go.Ground.phase }, { on := 8, ground := Go.Ground.phase }, { on := 9, ground := Go.Ground.phase }, { on := 10, ground := Go.Ground.phase }, { on := 11, ground := Go.Ground.phase }, { on := 12, ground := Go.Ground.phase }, { on := 13, ground := Go.Ground.phase }, { on := 14, ground := Go.Ground.phase }, { on := 15, ground := Go.Ground.phase }, { on := 16, ground := Go.Ground.phase }, { on := 17, ground := Go.Ground.phase }, { on := 18, ground := Go.Ground.phase }], guard := none }) rfl (fun K20 hK20 => ?_) AllReadyH.nil
                    go_simp
                    skip
                    (try go_wp2_with fail)
                    have hX20 : KeptX (fun k => k = z6) w18 (w18.setCell ⟨z6, 0, none⟩ (.slice va18 (i + 1) vc18)) := (KeptX.refl (fun k => k = z6) w18).setIn 0 _
                    have hb20 := bx2_set0 hb18 (.slice va18 (i + 1) vc18)
                    have hr20 := hr18.setOther (a := ⟨z6, 0, none⟩) nrz (.slice va18 (i + 1) vc18)
                    have hf20 := hf18.setOther (a := ⟨z6, 0, none⟩) (Ne.symm nzf) (.slice va18 (i + 1) vc18)
                    have ht20 := ht18.setOther (a := ⟨z6, 0, none⟩) (Ne.symm nzt) (.slice va18 (i + 1) vc18)
                    have hO20 := own_keptY hO18 hX20 (fun b c f _ hb h => by omega)
                    have hz6t : ∀ b c f, w18.heap[b]? = some (.cells c 69 f) → ¬ b = z6 := fun b c f h e => by
                      subst e
                      obtain ⟨cur, hh, _⟩ := id hb18
                      rw [h] at hh
                      injection hh with hh
                      injection hh with _ hh
                      exact absurd hh (by decide)
                    have hTy20 : ∀ t, t < i → TyNat (w18.setCell ⟨z6, 0, none⟩ (.slice va18 (i + 1) vc18)) (P t) (partZ T F n t) := fun t ht => (hTy18 t ht).keptX hX20 hz6t
                    have hTn20 := hTn18.keptX hX20 hz6t
                    have hKw20 := hKw18.setCell (p := ⟨z6, 0, none⟩) hz6w (.slice va18 (i + 1) vc18)
                    have hsz20 : W2.heap.size ≤ (w18.setCell ⟨z6, 0, none⟩ (.slice va18 (i + 1) vc18)).heap.size := by rw [World.size_setCell]; exact hsz18
                    refine hK20.out _ _ ?_ (fun hHeld => ?_)
                    · (try dsimp only)
                      exact (bx2_cells hb20).2.1
                    (try simp only [Act.put, List.setIfInBounds_toArray, List.set_cons_zero, List.set_cons_succ])
                    refine wpAnyH_done (by kernel_rfl) ?_ _
                    have HALL : Hid (∀ t, t < i + 1 → TyNat (w18.setCell ⟨z6, 0, none⟩ (.slice va18 (i + 1) vc18)) (updV P i (.slice (some ⟨g16, 0, none⟩) k16 c16) t) (partZ T F n t)) := fun t ht => by
                      unfold updV
                      by_cases e : t = i
                      · rw [if_pos e, e]; exact hTn20
                      · rw [if_neg e]; exact hTy20 t (by omega)
                    have HOV : Hid ((w18.setCell ⟨z6, 0, none⟩ (.slice va18 (i + 1) vc18)).ownsRow W2.heap.size 130 1 (.slice va18 (i + 1) vc18) (i + 1) (vals (updV P i (.slice (some ⟨g16, 0, none⟩) k16 c16)) (i + 1))) := by
                      show World.ownsRow _ _ _ _ _ _ _
                      rw [vals_succ]
                      exact hO20
                    have HKW := Lib.hid hKw20
                    have HSZ := Lib.hid hsz20
                    have HR := Lib.hid (And.intro hr20 (And.intro hb20 (And.intro hf20 ht20)))
                    generalize (w18.setCell ⟨z6, 0, none⟩ (.slice va18 (i + 1) vc18)) = WN at *
                    clear hX20 hb20 hr20 hf20 ht20 hO20 hTy20 hTn20 hKw20 hsz20 hz6t hXg hb18 hr18 hf18 ht18 hKw18 hnu hTy18 hTn18 hsz18 x0 x1 x2 x3 hO18 hgr18 hO17 hTy16 hB17 hKs17 hu17 d017 dz17 hHeld hN6 hN12 hN13 hN15 hN16 hR16 hu6 hu12 hu13 hu15 hu16 d06 dz6 d012 dz12 d013 dz13 d015 dz15 d016 dz16
                    go_wp2_with fail
                    go_roundg (n - (i + 1))
                    case measure => omega
                    case rel => exact ⟨i + 1, _, _, by omega, rfl, by first | rfl | go_num, HKW.out, HSZ.out, HR.out.1, HR.out.2.1, HR.out.2.2.1, HR.out.2.2.2, HOV.out, HALL.out⟩
                  · skip
                    go_simp
                    (go_at_call 82; refine (SM.out _).mono ?_; rintro e u15 ⟨v15, rfl, hN15, hu15⟩; obtain ⟨a15, k15, c15, rfl⟩ := natAt_slice hN15)
                    (try go_wp2_with fail)
                    have d015 := Kept.cellSome hu15 d013
                    have dz15 := Kept.cellSome hu15 dz13
                    refine hK15.out _ _ ?_ (fun hHeld => ?_)
                    · (try dsimp only)
                      exact dz15
                    (try simp only [Act.put, List.setIfInBounds_toArray, List.set_cons_zero, List.set_cons_succ])
                    refine wpAnyH_ready (rs := [1, 16]) (by kernel_rfl) (by simp) ?_
                    refine AllReadyH.cons (o := { dst := some 55, op := Go.Op.load 98 (Go.Operand.tmp 54), type := 98, pos := "load.go:35", after := #[{ on := 0, ground := Go.Ground.data }], guard := none }) rfl (fun K1 hK1 => ?_) (AllReadyH.cons (o := { dst := some 70, op := Go.Op.call { callee := Go.Callee.value (Go.Operand.func 81), args := #[Go.Operand.tmp 67, Go.Operand.tmp 69], argTypes := #[130, 130] }, type := 130, pos := "load.go:35", after := #[{ on := 13, ground := Go.Ground.data }, { on := 15, ground := Go.Ground.data }, { on := 15, ground := Go.Ground.chain }], guard := none }) rfl (fun K16 hK16 => ?_) AllReadyH.nil)
                    · skip
                      go_simp
                      skip
                      (try go_wp2_with fail)
                      refine hK1.out _ _ ?_ (fun hHeld => ?_)
                      · (try dsimp only)
                        exact dz15
                      (try simp only [Act.put, List.setIfInBounds_toArray, List.set_cons_zero, List.set_cons_succ])
                      refine wpAnyH_ready (rs := [16]) (by kernel_rfl) (by simp) ?_
                      refine AllReadyH.cons (o := { dst := some 70, op := Go.Op.call { callee := Go.Callee.value (Go.Operand.func 81), args := #[Go.Operand.tmp 67, Go.Operand.tmp 69], argTypes := #[130, 130] }, type := 130, pos := "load.go:35", after := #[{ on := 13, ground := Go.Ground.data }, { on := 15, ground := Go.Ground.data }, { on := 15, ground := Go.Ground.chain }], guard := none }) rfl (fun K16 hK16 => ?_) AllReadyH.nil
                      go_simp
                      (go_at_call 81; refine (times_row _ _ _ _ _ (hN13.kept (by repeat (first | assumption | exact Kept.refl _ | apply Kept.drew | apply Kept.drewN | apply Kept.alloc | refine Kept.trans ?_ (by assumption)))) (hN15.kept (by repeat (first | assumption | exact Kept.refl _ | apply Kept.drew | apply Kept.drewN | apply Kept.alloc | refine Kept.trans ?_ (by assumption)))) HB2.out).mono ?_; rintro e u16 ⟨g16, k16, c16, N16, f16, rfl, hN16, hu16, hR16⟩)
                      (try go_wp2_with fail)
                      have d016 := Kept.cellSome hu16 d015
                      have dz16 := Kept.cellSome hu16 dz15
                      refine hK16.out _ _ ?_ (fun hHeld => ?_)
                      · (try dsimp only)
                        exact dz16
                      (try simp only [Act.put, List.setIfInBounds_toArray, List.set_cons_zero, List.set_cons_succ])
                      refine wpAnyH_ready (rs := [17]) (by kernel_rfl) (by simp) ?_
                      refine AllReadyH.cons (o := { dst := some 71, op := Go.Op.buildSlice 98 1 #[(0, Go.Operand.tmp 70)], type := 98, pos := "load.go:35", after := #[{ on := 16, ground := Go.Ground.data }], guard := none }) rfl (fun K17 hK17 => ?_) AllReadyH.nil
                      go_simp
                      skip
                      (try go_wp2_with fail)
                      have hu17 : Kept u16 (u16.alloc (.cells #[(.slice (some ⟨g16, 0, none⟩) k16 c16)] 130)) := (Kept.refl u16).alloc _
                      have d017 := Kept.cellSome hu17 d016
                      have dz17 := Kept.cellSome hu17 dz16
                      have hKs17 : Kept wr (u16.alloc (.cells #[(.slice (some ⟨g16, 0, none⟩) k16 c16)] 130)) := Kept.trans (show Kept wr u16 from (by repeat (first | assumption | exact Kept.refl _ | apply Kept.drew | apply Kept.drewN | apply Kept.alloc | refine Kept.trans ?_ (by assumption)))) hu17
                      have hO17 := own_keptY hO hKs17 (fun _ _ _ _ _ h => h)
                      have hTy16 : TyNat (u16.alloc (.cells #[(.slice (some ⟨g16, 0, none⟩) k16 c16)] 130)) (.slice (some ⟨g16, 0, none⟩) k16 c16) (partZ T F n i) := TyNat.kept ⟨_, _, _, _, _, rfl, by rw [← HPZ.out]; exact hN16, hR16⟩ hu17
                      have hB17 : W2.heap.size ≤ (u16.alloc (.cells #[(.slice (some ⟨g16, 0, none⟩) k16 c16)] 130)).heap.size := Nat.le_trans hsz hKs17.size
                      refine hK17.out _ _ ?_ (fun hHeld => ?_)
                      · (try dsimp only)
                        exact dz17
                      (try simp only [Act.put, List.setIfInBounds_toArray, List.set_cons_zero, List.set_cons_succ])
                      refine wpAnyH_ready (rs := [18]) (by kernel_rfl) (by simp) ?_
                      refine AllReadyH.cons (o := { dst := some 72, op := Go.Op.call { callee := Go.Callee.builtin Go.Builtin.append, args := #[Go.Operand.tmp 55, Go.Operand.tmp 71], argTypes := #[98, 98] }, type := 98, pos := "load.go:35", after := #[{ on := 1, ground := Go.Ground.data }, { on := 17, ground := Go.Ground.data }, { on := 16, ground := Go.Ground.chain }], guard := none }) rfl (fun K18 hK18 => ?_) AllReadyH.nil
                      rw [if_pos (by rfl)]
                      refine wp_append_own _ _ _ 98 rfl W2.heap.size 130 i0 (.slice none 0 0) 1 24 Tryz.underlying98 hi0 hz0 hz1 hz2 rfl (by decide) _ _ _ (by rfl) hO17 ⟨u16.heap.size, 0, none⟩ 1 1 [(.slice (some ⟨g16, 0, none⟩) k16 c16)] (by rfl) rfl (cell_one_new _ _ _) ?c2 ?c3 ?c4 ?c5 ?_
                      case c2 => simp [Value.oneCell']
                      case c3 => unfold maxLen; omega
                      case c4 => omega
                      case c5 => exact hB17
                      intro v18 w18 hO18 hgr18 _
                      have hXg : KeptX (fun k => (Value.slice sa i cap).ownBlock = some k) (u16.alloc (.cells #[(.slice (some ⟨g16, 0, none⟩) k16 c16)] 130)) w18 := KeptX.grown (KeptX.refl _ _) hgr18 (fun k hk => Or.inl hk)
                      have hb18 := hXg.row (hKs17.row hb) (own_below hO17 hz6B)
                      have hr18 := hXg.row (hKs17.row hr) (own_below hO17 hr4B)
                      have hf18 := hXg.row (hKs17.row hRf) (own_below hO17 hgfB)
                      have ht18 := hXg.row (hKs17.row hRt) (own_below hO17 hgtB)
                      have hKw18 : Kept w w18 := (hK.trans hKs17).grown hgr18 (fun k hk => Nat.le_trans hW2w ((hO17.lt k hk).1))
                      have hnu : ∀ b c f, (u16.alloc (.cells #[(.slice (some ⟨g16, 0, none⟩) k16 c16)] 130)).heap[b]? = some (.cells c 69 f) → ¬ (Value.slice sa i cap).ownBlock = some b := fun b c f h => own_not hO17 (by decide) h
                      have hTy18 : ∀ t, t < i → TyNat w18 (P t) (partZ T F n t) := fun t ht => ((hTy t ht).kept hKs17).keptX hXg hnu
                      have hTn18 := hTy16.keptX hXg hnu
                      have hsz18 : W2.heap.size ≤ w18.heap.size := Nat.le_trans hB17 hXg.size
                      obtain ⟨va18, vc18, rfl⟩ := own_shape hO18
                      obtain ⟨x0, x1, x2, x3⟩ := bx2_cells hb18
                      refine hK18.out _ _ ?_ (fun hHeld => ?_)
                      · (try dsimp only)
                        exact x1
                      (try simp only [Act.put, List.setIfInBounds_toArray, List.set_cons_zero, List.set_cons_succ])
                      refine wpAnyH_take (i := 19) (oi := { dst := some 73, op := Go.Op.fieldAddr 101 (Go.Operand.tmp 6) 0, type := 0, pos := "load.go:35", after := #[{ on := 0, ground := Go.Ground.phase }, { on := 1, ground := Go.Ground.phase }, { on := 2, ground := Go.Ground.phase }, { on := 3, ground := Go.Ground.phase }, { on := 4, ground := Go.Ground.phase }, { on := 5, ground := Go.Ground.phase }, { on := 6, ground := Go.Ground.phase }, { on := 7, ground := Go.Ground.phase }, { on := 8, ground := Go.Ground.phase }, { on := 9, ground := Go.Ground.phase }, { on := 10, ground := Go.Ground.phase }, { on := 11, ground := Go.Ground.phase }, { on := 12, ground := Go.Ground.phase }, { on := 13, ground := Go.Ground.phase }, { on := 14, ground := Go.Ground.phase }, { on := 15, ground := Go.Ground.phase }, { on := 16, ground := Go.Ground.phase }, { on := 17, ground := Go.Ground.phase }, { on := 18, ground := Go.Ground.phase }], guard := none }) (v := ?v29) rfl (by kernel_rfl) (by kernel_rfl) (by kernel_rfl) (fun _ _ _ h => h) (Or.inl ⟨by rfl, ?hy29⟩) (by assumption) ?rs29
                      case hy29 =>
                        intro w hSw
                        (try dsimp only at hSw)
                        go_simp
                        try with_reducible rfl
                      (try simp only [Act.put, List.setIfInBounds_toArray, List.set_cons_zero, List.set_cons_succ])
                      refine wpAnyH_ready (rs := [20]) (by kernel_rfl) (by simp) ?_
                      refine AllReadyH.cons (o := { dst := none, op := Go.Op.store 98 (Go.Operand.tmp 73) (Go.Operand.tmp 72), type := 0, pos := "load.go:35", after := #[{ on := 19, ground := Go.Ground.data }, { on := 18, ground := Go.Ground.data }, { on := 18, ground := Go.Ground.chain }, { on := 0, ground := Go.Ground.phase }, { on := 1, ground := Go.Ground.phase }, { on := 2, ground := Go.Ground.phase }, { on := 3, ground := Go.Ground.phase }, { on := 4, ground := Go.Ground.phase }, { on := 5, ground := Go.Ground.phase }, { on := 6, ground := Go.Ground.phase }, { on := 7, ground := Go.Ground.phase }, { on := 8, ground := Go.Ground.phase }, { on := 9, ground := Go.Ground.phase }, { on := 10, ground := Go.Ground.phase }, { on := 11, ground := Go.Ground.phase }, { on := 12, ground := Go.Ground.phase }, { on := 13, ground := Go.Ground.phase }, { on := 14, ground := Go.Ground.phase }, { on := 15, ground := Go.Ground.phase }, { on := 16, ground := Go.Ground.phase }, { on := 17, ground := Go.Ground.phase }, { on := 18, ground := Go.Ground.phase }], guard := none }) rfl (fun K20 hK20 => ?_) AllReadyH.nil
                      go_simp
                      skip
                      (try go_wp2_with fail)
                      have hX20 : KeptX (fun k => k = z6) w18 (w18.setCell ⟨z6, 0, none⟩ (.slice va18 (i + 1) vc18)) := (KeptX.refl (fun k => k = z6) w18).setIn 0 _
                      have hb20 := bx2_set0 hb18 (.slice va18 (i + 1) vc18)
                      have hr20 := hr18.setOther (a := ⟨z6, 0, none⟩) nrz (.slice va18 (i + 1) vc18)
                      have hf20 := hf18.setOther (a := ⟨z6, 0, none⟩) (Ne.symm nzf) (.slice va18 (i + 1) vc18)
                      have ht20 := ht18.setOther (a := ⟨z6, 0, none⟩) (Ne.symm nzt) (.slice va18 (i + 1) vc18)
                      have hO20 := own_keptY hO18 hX20 (fun b c f _ hb h => by omega)
                      have hz6t : ∀ b c f, w18.heap[b]? = some (.cells c 69 f) → ¬ b = z6 := fun b c f h e => by
                        subst e
                        obtain ⟨cur, hh, _⟩ := id hb18
                        rw [h] at hh
                        injection hh with hh
                        injection hh with _ hh
                        exact absurd hh (by decide)
                      have hTy20 : ∀ t, t < i → TyNat (w18.setCell ⟨z6, 0, none⟩ (.slice va18 (i + 1) vc18)) (P t) (partZ T F n t) := fun t ht => (hTy18 t ht).keptX hX20 hz6t
                      have hTn20 := hTn18.keptX hX20 hz6t
                      have hKw20 := hKw18.setCell (p := ⟨z6, 0, none⟩) hz6w (.slice va18 (i + 1) vc18)
                      have hsz20 : W2.heap.size ≤ (w18.setCell ⟨z6, 0, none⟩ (.slice va18 (i + 1) vc18)).heap.size := by rw [World.size_setCell]; exact hsz18
                      refine hK20.out _ _ ?_ (fun hHeld => ?_)
                      · (try dsimp only)
                        exact (bx2_cells hb20).2.1
                      (try simp only [Act.put, List.setIfInBounds_toArray, List.set_cons_zero, List.set_cons_succ])
                      refine wpAnyH_done (by kernel_rfl) ?_ _
                      have HALL : Hid (∀ t, t < i + 1 → TyNat (w18.setCell ⟨z6, 0, none⟩ (.slice va18 (i + 1) vc18)) (updV P i (.slice (some ⟨g16, 0, none⟩) k16 c16) t) (partZ T F n t)) := fun t ht => by
                        unfold updV
                        by_cases e : t = i
                        · rw [if_pos e, e]; exact hTn20
                        · rw [if_neg e]; exact hTy20 t (by omega)
                      have HOV : Hid ((w18.setCell ⟨z6, 0, none⟩ (.slice va18 (i + 1) vc18)).ownsRow W2.heap.size 130 1 (.slice va18 (i + 1) vc18) (i + 1) (vals (updV P i (.slice (some ⟨g16, 0, none⟩) k16 c16)) (i + 1))) := by
                        show World.ownsRow _ _ _ _ _ _ _
                        rw [vals_succ]
                        exact hO20
                      have HKW := Lib.hid hKw20
                      have HSZ := Lib.hid hsz20
                      have HR := Lib.hid (And.intro hr20 (And.intro hb20 (And.intro hf20 ht20)))
                      generalize (w18.setCell ⟨z6, 0, none⟩ (.slice va18 (i + 1) vc18)) = WN at *
                      clear hX20 hb20 hr20 hf20 ht20 hO20 hTy20 hTn20 hKw20 hsz20 hz6t hXg hb18 hr18 hf18 ht18 hKw18 hnu hTy18 hTn18 hsz18 x0 x1 x2 x3 hO18 hgr18 hO17 hTy16 hB17 hKs17 hu17 d017 dz17 hHeld hN6 hN12 hN13 hN15 hN16 hR16 hu6 hu12 hu13 hu15 hu16 d06 dz6 d012 dz12 d013 dz13 d015 dz15 d016 dz16
                      go_wp2_with fail
                      go_roundg (n - (i + 1))
                      case measure => omega
                      case rel => exact ⟨i + 1, _, _, by omega, rfl, by first | rfl | go_num, HKW.out, HSZ.out, HR.out.1, HR.out.2.1, HR.out.2.2.1, HR.out.2.2.2, HOV.out, HALL.out⟩
                    · skip
                      go_simp
                      (go_at_call 81; refine (times_row _ _ _ _ _ (hN13.kept (by repeat (first | assumption | exact Kept.refl _ | apply Kept.drew | apply Kept.drewN | apply Kept.alloc | refine Kept.trans ?_ (by assumption)))) (hN15.kept (by repeat (first | assumption | exact Kept.refl _ | apply Kept.drew | apply Kept.drewN | apply Kept.alloc | refine Kept.trans ?_ (by assumption)))) HB2.out).mono ?_; rintro e u16 ⟨g16, k16, c16, N16, f16, rfl, hN16, hu16, hR16⟩)
                      (try go_wp2_with fail)
                      have d016 := Kept.cellSome hu16 d015
                      have dz16 := Kept.cellSome hu16 dz15
                      refine hK16.out _ _ ?_ (fun hHeld => ?_)
                      · (try dsimp only)
                        exact dz16
                      (try simp only [Act.put, List.setIfInBounds_toArray, List.set_cons_zero, List.set_cons_succ])
                      refine wpAnyH_ready (rs := [1, 17]) (by kernel_rfl) (by simp) ?_
                      refine AllReadyH.cons (o := { dst := some 55, op := Go.Op.load 98 (Go.Operand.tmp 54), type := 98, pos := "load.go:35", after := #[{ on := 0, ground := Go.Ground.data }], guard := none }) rfl (fun K1 hK1 => ?_) (AllReadyH.cons (o := { dst := some 71, op := Go.Op.buildSlice 98 1 #[(0, Go.Operand.tmp 70)], type := 98, pos := "load.go:35", after := #[{ on := 16, ground := Go.Ground.data }], guard := none }) rfl (fun K17 hK17 => ?_) AllReadyH.nil)
                      · skip
                        go_simp
                        skip
                        (try go_wp2_with fail)
                        refine hK1.out _ _ ?_ (fun hHeld => ?_)
                        · (try dsimp only)
                          exact dz16
                        (try simp only [Act.put, List.setIfInBounds_toArray, List.set_cons_zero, List.set_cons_succ])
                        refine wpAnyH_ready (rs := [17]) (by kernel_rfl) (by simp) ?_
                        refine AllReadyH.cons (o := { dst := some 71, op := Go.Op.buildSlice 98 1 #[(0, Go.Operand.tmp 70)], type := 98, pos := "load.go:35", after := #[{ on := 16, ground := Go.Ground.data }], guard := none }) rfl (fun K17 hK17 => ?_) AllReadyH.nil
                        go_simp
                        skip
                        (try go_wp2_with fail)
                        have hu17 : Kept u16 (u16.alloc (.cells #[(.slice (some ⟨g16, 0, none⟩) k16 c16)] 130)) := (Kept.refl u16).alloc _
                        have d017 := Kept.cellSome hu17 d016
                        have dz17 := Kept.cellSome hu17 dz16
                        have hKs17 : Kept wr (u16.alloc (.cells #[(.slice (some ⟨g16, 0, none⟩) k16 c16)] 130)) := Kept.trans (show Kept wr u16 from (by repeat (first | assumption | exact Kept.refl _ | apply Kept.drew | apply Kept.drewN | apply Kept.alloc | refine Kept.trans ?_ (by assumption)))) hu17
                        have hO17 := own_keptY hO hKs17 (fun _ _ _ _ _ h => h)
                        have hTy16 : TyNat (u16.alloc (.cells #[(.slice (some ⟨g16, 0, none⟩) k16 c16)] 130)) (.slice (some ⟨g16, 0, none⟩) k16 c16) (partZ T F n i) := TyNat.kept ⟨_, _, _, _, _, rfl, by rw [← HPZ.out]; exact hN16, hR16⟩ hu17
                        have hB17 : W2.heap.size ≤ (u16.alloc (.cells #[(.slice (some ⟨g16, 0, none⟩) k16 c16)] 130)).heap.size := Nat.le_trans hsz hKs17.size
                        refine hK17.out _ _ ?_ (fun hHeld => ?_)
                        · (try dsimp only)
                          exact dz17
                        (try simp only [Act.put, List.setIfInBounds_toArray, List.set_cons_zero, List.set_cons_succ])
                        refine wpAnyH_ready (rs := [18]) (by kernel_rfl) (by simp) ?_
                        refine AllReadyH.cons (o := { dst := some 72, op := Go.Op.call { callee := Go.Callee.builtin Go.Builtin.append, args := #[Go.Operand.tmp 55, Go.Operand.tmp 71], argTypes := #[98, 98] }, type := 98, pos := "load.go:35", after := #[{ on := 1, ground := Go.Ground.data }, { on := 17, ground := Go.Ground.data }, { on := 16, ground := Go.Ground.chain }], guard := none }) rfl (fun K18 hK18 => ?_) AllReadyH.nil
                        rw [if_pos (by rfl)]
                        refine wp_append_own _ _ _ 98 rfl W2.heap.size 130 i0 (.slice none 0 0) 1 24 Tryz.underlying98 hi0 hz0 hz1 hz2 rfl (by decide) _ _ _ (by rfl) hO17 ⟨u16.heap.size, 0, none⟩ 1 1 [(.slice (some ⟨g16, 0, none⟩) k16 c16)] (by rfl) rfl (cell_one_new _ _ _) ?c2 ?c3 ?c4 ?c5 ?_
                        case c2 => simp [Value.oneCell']
                        case c3 => unfold maxLen; omega
                        case c4 => omega
                        case c5 => exact hB17
                        intro v18 w18 hO18 hgr18 _
                        have hXg : KeptX (fun k => (Value.slice sa i cap).ownBlock = some k) (u16.alloc (.cells #[(.slice (some ⟨g16, 0, none⟩) k16 c16)] 130)) w18 := KeptX.grown (KeptX.refl _ _) hgr18 (fun k hk => Or.inl hk)
                        have hb18 := hXg.row (hKs17.row hb) (own_below hO17 hz6B)
                        have hr18 := hXg.row (hKs17.row hr) (own_below hO17 hr4B)
                        have hf18 := hXg.row (hKs17.row hRf) (own_below hO17 hgfB)
                        have ht18 := hXg.row (hKs17.row hRt) (own_below hO17 hgtB)
                        have hKw18 : Kept w w18 := (hK.trans hKs17).grown hgr18 (fun k hk => Nat.le_trans hW2w ((hO17.lt k hk).1))
                        have hnu : ∀ b c f, (u16.alloc (.cells #[(.slice (some ⟨g16, 0, none⟩) k16 c16)] 130)).heap[b]? = some (.cells c 69 f) → ¬ (Value.slice sa i cap).ownBlock = some b := fun b c f h => own_not hO17 (by decide) h
                        have hTy18 : ∀ t, t < i → TyNat w18 (P t) (partZ T F n t) := fun t ht => ((hTy t ht).kept hKs17).keptX hXg hnu
                        have hTn18 := hTy16.keptX hXg hnu
                        have hsz18 : W2.heap.size ≤ w18.heap.size := Nat.le_trans hB17 hXg.size
                        obtain ⟨va18, vc18, rfl⟩ := own_shape hO18
                        obtain ⟨x0, x1, x2, x3⟩ := bx2_cells hb18
                        refine hK18.out _ _ ?_ (fun hHeld => ?_)
                        · (try dsimp only)
                          exact x1
                        (try simp only [Act.put, List.setIfInBounds_toArray, List.set_cons_zero, List.set_cons_succ])
                        refine wpAnyH_take (i := 19) (oi := { dst := some 73, op := Go.Op.fieldAddr 101 (Go.Operand.tmp 6) 0, type := 0, pos := "load.go:35", after := #[{ on := 0, ground := Go.Ground.phase }, { on := 1, ground := Go.Ground.phase }, { on := 2, ground := Go.Ground.phase }, { on := 3, ground := Go.Ground.phase }, { on := 4, ground := Go.Ground.phase }, { on := 5, ground := Go.Ground.phase }, { on := 6, ground := Go.Ground.phase }, { on := 7, ground := Go.Ground.phase }, { on := 8, ground := Go.Ground.phase }, { on := 9, ground := Go.Ground.phase }, { on := 10, ground := Go.Ground.phase }, { on := 11, ground := Go.Ground.phase }, { on := 12, ground := Go.Ground.phase }, { on := 13, ground := Go.Ground.phase }, { on := 14, ground := Go.Ground.phase }, { on := 15, ground := Go.Ground.phase }, { on := 16, ground := Go.Ground.phase }, { on := 17, ground := Go.Ground.phase }, { on := 18, ground := Go.Ground.phase }], guard := none }) (v := ?v30) rfl (by kernel_rfl) (by kernel_rfl) (by kernel_rfl) (fun _ _ _ h => h) (Or.inl ⟨by rfl, ?hy30⟩) (by assumption) ?rs30
                        case hy30 =>
                          intro w hSw
                          (try dsimp only at hSw)
                          go_simp
                          try with_reducible rfl
                        (try simp only [Act.put, List.setIfInBounds_toArray, List.set_cons_zero, List.set_cons_succ])
                        refine wpAnyH_ready (rs := [20]) (by kernel_rfl) (by simp) ?_
                        refine AllReadyH.cons (o := { dst := none, op := Go.Op.store 98 (Go.Operand.tmp 73) (Go.Operand.tmp 72), type := 0, pos := "load.go:35", after := #[{ on := 19, ground := Go.Ground.data }, { on := 18, ground := Go.Ground.data }, { on := 18, ground := Go.Ground.chain }, { on := 0, ground := Go.Ground.phase }, { on := 1, ground := Go.Ground.phase }, { on := 2, ground := Go.Ground.phase }, { on := 3, ground := Go.Ground.phase }, { on := 4, ground := Go.Ground.phase }, { on := 5, ground := Go.Ground.phase }, { on := 6, ground := Go.Ground.phase }, { on := 7, ground := Go.Ground.phase }, { on := 8, ground := Go.Ground.phase }, { on := 9, ground := Go.Ground.phase }, { on := 10, ground := Go.Ground.phase }, { on := 11, ground := Go.Ground.phase }, { on := 12, ground := Go.Ground.phase }, { on := 13, ground := Go.Ground.phase }, { on := 14, ground := Go.Ground.phase }, { on := 15, ground := Go.Ground.phase }, { on := 16, ground := Go.Ground.phase }, { on := 17, ground := Go.Ground.phase }, { on := 18, ground := Go.Ground.phase }], guard := none }) rfl (fun K20 hK20 => ?_) AllReadyH.nil
                        go_simp
                        skip
                        (try go_wp2_with fail)
                        have hX20 : KeptX (fun k => k = z6) w18 (w18.setCell ⟨z6, 0, none⟩ (.slice va18 (i + 1) vc18)) := (KeptX.refl (fun k => k = z6) w18).setIn 0 _
                        have hb20 := bx2_set0 hb18 (.slice va18 (i + 1) vc18)
                        have hr20 := hr18.setOther (a := ⟨z6, 0, none⟩) nrz (.slice va18 (i + 1) vc18)
                        have hf20 := hf18.setOther (a := ⟨z6, 0, none⟩) (Ne.symm nzf) (.slice va18 (i + 1) vc18)
                        have ht20 := ht18.setOther (a := ⟨z6, 0, none⟩) (Ne.symm nzt) (.slice va18 (i + 1) vc18)
                        have hO20 := own_keptY hO18 hX20 (fun b c f _ hb h => by omega)
                        have hz6t : ∀ b c f, w18.heap[b]? = some (.cells c 69 f) → ¬ b = z6 := fun b c f h e => by
                          subst e
                          obtain ⟨cur, hh, _⟩ := id hb18
                          rw [h] at hh
                          injection hh with hh
                          injection hh with _ hh
                          exact absurd hh (by decide)
                        have hTy20 : ∀ t, t < i → TyNat (w18.setCell ⟨z6, 0, none⟩ (.slice va18 (i + 1) vc18)) (P t) (partZ T F n t) := fun t ht => (hTy18 t ht).keptX hX20 hz6t
                        have hTn20 := hTn18.keptX hX20 hz6t
                        have hKw20 := hKw18.setCell (p := ⟨z6, 0, none⟩) hz6w (.slice va18 (i + 1) vc18)
                        have hsz20 : W2.heap.size ≤ (w18.setCell ⟨z6, 0, none⟩ (.slice va18 (i + 1) vc18)).heap.size := by rw [World.size_setCell]; exact hsz18
                        refine hK20.out _ _ ?_ (fun hHeld => ?_)
                        · (try dsimp only)
                          exact (bx2_cells hb20).2.1
                        (try simp only [Act.put, List.setIfInBounds_toArray, List.set_cons_zero, List.set_cons_succ])
                        refine wpAnyH_done (by kernel_rfl) ?_ _
                        have HALL : Hid (∀ t, t < i + 1 → TyNat (w18.setCell ⟨z6, 0, none⟩ (.slice va18 (i + 1) vc18)) (updV P i (.slice (some ⟨g16, 0, none⟩) k16 c16) t) (partZ T F n t)) := fun t ht => by
                          unfold updV
                          by_cases e : t = i
                          · rw [if_pos e, e]; exact hTn20
                          · rw [if_neg e]; exact hTy20 t (by omega)
                        have HOV : Hid ((w18.setCell ⟨z6, 0, none⟩ (.slice va18 (i + 1) vc18)).ownsRow W2.heap.size 130 1 (.slice va18 (i + 1) vc18) (i + 1) (vals (updV P i (.slice (some ⟨g16, 0, none⟩) k16 c16)) (i + 1))) := by
                          show World.ownsRow _ _ _ _ _ _ _
                          rw [vals_succ]
                          exact hO20
                        have HKW := Lib.hid hKw20
                        have HSZ := Lib.hid hsz20
                        have HR := Lib.hid (And.intro hr20 (And.intro hb20 (And.intro hf20 ht20)))
                        generalize (w18.setCell ⟨z6, 0, none⟩ (.slice va18 (i + 1) vc18)) = WN at *
                        clear hX20 hb20 hr20 hf20 ht20 hO20 hTy20 hTn20 hKw20 hsz20 hz6t hXg hb18 hr18 hf18 ht18 hKw18 hnu hTy18 hTn18 hsz18 x0 x1 x2 x3 hO18 hgr18 hO17 hTy16 hB17 hKs17 hu17 d017 dz17 hHeld hN6 hN12 hN13 hN15 hN16 hR16 hu6 hu12 hu13 hu15 hu16 d06 dz6 d012 dz12 d013 dz13 d015 dz15 d016 dz16
                        go_wp2_with fail
                        go_roundg (n - (i + 1))
                        case measure => omega
                        case rel => exact ⟨i + 1, _, _, by omega, rfl, by first | rfl | go_num, HKW.out, HSZ.out, HR.out.1, HR.out.2.1, HR.out.2.2.1, HR.out.2.2.2, HOV.out, HALL.out⟩
                      · skip
                        go_simp
                        skip
                        (try go_wp2_with fail)
                        have hu17 : Kept u16 (u16.alloc (.cells #[(.slice (some ⟨g16, 0, none⟩) k16 c16)] 130)) := (Kept.refl u16).alloc _
                        have d017 := Kept.cellSome hu17 d016
                        have dz17 := Kept.cellSome hu17 dz16
                        have hKs17 : Kept wr (u16.alloc (.cells #[(.slice (some ⟨g16, 0, none⟩) k16 c16)] 130)) := Kept.trans (show Kept wr u16 from (by repeat (first | assumption | exact Kept.refl _ | apply Kept.drew | apply Kept.drewN | apply Kept.alloc | refine Kept.trans ?_ (by assumption)))) hu17
                        have hO17 := own_keptY hO hKs17 (fun _ _ _ _ _ h => h)
                        have hTy16 : TyNat (u16.alloc (.cells #[(.slice (some ⟨g16, 0, none⟩) k16 c16)] 130)) (.slice (some ⟨g16, 0, none⟩) k16 c16) (partZ T F n i) := TyNat.kept ⟨_, _, _, _, _, rfl, by rw [← HPZ.out]; exact hN16, hR16⟩ hu17
                        have hB17 : W2.heap.size ≤ (u16.alloc (.cells #[(.slice (some ⟨g16, 0, none⟩) k16 c16)] 130)).heap.size := Nat.le_trans hsz hKs17.size
                        refine hK17.out _ _ ?_ (fun hHeld => ?_)
                        · (try dsimp only)
                          exact dz17
                        (try simp only [Act.put, List.setIfInBounds_toArray, List.set_cons_zero, List.set_cons_succ])
                        refine wpAnyH_ready (rs := [1]) (by kernel_rfl) (by simp) ?_
                        refine AllReadyH.cons (o := { dst := some 55, op := Go.Op.load 98 (Go.Operand.tmp 54), type := 98, pos := "load.go:35", after := #[{ on := 0, ground := Go.Ground.data }], guard := none }) rfl (fun K1 hK1 => ?_) AllReadyH.nil
                        go_simp
                        skip
                        (try go_wp2_with fail)
                        refine hK1.out _ _ ?_ (fun hHeld => ?_)
                        · (try dsimp only)
                          exact dz17
                        (try simp only [Act.put, List.setIfInBounds_toArray, List.set_cons_zero, List.set_cons_succ])
                        refine wpAnyH_ready (rs := [18]) (by kernel_rfl) (by simp) ?_
                        refine AllReadyH.cons (o := { dst := some 72, op := Go.Op.call { callee := Go.Callee.builtin Go.Builtin.append, args := #[Go.Operand.tmp 55, Go.Operand.tmp 71], argTypes := #[98, 98] }, type := 98, pos := "load.go:35", after := #[{ on := 1, ground := Go.Ground.data }, { on := 17, ground := Go.Ground.data }, { on := 16, ground := Go.Ground.chain }], guard := none }) rfl (fun K18 hK18 => ?_) AllReadyH.nil
                        rw [if_pos (by rfl)]
                        refine wp_append_own _ _ _ 98 rfl W2.heap.size 130 i0 (.slice none 0 0) 1 24 Tryz.underlying98 hi0 hz0 hz1 hz2 rfl (by decide) _ _ _ (by rfl) hO17 ⟨u16.heap.size, 0, none⟩ 1 1 [(.slice (some ⟨g16, 0, none⟩) k16 c16)] (by rfl) rfl (cell_one_new _ _ _) ?c2 ?c3 ?c4 ?c5 ?_
                        case c2 => simp [Value.oneCell']
                        case c3 => unfold maxLen; omega
                        case c4 => omega
                        case c5 => exact hB17
                        intro v18 w18 hO18 hgr18 _
                        have hXg : KeptX (fun k => (Value.slice sa i cap).ownBlock = some k) (u16.alloc (.cells #[(.slice (some ⟨g16, 0, none⟩) k16 c16)] 130)) w18 := KeptX.grown (KeptX.refl _ _) hgr18 (fun k hk => Or.inl hk)
                        have hb18 := hXg.row (hKs17.row hb) (own_below hO17 hz6B)
                        have hr18 := hXg.row (hKs17.row hr) (own_below hO17 hr4B)
                        have hf18 := hXg.row (hKs17.row hRf) (own_below hO17 hgfB)
                        have ht18 := hXg.row (hKs17.row hRt) (own_below hO17 hgtB)
                        have hKw18 : Kept w w18 := (hK.trans hKs17).grown hgr18 (fun k hk => Nat.le_trans hW2w ((hO17.lt k hk).1))
                        have hnu : ∀ b c f, (u16.alloc (.cells #[(.slice (some ⟨g16, 0, none⟩) k16 c16)] 130)).heap[b]? = some (.cells c 69 f) → ¬ (Value.slice sa i cap).ownBlock = some b := fun b c f h => own_not hO17 (by decide) h
                        have hTy18 : ∀ t, t < i → TyNat w18 (P t) (partZ T F n t) := fun t ht => ((hTy t ht).kept hKs17).keptX hXg hnu
                        have hTn18 := hTy16.keptX hXg hnu
                        have hsz18 : W2.heap.size ≤ w18.heap.size := Nat.le_trans hB17 hXg.size
                        obtain ⟨va18, vc18, rfl⟩ := own_shape hO18
                        obtain ⟨x0, x1, x2, x3⟩ := bx2_cells hb18
                        refine hK18.out _ _ ?_ (fun hHeld => ?_)
                        · (try dsimp only)
                          exact x1
                        (try simp only [Act.put, List.setIfInBounds_toArray, List.set_cons_zero, List.set_cons_succ])
                        refine wpAnyH_take (i := 19) (oi := { dst := some 73, op := Go.Op.fieldAddr 101 (Go.Operand.tmp 6) 0, type := 0, pos := "load.go:35", after := #[{ on := 0, ground := Go.Ground.phase }, { on := 1, ground := Go.Ground.phase }, { on := 2, ground := Go.Ground.phase }, { on := 3, ground := Go.Ground.phase }, { on := 4, ground := Go.Ground.phase }, { on := 5, ground := Go.Ground.phase }, { on := 6, ground := Go.Ground.phase }, { on := 7, ground := Go.Ground.phase }, { on := 8, ground := Go.Ground.phase }, { on := 9, ground := Go.Ground.phase }, { on := 10, ground := Go.Ground.phase }, { on := 11, ground := Go.Ground.phase }, { on := 12, ground := Go.Ground.phase }, { on := 13, ground := Go.Ground.phase }, { on := 14, ground := Go.Ground.phase }, { on := 15, ground := Go.Ground.phase }, { on := 16, ground := Go.Ground.phase }, { on := 17, ground := Go.Ground.phase }, { on := 18, ground := Go.Ground.phase }], guard := none }) (v := ?v31) rfl (by kernel_rfl) (by kernel_rfl) (by kernel_rfl) (fun _ _ _ h => h) (Or.inl ⟨by rfl, ?hy31⟩) (by assumption) ?rs31
                        case hy31 =>
                          intro w hSw
                          (try dsimp only at hSw)
                          go_simp
                          try with_reducible rfl
                        (try simp only [Act.put, List.setIfInBounds_toArray, List.set_cons_zero, List.set_cons_succ])
                        refine wpAnyH_ready (rs := [20]) (by kernel_rfl) (by simp) ?_
                        refine AllReadyH.cons (o := { dst := none, op := Go.Op.store 98 (Go.Operand.tmp 73) (Go.Operand.tmp 72), type := 0, pos := "load.go:35", after := #[{ on := 19, ground := Go.Ground.data }, { on := 18, ground := Go.Ground.data }, { on := 18, ground := Go.Ground.chain }, { on := 0, ground := Go.Ground.phase }, { on := 1, ground := Go.Ground.phase }, { on := 2, ground := Go.Ground.phase }, { on := 3, ground := Go.Ground.phase }, { on := 4, ground := Go.Ground.phase }, { on := 5, ground := Go.Ground.phase }, { on := 6, ground := Go.Ground.phase }, { on := 7, ground := Go.Ground.phase }, { on := 8, ground := Go.Ground.phase }, { on := 9, ground := Go.Ground.phase }, { on := 10, ground := Go.Ground.phase }, { on := 11, ground := Go.Ground.phase }, { on := 12, ground := Go.Ground.phase }, { on := 13, ground := Go.Ground.phase }, { on := 14, ground := Go.Ground.phase }, { on := 15, ground := Go.Ground.phase }, { on := 16, ground := Go.Ground.phase }, { on := 17, ground := Go.Ground.phase }, { on := 18, ground := Go.Ground.phase }], guard := none }) rfl (fun K20 hK20 => ?_) AllReadyH.nil
                        go_simp
                        skip
                        (try go_wp2_with fail)
                        have hX20 : KeptX (fun k => k = z6) w18 (w18.setCell ⟨z6, 0, none⟩ (.slice va18 (i + 1) vc18)) := (KeptX.refl (fun k => k = z6) w18).setIn 0 _
                        have hb20 := bx2_set0 hb18 (.slice va18 (i + 1) vc18)
                        have hr20 := hr18.setOther (a := ⟨z6, 0, none⟩) nrz (.slice va18 (i + 1) vc18)
                        have hf20 := hf18.setOther (a := ⟨z6, 0, none⟩) (Ne.symm nzf) (.slice va18 (i + 1) vc18)
                        have ht20 := ht18.setOther (a := ⟨z6, 0, none⟩) (Ne.symm nzt) (.slice va18 (i + 1) vc18)
                        have hO20 := own_keptY hO18 hX20 (fun b c f _ hb h => by omega)
                        have hz6t : ∀ b c f, w18.heap[b]? = some (.cells c 69 f) → ¬ b = z6 := fun b c f h e => by
                          subst e
                          obtain ⟨cur, hh, _⟩ := id hb18
                          rw [h] at hh
                          injection hh with hh
                          injection hh with _ hh
                          exact absurd hh (by decide)
                        have hTy20 : ∀ t, t < i → TyNat (w18.setCell ⟨z6, 0, none⟩ (.slice va18 (i + 1) vc18)) (P t) (partZ T F n t) := fun t ht => (hTy18 t ht).keptX hX20 hz6t
                        have hTn20 := hTn18.keptX hX20 hz6t
                        have hKw20 := hKw18.setCell (p := ⟨z6, 0, none⟩) hz6w (.slice va18 (i + 1) vc18)
                        have hsz20 : W2.heap.size ≤ (w18.setCell ⟨z6, 0, none⟩ (.slice va18 (i + 1) vc18)).heap.size := by rw [World.size_setCell]; exact hsz18
                        refine hK20.out _ _ ?_ (fun hHeld => ?_)
                        · (try dsimp only)
                          exact (bx2_cells hb20).2.1
                        (try simp only [Act.put, List.setIfInBounds_toArray, List.set_cons_zero, List.set_cons_succ])
                        refine wpAnyH_done (by kernel_rfl) ?_ _
                        have HALL : Hid (∀ t, t < i + 1 → TyNat (w18.setCell ⟨z6, 0, none⟩ (.slice va18 (i + 1) vc18)) (updV P i (.slice (some ⟨g16, 0, none⟩) k16 c16) t) (partZ T F n t)) := fun t ht => by
                          unfold updV
                          by_cases e : t = i
                          · rw [if_pos e, e]; exact hTn20
                          · rw [if_neg e]; exact hTy20 t (by omega)
                        have HOV : Hid ((w18.setCell ⟨z6, 0, none⟩ (.slice va18 (i + 1) vc18)).ownsRow W2.heap.size 130 1 (.slice va18 (i + 1) vc18) (i + 1) (vals (updV P i (.slice (some ⟨g16, 0, none⟩) k16 c16)) (i + 1))) := by
                          show World.ownsRow _ _ _ _ _ _ _
                          rw [vals_succ]
                          exact hO20
                        have HKW := Lib.hid hKw20
                        have HSZ := Lib.hid hsz20
                        have HR := Lib.hid (And.intro hr20 (And.intro hb20 (And.intro hf20 ht20)))
                        generalize (w18.setCell ⟨z6, 0, none⟩ (.slice va18 (i + 1) vc18)) = WN at *
                        clear hX20 hb20 hr20 hf20 ht20 hO20 hTy20 hTn20 hKw20 hsz20 hz6t hXg hb18 hr18 hf18 ht18 hKw18 hnu hTy18 hTn18 hsz18 x0 x1 x2 x3 hO18 hgr18 hO17 hTy16 hB17 hKs17 hu17 d017 dz17 hHeld hN6 hN12 hN13 hN15 hN16 hR16 hu6 hu12 hu13 hu15 hu16 d06 dz6 d012 dz12 d013 dz13 d015 dz15 d016 dz16
                        go_wp2_with fail
                        go_roundg (n - (i + 1))
                        case measure => omega
                        case rel => exact ⟨i + 1, _, _, by omega, rfl, by first | rfl | go_num, HKW.out, HSZ.out, HR.out.1, HR.out.2.1, HR.out.2.2.1, HR.out.2.2.2, HOV.out, HALL.out⟩
          · skip
            go_wp2_with fail
            refine wp_region_held_drew (S := (fun w' => w'.cell? ⟨z6, 1, none⟩ = some (.slice (some ⟨gf, 0, none⟩) n n))) (by kernel_rfl) ?_ (fun hHeld => ?_)
            · (try dsimp only)
              exact dz
            refine wpAnyH_take (i := 0) (oi := { dst := some 54, op := Go.Op.fieldAddr 101 (Go.Operand.tmp 6) 0, type := 0, pos := "load.go:35", after := #[], guard := none }) (v := ?v32) rfl (by kernel_rfl) (by kernel_rfl) (by kernel_rfl) (fun _ _ _ h => h) (Or.inl ⟨by rfl, ?hy32⟩) (by assumption) ?rs32
            case hy32 =>
              intro w hSw
              (try dsimp only at hSw)
              go_simp
              try with_reducible rfl
            (try simp only [Act.put, List.setIfInBounds_toArray, List.set_cons_zero, List.set_cons_succ])
            refine wpAnyH_take (i := 2) (oi := { dst := some 56, op := Go.Op.fieldAddr 101 (Go.Operand.tmp 6) 1, type := 0, pos := "load.go:35", after := #[], guard := none }) (v := ?v33) rfl (by kernel_rfl) (by kernel_rfl) (by kernel_rfl) (fun _ _ _ h => h) (Or.inl ⟨by rfl, ?hy33⟩) (by assumption) ?rs33
            case hy33 =>
              intro w hSw
              (try dsimp only at hSw)
              go_simp
              try with_reducible rfl
            (try simp only [Act.put, List.setIfInBounds_toArray, List.set_cons_zero, List.set_cons_succ])
            refine wpAnyH_take (i := 3) (oi := { dst := some 57, op := Go.Op.load 99 (Go.Operand.tmp 56), type := 99, pos := "load.go:35", after := #[{ on := 2, ground := Go.Ground.data }], guard := none }) (v := ?v34) rfl (by kernel_rfl) (by kernel_rfl) (by kernel_rfl) (fun _ _ _ h => h) (Or.inl ⟨by rfl, ?hy34⟩) (by assumption) ?rs34
            case hy34 =>
              intro w hSw
              (try dsimp only at hSw)
              go_simp
              try with_reducible rfl
            (try simp only [Act.put, List.setIfInBounds_toArray, List.set_cons_zero, List.set_cons_succ])
            refine wpAnyH_take (i := 4) (oi := { dst := some 58, op := Go.Op.move (Go.Operand.tmp 11), type := 3, pos := "load.go:35", after := #[], guard := none }) (v := ?v35) rfl (by kernel_rfl) (by kernel_rfl) (by kernel_rfl) (fun _ _ _ h => h) (Or.inl ⟨by rfl, ?hy35⟩) (by assumption) ?rs35
            case hy35 =>
              intro w hSw
              (try dsimp only at hSw)
              go_simp
              try with_reducible rfl
            (try simp only [Act.put, List.setIfInBounds_toArray, List.set_cons_zero, List.set_cons_succ])
            refine wpAnyH_take (i := 5) (oi := { dst := some 59, op := Go.Op.slice 99 (Go.Operand.tmp 57) none (some (Go.Operand.tmp 58)) none, type := 99, pos := "load.go:35", after := #[{ on := 3, ground := Go.Ground.data }, { on := 4, ground := Go.Ground.data }], guard := none }) (v := ?v36) rfl (by kernel_rfl) (by kernel_rfl) (by kernel_rfl) (fun _ _ _ h => h) (Or.inl ⟨by rfl, ?hy36⟩) (by assumption) ?rs36
            case hy36 =>
              intro w hSw
              (try dsimp only at hSw)
              go_simp
              try with_reducible rfl
            (try simp only [Act.put, List.setIfInBounds_toArray, List.set_cons_zero, List.set_cons_succ])
            refine wpAnyH_take (i := 7) (oi := { dst := some 61, op := Go.Op.fieldAddr 101 (Go.Operand.tmp 6) 1, type := 0, pos := "load.go:35", after := #[], guard := none }) (v := ?v37) rfl (by kernel_rfl) (by kernel_rfl) (by kernel_rfl) (fun _ _ _ h => h) (Or.inl ⟨by rfl, ?hy37⟩) (by assumption) ?rs37
            case hy37 =>
              intro w hSw
              (try dsimp only at hSw)
              go_simp
              try with_reducible rfl
            (try simp only [Act.put, List.setIfInBounds_toArray, List.set_cons_zero, List.set_cons_succ])
            refine wpAnyH_take (i := 8) (oi := { dst := some 62, op := Go.Op.load 99 (Go.Operand.tmp 61), type := 99, pos := "load.go:35", after := #[{ on := 7, ground := Go.Ground.data }], guard := none }) (v := ?v38) rfl (by kernel_rfl) (by kernel_rfl) (by kernel_rfl) (fun _ _ _ h => h) (Or.inl ⟨by rfl, ?hy38⟩) (by assumption) ?rs38
            case hy38 =>
              intro w hSw
              (try dsimp only at hSw)
              go_simp
              try with_reducible rfl
            (try simp only [Act.put, List.setIfInBounds_toArray, List.set_cons_zero, List.set_cons_succ])
            refine wpAnyH_take (i := 9) (oi := { dst := some 63, op := Go.Op.move (Go.Operand.tmp 11), type := 3, pos := "load.go:35", after := #[], guard := none }) (v := ?v39) rfl (by kernel_rfl) (by kernel_rfl) (by kernel_rfl) (fun _ _ _ h => h) (Or.inl ⟨by rfl, ?hy39⟩) (by assumption) ?rs39
            case hy39 =>
              intro w hSw
              (try dsimp only at hSw)
              go_simp
              try with_reducible rfl
            (try simp only [Act.put, List.setIfInBounds_toArray, List.set_cons_zero, List.set_cons_succ])
            refine wpAnyH_take (i := 10) (oi := { dst := some 64, op := Go.Op.binOp Go.BinOp.add 3 (Go.Operand.tmp 63) (Go.Operand.const (Go.Value.int Go.IntKind.i64 1)) 3, type := 3, pos := "load.go:35", after := #[{ on := 9, ground := Go.Ground.data }], guard := none }) (v := ?v40) rfl (by kernel_rfl) (by kernel_rfl) (by kernel_rfl) (fun _ _ _ h => h) (Or.inl ⟨by rfl, ?hy40⟩) (by assumption) ?rs40
            case hy40 =>
              intro w hSw
              (try dsimp only at hSw)
              go_simp
              try with_reducible rfl
            (try simp only [Act.put, List.setIfInBounds_toArray, List.set_cons_zero, List.set_cons_succ])
            refine wpAnyH_take (i := 11) (oi := { dst := some 65, op := Go.Op.slice 99 (Go.Operand.tmp 62) (some (Go.Operand.tmp 64)) none none, type := 99, pos := "load.go:35", after := #[{ on := 8, ground := Go.Ground.data }, { on := 10, ground := Go.Ground.data }], guard := none }) (v := ?v41) rfl (by kernel_rfl) (by kernel_rfl) (by kernel_rfl) (fun _ _ _ h => h) (Or.inl ⟨by rfl, ?hy41⟩) (by assumption) ?rs41
            case hy41 =>
              intro w hSw
              (try dsimp only at hSw)
              go_simp
              try with_reducible rfl
            (try simp only [Act.put, List.setIfInBounds_toArray, List.set_cons_zero, List.set_cons_succ])
            refine wpAnyH_take (i := 14) (oi := { dst := some 68, op := Go.Op.move (Go.Operand.tmp 12), type := 69, pos := "load.go:35", after := #[], guard := none }) (v := ?v42) rfl (by kernel_rfl) (by kernel_rfl) (by kernel_rfl) (fun _ _ _ h => h) (Or.inl ⟨by rfl, ?hy42⟩) (by assumption) ?rs42
            case hy42 =>
              intro w hSw
              (try dsimp only at hSw)
              go_simp
              try with_reducible rfl
            (try simp only [Act.put, List.setIfInBounds_toArray, List.set_cons_zero, List.set_cons_succ])
            refine wpAnyH_ready (rs := [1, 6]) (by kernel_rfl) (by simp) ?_
            refine AllReadyH.cons (o := { dst := some 55, op := Go.Op.load 98 (Go.Operand.tmp 54), type := 98, pos := "load.go:35", after := #[{ on := 0, ground := Go.Ground.data }], guard := none }) rfl (fun K1 hK1 => ?_) (AllReadyH.cons (o := { dst := some 60, op := Go.Op.call { callee := Go.Callee.value (Go.Operand.func 80), args := #[Go.Operand.tmp 59], argTypes := #[99] }, type := 130, pos := "load.go:35", after := #[{ on := 5, ground := Go.Ground.data }], guard := none }) rfl (fun K6 hK6 => ?_) AllReadyH.nil)
            · skip
              go_simp
              skip
              (try go_wp2_with fail)
              refine hK1.out _ _ ?_ (fun hHeld => ?_)
              · (try dsimp only)
                exact dz
              (try simp only [Act.put, List.setIfInBounds_toArray, List.set_cons_zero, List.set_cons_succ])
              refine wpAnyH_ready (rs := [6]) (by kernel_rfl) (by simp) ?_
              refine AllReadyH.cons (o := { dst := some 60, op := Go.Op.call { callee := Go.Callee.value (Go.Operand.func 80), args := #[Go.Operand.tmp 59], argTypes := #[99] }, type := 130, pos := "load.go:35", after := #[{ on := 5, ground := Go.Ground.data }], guard := none }) rfl (fun K6 hK6 => ?_) AllReadyH.nil
              go_simp
              (go_at_call 80; refine (P1.out _ (by repeat (first | assumption | exact Kept.refl _ | apply Kept.drew | apply Kept.drewN | apply Kept.alloc | refine Kept.trans ?_ (by assumption)))).mono ?_; rintro e u6 ⟨v6, rfl, hN6, hu6⟩; obtain ⟨a6, k6, c6, rfl⟩ := natAt_slice hN6)
              (try go_wp2_with fail)
              have d06 := Kept.cellSome hu6 d0
              have dz6 := Kept.cellSome hu6 dz
              refine hK6.out _ _ ?_ (fun hHeld => ?_)
              · (try dsimp only)
                exact dz6
              (try simp only [Act.put, List.setIfInBounds_toArray, List.set_cons_zero, List.set_cons_succ])
              refine wpAnyH_ready (rs := [12]) (by kernel_rfl) (by simp) ?_
              refine AllReadyH.cons (o := { dst := some 66, op := Go.Op.call { callee := Go.Callee.value (Go.Operand.func 80), args := #[Go.Operand.tmp 65], argTypes := #[99] }, type := 130, pos := "load.go:35", after := #[{ on := 11, ground := Go.Ground.data }, { on := 6, ground := Go.Ground.chain }], guard := none }) rfl (fun K12 hK12 => ?_) AllReadyH.nil
              go_simp
              (go_at_call 80; refine (P2.out _ (by repeat (first | assumption | exact Kept.refl _ | apply Kept.drew | apply Kept.drewN | apply Kept.alloc | refine Kept.trans ?_ (by assumption)))).mono ?_; rintro e u12 ⟨v12, rfl, hN12, hu12⟩; obtain ⟨a12, k12, c12, rfl⟩ := natAt_slice hN12)
              (try go_wp2_with fail)
              have d012 := Kept.cellSome hu12 d06
              have dz12 := Kept.cellSome hu12 dz6
              refine hK12.out _ _ ?_ (fun hHeld => ?_)
              · (try dsimp only)
                exact dz12
              (try simp only [Act.put, List.setIfInBounds_toArray, List.set_cons_zero, List.set_cons_succ])
              refine wpAnyH_ready (rs := [13]) (by kernel_rfl) (by simp) ?_
              refine AllReadyH.cons (o := { dst := some 67, op := Go.Op.call { callee := Go.Callee.value (Go.Operand.func 81), args := #[Go.Operand.tmp 60, Go.Operand.tmp 66], argTypes := #[130, 130] }, type := 130, pos := "load.go:35", after := #[{ on := 6, ground := Go.Ground.data }, { on := 12, ground := Go.Ground.data }, { on := 12, ground := Go.Ground.chain }], guard := none }) rfl (fun K13 hK13 => ?_) AllReadyH.nil
              go_simp
              (go_at_call 81; refine (times_row _ _ _ _ _ (hN6.kept (by repeat (first | assumption | exact Kept.refl _ | apply Kept.drew | apply Kept.drewN | apply Kept.alloc | refine Kept.trans ?_ (by assumption)))) (hN12.kept (by repeat (first | assumption | exact Kept.refl _ | apply Kept.drew | apply Kept.drewN | apply Kept.alloc | refine Kept.trans ?_ (by assumption)))) HB1.out).mono ?_; rintro e u13 ⟨g13, k13, c13, N13, f13, rfl, hN13, hu13, _⟩)
              (try go_wp2_with fail)
              have d013 := Kept.cellSome hu13 d012
              have dz13 := Kept.cellSome hu13 dz12
              refine hK13.out _ _ ?_ (fun hHeld => ?_)
              · (try dsimp only)
                exact dz13
              (try simp only [Act.put, List.setIfInBounds_toArray, List.set_cons_zero, List.set_cons_succ])
              refine wpAnyH_ready (rs := [15]) (by kernel_rfl) (by simp) ?_
              refine AllReadyH.cons (o := { dst := some 69, op := Go.Op.call { callee := Go.Callee.value (Go.Operand.func 82), args := #[Go.Operand.tmp 68], argTypes := #[69] }, type := 130, pos := "load.go:35", after := #[{ on := 14, ground := Go.Ground.data }, { on := 13, ground := Go.Ground.chain }], guard := none }) rfl (fun K15 hK15 => ?_) AllReadyH.nil
              go_simp
              (go_at_call 82; refine (SM.out _).mono ?_; rintro e u15 ⟨v15, rfl, hN15, hu15⟩; obtain ⟨a15, k15, c15, rfl⟩ := natAt_slice hN15)
              (try go_wp2_with fail)
              have d015 := Kept.cellSome hu15 d013
              have dz15 := Kept.cellSome hu15 dz13
              refine hK15.out _ _ ?_ (fun hHeld => ?_)
              · (try dsimp only)
                exact dz15
              (try simp only [Act.put, List.setIfInBounds_toArray, List.set_cons_zero, List.set_cons_succ])
              refine wpAnyH_ready (rs := [16]) (by kernel_rfl) (by simp) ?_
              refine AllReadyH.cons (o := { dst := some 70, op := Go.Op.call { callee := Go.Callee.value (Go.Operand.func 81), args := #[Go.Operand.tmp 67, Go.Operand.tmp 69], argTypes := #[130, 130] }, type := 130, pos := "load.go:35", after := #[{ on := 13, ground := Go.Ground.data }, { on := 15, ground := Go.Ground.data }, { on := 15, ground := Go.Ground.chain }], guard := none }) rfl (fun K16 hK16 => ?_) AllReadyH.nil
              go_simp
              (go_at_call 81; refine (times_row _ _ _ _ _ (hN13.kept (by repeat (first | assumption | exact Kept.refl _ | apply Kept.drew | apply Kept.drewN | apply Kept.alloc | refine Kept.trans ?_ (by assumption)))) (hN15.kept (by repeat (first | assumption | exact Kept.refl _ | apply Kept.drew | apply Kept.drewN | apply Kept.alloc | refine Kept.trans ?_ (by assumption)))) HB2.out).mono ?_; rintro e u16 ⟨g16, k16, c16, N16, f16, rfl, hN16, hu16, hR16⟩)
              (try go_wp2_with fail)
              have d016 := Kept.cellSome hu16 d015
              have dz16 := Kept.cellSome hu16 dz15
              refine hK16.out _ _ ?_ (fun hHeld => ?_)
              · (try dsimp only)
                exact dz16
              (try simp only [Act.put, List.setIfInBounds_toArray, List.set_cons_zero, List.set_cons_succ])
              refine wpAnyH_ready (rs := [17]) (by kernel_rfl) (by simp) ?_
              refine AllReadyH.cons (o := { dst := some 71, op := Go.Op.buildSlice 98 1 #[(0, Go.Operand.tmp 70)], type := 98, pos := "load.go:35", after := #[{ on := 16, ground := Go.Ground.data }], guard := none }) rfl (fun K17 hK17 => ?_) AllReadyH.nil
              go_simp
              skip
              (try go_wp2_with fail)
              have hu17 : Kept u16 (u16.alloc (.cells #[(.slice (some ⟨g16, 0, none⟩) k16 c16)] 130)) := (Kept.refl u16).alloc _
              have d017 := Kept.cellSome hu17 d016
              have dz17 := Kept.cellSome hu17 dz16
              have hKs17 : Kept wr (u16.alloc (.cells #[(.slice (some ⟨g16, 0, none⟩) k16 c16)] 130)) := Kept.trans (show Kept wr u16 from (by repeat (first | assumption | exact Kept.refl _ | apply Kept.drew | apply Kept.drewN | apply Kept.alloc | refine Kept.trans ?_ (by assumption)))) hu17
              have hO17 := own_keptY hO hKs17 (fun _ _ _ _ _ h => h)
              have hTy16 : TyNat (u16.alloc (.cells #[(.slice (some ⟨g16, 0, none⟩) k16 c16)] 130)) (.slice (some ⟨g16, 0, none⟩) k16 c16) (partZ T F n i) := TyNat.kept ⟨_, _, _, _, _, rfl, by rw [← HPZ.out]; exact hN16, hR16⟩ hu17
              have hB17 : W2.heap.size ≤ (u16.alloc (.cells #[(.slice (some ⟨g16, 0, none⟩) k16 c16)] 130)).heap.size := Nat.le_trans hsz hKs17.size
              refine hK17.out _ _ ?_ (fun hHeld => ?_)
              · (try dsimp only)
                exact dz17
              (try simp only [Act.put, List.setIfInBounds_toArray, List.set_cons_zero, List.set_cons_succ])
              refine wpAnyH_ready (rs := [18]) (by kernel_rfl) (by simp) ?_
              refine AllReadyH.cons (o := { dst := some 72, op := Go.Op.call { callee := Go.Callee.builtin Go.Builtin.append, args := #[Go.Operand.tmp 55, Go.Operand.tmp 71], argTypes := #[98, 98] }, type := 98, pos := "load.go:35", after := #[{ on := 1, ground := Go.Ground.data }, { on := 17, ground := Go.Ground.data }, { on := 16, ground := Go.Ground.chain }], guard := none }) rfl (fun K18 hK18 => ?_) AllReadyH.nil
              rw [if_pos (by rfl)]
              refine wp_append_own _ _ _ 98 rfl W2.heap.size 130 i0 (.slice none 0 0) 1 24 Tryz.underlying98 hi0 hz0 hz1 hz2 rfl (by decide) _ _ _ (by rfl) hO17 ⟨u16.heap.size, 0, none⟩ 1 1 [(.slice (some ⟨g16, 0, none⟩) k16 c16)] (by rfl) rfl (cell_one_new _ _ _) ?c2 ?c3 ?c4 ?c5 ?_
              case c2 => simp [Value.oneCell']
              case c3 => unfold maxLen; omega
              case c4 => omega
              case c5 => exact hB17
              intro v18 w18 hO18 hgr18 _
              have hXg : KeptX (fun k => (Value.slice sa i cap).ownBlock = some k) (u16.alloc (.cells #[(.slice (some ⟨g16, 0, none⟩) k16 c16)] 130)) w18 := KeptX.grown (KeptX.refl _ _) hgr18 (fun k hk => Or.inl hk)
              have hb18 := hXg.row (hKs17.row hb) (own_below hO17 hz6B)
              have hr18 := hXg.row (hKs17.row hr) (own_below hO17 hr4B)
              have hf18 := hXg.row (hKs17.row hRf) (own_below hO17 hgfB)
              have ht18 := hXg.row (hKs17.row hRt) (own_below hO17 hgtB)
              have hKw18 : Kept w w18 := (hK.trans hKs17).grown hgr18 (fun k hk => Nat.le_trans hW2w ((hO17.lt k hk).1))
              have hnu : ∀ b c f, (u16.alloc (.cells #[(.slice (some ⟨g16, 0, none⟩) k16 c16)] 130)).heap[b]? = some (.cells c 69 f) → ¬ (Value.slice sa i cap).ownBlock = some b := fun b c f h => own_not hO17 (by decide) h
              have hTy18 : ∀ t, t < i → TyNat w18 (P t) (partZ T F n t) := fun t ht => ((hTy t ht).kept hKs17).keptX hXg hnu
              have hTn18 := hTy16.keptX hXg hnu
              have hsz18 : W2.heap.size ≤ w18.heap.size := Nat.le_trans hB17 hXg.size
              obtain ⟨va18, vc18, rfl⟩ := own_shape hO18
              obtain ⟨x0, x1, x2, x3⟩ := bx2_cells hb18
              refine hK18.out _ _ ?_ (fun hHeld => ?_)
              · (try dsimp only)
                exact x1
              (try simp only [Act.put, List.setIfInBounds_toArray, List.set_cons_zero, List.set_cons_succ])
              refine wpAnyH_take (i := 19) (oi := { dst := some 73, op := Go.Op.fieldAddr 101 (Go.Operand.tmp 6) 0, type := 0, pos := "load.go:35", after := #[{ on := 0, ground := Go.Ground.phase }, { on := 1, ground := Go.Ground.phase }, { on := 2, ground := Go.Ground.phase }, { on := 3, ground := Go.Ground.phase }, { on := 4, ground := Go.Ground.phase }, { on := 5, ground := Go.Ground.phase }, { on := 6, ground := Go.Ground.phase }, { on := 7, ground := Go.Ground.phase }, { on := 8, ground := Go.Ground.phase }, { on := 9, ground := Go.Ground.phase }, { on := 10, ground := Go.Ground.phase }, { on := 11, ground := Go.Ground.phase }, { on := 12, ground := Go.Ground.phase }, { on := 13, ground := Go.Ground.phase }, { on := 14, ground := Go.Ground.phase }, { on := 15, ground := Go.Ground.phase }, { on := 16, ground := Go.Ground.phase }, { on := 17, ground := Go.Ground.phase }, { on := 18, ground := Go.Ground.phase }], guard := none }) (v := ?v43) rfl (by kernel_rfl) (by kernel_rfl) (by kernel_rfl) (fun _ _ _ h => h) (Or.inl ⟨by rfl, ?hy43⟩) (by assumption) ?rs43
              case hy43 =>
                intro w hSw
                (try dsimp only at hSw)
                go_simp
                try with_reducible rfl
              (try simp only [Act.put, List.setIfInBounds_toArray, List.set_cons_zero, List.set_cons_succ])
              refine wpAnyH_ready (rs := [20]) (by kernel_rfl) (by simp) ?_
              refine AllReadyH.cons (o := { dst := none, op := Go.Op.store 98 (Go.Operand.tmp 73) (Go.Operand.tmp 72), type := 0, pos := "load.go:35", after := #[{ on := 19, ground := Go.Ground.data }, { on := 18, ground := Go.Ground.data }, { on := 18, ground := Go.Ground.chain }, { on := 0, ground := Go.Ground.phase }, { on := 1, ground := Go.Ground.phase }, { on := 2, ground := Go.Ground.phase }, { on := 3, ground := Go.Ground.phase }, { on := 4, ground := Go.Ground.phase }, { on := 5, ground := Go.Ground.phase }, { on := 6, ground := Go.Ground.phase }, { on := 7, ground := Go.Ground.phase }, { on := 8, ground := Go.Ground.phase }, { on := 9, ground := Go.Ground.phase }, { on := 10, ground := Go.Ground.phase }, { on := 11, ground := Go.Ground.phase }, { on := 12, ground := Go.Ground.phase }, { on := 13, ground := Go.Ground.phase }, { on := 14, ground := Go.Ground.phase }, { on := 15, ground := Go.Ground.phase }, { on := 16, ground := Go.Ground.phase }, { on := 17, ground := Go.Ground.phase }, { on := 18, ground := Go.Ground.phase }], guard := none }) rfl (fun K20 hK20 => ?_) AllReadyH.nil
              go_simp
              skip
              (try go_wp2_with fail)
              have hX20 : KeptX (fun k => k = z6) w18 (w18.setCell ⟨z6, 0, none⟩ (.slice va18 (i + 1) vc18)) := (KeptX.refl (fun k => k = z6) w18).setIn 0 _
              have hb20 := bx2_set0 hb18 (.slice va18 (i + 1) vc18)
              have hr20 := hr18.setOther (a := ⟨z6, 0, none⟩) nrz (.slice va18 (i + 1) vc18)
              have hf20 := hf18.setOther (a := ⟨z6, 0, none⟩) (Ne.symm nzf) (.slice va18 (i + 1) vc18)
              have ht20 := ht18.setOther (a := ⟨z6, 0, none⟩) (Ne.symm nzt) (.slice va18 (i + 1) vc18)
              have hO20 := own_keptY hO18 hX20 (fun b c f _ hb h => by omega)
              have hz6t : ∀ b c f, w18.heap[b]? = some (.cells c 69 f) → ¬ b = z6 := fun b c f h e => by
                subst e
                obtain ⟨cur, hh, _⟩ := id hb18
                rw [h] at hh
                injection hh with hh
                injection hh with _ hh
                exact absurd hh (by decide)
              have hTy20 : ∀ t, t < i → TyNat (w18.setCell ⟨z6, 0, none⟩ (.slice va18 (i + 1) vc18)) (P t) (partZ T F n t) := fun t ht => (hTy18 t ht).keptX hX20 hz6t
              have hTn20 := hTn18.keptX hX20 hz6t
              have hKw20 := hKw18.setCell (p := ⟨z6, 0, none⟩) hz6w (.slice va18 (i + 1) vc18)
              have hsz20 : W2.heap.size ≤ (w18.setCell ⟨z6, 0, none⟩ (.slice va18 (i + 1) vc18)).heap.size := by rw [World.size_setCell]; exact hsz18
              refine hK20.out _ _ ?_ (fun hHeld => ?_)
              · (try dsimp only)
                exact (bx2_cells hb20).2.1
              (try simp only [Act.put, List.setIfInBounds_toArray, List.set_cons_zero, List.set_cons_succ])
              refine wpAnyH_done (by kernel_rfl) ?_ _
              have HALL : Hid (∀ t, t < i + 1 → TyNat (w18.setCell ⟨z6, 0, none⟩ (.slice va18 (i + 1) vc18)) (updV P i (.slice (some ⟨g16, 0, none⟩) k16 c16) t) (partZ T F n t)) := fun t ht => by
                unfold updV
                by_cases e : t = i
                · rw [if_pos e, e]; exact hTn20
                · rw [if_neg e]; exact hTy20 t (by omega)
              have HOV : Hid ((w18.setCell ⟨z6, 0, none⟩ (.slice va18 (i + 1) vc18)).ownsRow W2.heap.size 130 1 (.slice va18 (i + 1) vc18) (i + 1) (vals (updV P i (.slice (some ⟨g16, 0, none⟩) k16 c16)) (i + 1))) := by
                show World.ownsRow _ _ _ _ _ _ _
                rw [vals_succ]
                exact hO20
              have HKW := Lib.hid hKw20
              have HSZ := Lib.hid hsz20
              have HR := Lib.hid (And.intro hr20 (And.intro hb20 (And.intro hf20 ht20)))
              generalize (w18.setCell ⟨z6, 0, none⟩ (.slice va18 (i + 1) vc18)) = WN at *
              clear hX20 hb20 hr20 hf20 ht20 hO20 hTy20 hTn20 hKw20 hsz20 hz6t hXg hb18 hr18 hf18 ht18 hKw18 hnu hTy18 hTn18 hsz18 x0 x1 x2 x3 hO18 hgr18 hO17 hTy16 hB17 hKs17 hu17 d017 dz17 hHeld hN6 hN12 hN13 hN15 hN16 hR16 hu6 hu12 hu13 hu15 hu16 d06 dz6 d012 dz12 d013 dz13 d015 dz15 d016 dz16
              go_wp2_with fail
              go_roundg (n - (i + 1))
              case measure => omega
              case rel => exact ⟨i + 1, _, _, by omega, rfl, by first | rfl | go_num, HKW.out, HSZ.out, HR.out.1, HR.out.2.1, HR.out.2.2.1, HR.out.2.2.2, HOV.out, HALL.out⟩
            · skip
              go_simp
              (go_at_call 80; refine (P1.out _ (by repeat (first | assumption | exact Kept.refl _ | apply Kept.drew | apply Kept.drewN | apply Kept.alloc | refine Kept.trans ?_ (by assumption)))).mono ?_; rintro e u6 ⟨v6, rfl, hN6, hu6⟩; obtain ⟨a6, k6, c6, rfl⟩ := natAt_slice hN6)
              (try go_wp2_with fail)
              have d06 := Kept.cellSome hu6 d0
              have dz6 := Kept.cellSome hu6 dz
              refine hK6.out _ _ ?_ (fun hHeld => ?_)
              · (try dsimp only)
                exact dz6
              (try simp only [Act.put, List.setIfInBounds_toArray, List.set_cons_zero, List.set_cons_succ])
              refine wpAnyH_ready (rs := [1, 12]) (by kernel_rfl) (by simp) ?_
              refine AllReadyH.cons (o := { dst := some 55, op := Go.Op.load 98 (Go.Operand.tmp 54), type := 98, pos := "load.go:35", after := #[{ on := 0, ground := Go.Ground.data }], guard := none }) rfl (fun K1 hK1 => ?_) (AllReadyH.cons (o := { dst := some 66, op := Go.Op.call { callee := Go.Callee.value (Go.Operand.func 80), args := #[Go.Operand.tmp 65], argTypes := #[99] }, type := 130, pos := "load.go:35", after := #[{ on := 11, ground := Go.Ground.data }, { on := 6, ground := Go.Ground.chain }], guard := none }) rfl (fun K12 hK12 => ?_) AllReadyH.nil)
              · skip
                go_simp
                skip
                (try go_wp2_with fail)
                refine hK1.out _ _ ?_ (fun hHeld => ?_)
                · (try dsimp only)
                  exact dz6
                (try simp only [Act.put, List.setIfInBounds_toArray, List.set_cons_zero, List.set_cons_succ])
                refine wpAnyH_ready (rs := [12]) (by kernel_rfl) (by simp) ?_
                refine AllReadyH.cons (o := { dst := some 66, op := Go.Op.call { callee := Go.Callee.value (Go.Operand.func 80), args := #[Go.Operand.tmp 65], argTypes := #[99] }, type := 130, pos := "load.go:35", after := #[{ on := 11, ground := Go.Ground.data }, { on := 6, ground := Go.Ground.chain }], guard := none }) rfl (fun K12 hK12 => ?_) AllReadyH.nil
                go_simp
                (go_at_call 80; refine (P2.out _ (by repeat (first | assumption | exact Kept.refl _ | apply Kept.drew | apply Kept.drewN | apply Kept.alloc | refine Kept.trans ?_ (by assumption)))).mono ?_; rintro e u12 ⟨v12, rfl, hN12, hu12⟩; obtain ⟨a12, k12, c12, rfl⟩ := natAt_slice hN12)
                (try go_wp2_with fail)
                have d012 := Kept.cellSome hu12 d06
                have dz12 := Kept.cellSome hu12 dz6
                refine hK12.out _ _ ?_ (fun hHeld => ?_)
                · (try dsimp only)
                  exact dz12
                (try simp only [Act.put, List.setIfInBounds_toArray, List.set_cons_zero, List.set_cons_succ])
                refine wpAnyH_ready (rs := [13]) (by kernel_rfl) (by simp) ?_
                refine AllReadyH.cons (o := { dst := some 67, op := Go.Op.call { callee := Go.Callee.value (Go.Operand.func 81), args := #[Go.Operand.tmp 60, Go.Operand.tmp 66], argTypes := #[130, 130] }, type := 130, pos := "load.go:35", after := #[{ on := 6, ground := Go.Ground.data }, { on := 12, ground := Go.Ground.data }, { on := 12, ground := Go.Ground.chain }], guard := none }) rfl (fun K13 hK13 => ?_) AllReadyH.nil
                go_simp
                (go_at_call 81; refine (times_row _ _ _ _ _ (hN6.kept (by repeat (first | assumption | exact Kept.refl _ | apply Kept.drew | apply Kept.drewN | apply Kept.alloc | refine Kept.trans ?_ (by assumption)))) (hN12.kept (by repeat (first | assumption | exact Kept.refl _ | apply Kept.drew | apply Kept.drewN | apply Kept.alloc | refine Kept.trans ?_ (by assumption)))) HB1.out).mono ?_; rintro e u13 ⟨g13, k13, c13, N13, f13, rfl, hN13, hu13, _⟩)
                (try go_wp2_with fail)
                have d013 := Kept.cellSome hu13 d012
                have dz13 := Kept.cellSome hu13 dz12
                refine hK13.out _ _ ?_ (fun hHeld => ?_)
                · (try dsimp only)
                  exact dz13
                (try simp only [Act.put, List.setIfInBounds_toArray, List.set_cons_zero, List.set_cons_succ])
                refine wpAnyH_ready (rs := [15]) (by kernel_rfl) (by simp) ?_
                refine AllReadyH.cons (o := { dst := some 69, op := Go.Op.call { callee := Go.Callee.value (Go.Operand.func 82), args := #[Go.Operand.tmp 68], argTypes := #[69] }, type := 130, pos := "load.go:35", after := #[{ on := 14, ground := Go.Ground.data }, { on := 13, ground := Go.Ground.chain }], guard := none }) rfl (fun K15 hK15 => ?_) AllReadyH.nil
                go_simp
                (go_at_call 82; refine (SM.out _).mono ?_; rintro e u15 ⟨v15, rfl, hN15, hu15⟩; obtain ⟨a15, k15, c15, rfl⟩ := natAt_slice hN15)
                (try go_wp2_with fail)
                have d015 := Kept.cellSome hu15 d013
                have dz15 := Kept.cellSome hu15 dz13
                refine hK15.out _ _ ?_ (fun hHeld => ?_)
                · (try dsimp only)
                  exact dz15
                (try simp only [Act.put, List.setIfInBounds_toArray, List.set_cons_zero, List.set_cons_succ])
                refine wpAnyH_ready (rs := [16]) (by kernel_rfl) (by simp) ?_
                refine AllReadyH.cons (o := { dst := some 70, op := Go.Op.call { callee := Go.Callee.value (Go.Operand.func 81), args := #[Go.Operand.tmp 67, Go.Operand.tmp 69], argTypes := #[130, 130] }, type := 130, pos := "load.go:35", after := #[{ on := 13, ground := Go.Ground.data }, { on := 15, ground := Go.Ground.data }, { on := 15, ground := Go.Ground.chain }], guard := none }) rfl (fun K16 hK16 => ?_) AllReadyH.nil
                go_simp
                (go_at_call 81; refine (times_row _ _ _ _ _ (hN13.kept (by repeat (first | assumption | exact Kept.refl _ | apply Kept.drew | apply Kept.drewN | apply Kept.alloc | refine Kept.trans ?_ (by assumption)))) (hN15.kept (by repeat (first | assumption | exact Kept.refl _ | apply Kept.drew | apply Kept.drewN | apply Kept.alloc | refine Kept.trans ?_ (by assumption)))) HB2.out).mono ?_; rintro e u16 ⟨g16, k16, c16, N16, f16, rfl, hN16, hu16, hR16⟩)
                (try go_wp2_with fail)
                have d016 := Kept.cellSome hu16 d015
                have dz16 := Kept.cellSome hu16 dz15
                refine hK16.out _ _ ?_ (fun hHeld => ?_)
                · (try dsimp only)
                  exact dz16
                (try simp only [Act.put, List.setIfInBounds_toArray, List.set_cons_zero, List.set_cons_succ])
                refine wpAnyH_ready (rs := [17]) (by kernel_rfl) (by simp) ?_
                refine AllReadyH.cons (o := { dst := some 71, op := Go.Op.buildSlice 98 1 #[(0, Go.Operand.tmp 70)], type := 98, pos := "load.go:35", after := #[{ on := 16, ground := Go.Ground.data }], guard := none }) rfl (fun K17 hK17 => ?_) AllReadyH.nil
                go_simp
                skip
                (try go_wp2_with fail)
                have hu17 : Kept u16 (u16.alloc (.cells #[(.slice (some ⟨g16, 0, none⟩) k16 c16)] 130)) := (Kept.refl u16).alloc _
                have d017 := Kept.cellSome hu17 d016
                have dz17 := Kept.cellSome hu17 dz16
                have hKs17 : Kept wr (u16.alloc (.cells #[(.slice (some ⟨g16, 0, none⟩) k16 c16)] 130)) := Kept.trans (show Kept wr u16 from (by repeat (first | assumption | exact Kept.refl _ | apply Kept.drew | apply Kept.drewN | apply Kept.alloc | refine Kept.trans ?_ (by assumption)))) hu17
                have hO17 := own_keptY hO hKs17 (fun _ _ _ _ _ h => h)
                have hTy16 : TyNat (u16.alloc (.cells #[(.slice (some ⟨g16, 0, none⟩) k16 c16)] 130)) (.slice (some ⟨g16, 0, none⟩) k16 c16) (partZ T F n i) := TyNat.kept ⟨_, _, _, _, _, rfl, by rw [← HPZ.out]; exact hN16, hR16⟩ hu17
                have hB17 : W2.heap.size ≤ (u16.alloc (.cells #[(.slice (some ⟨g16, 0, none⟩) k16 c16)] 130)).heap.size := Nat.le_trans hsz hKs17.size
                refine hK17.out _ _ ?_ (fun hHeld => ?_)
                · (try dsimp only)
                  exact dz17
                (try simp only [Act.put, List.setIfInBounds_toArray, List.set_cons_zero, List.set_cons_succ])
                refine wpAnyH_ready (rs := [18]) (by kernel_rfl) (by simp) ?_
                refine AllReadyH.cons (o := { dst := some 72, op := Go.Op.call { callee := Go.Callee.builtin Go.Builtin.append, args := #[Go.Operand.tmp 55, Go.Operand.tmp 71], argTypes := #[98, 98] }, type := 98, pos := "load.go:35", after := #[{ on := 1, ground := Go.Ground.data }, { on := 17, ground := Go.Ground.data }, { on := 16, ground := Go.Ground.chain }], guard := none }) rfl (fun K18 hK18 => ?_) AllReadyH.nil
                rw [if_pos (by rfl)]
                refine wp_append_own _ _ _ 98 rfl W2.heap.size 130 i0 (.slice none 0 0) 1 24 Tryz.underlying98 hi0 hz0 hz1 hz2 rfl (by decide) _ _ _ (by rfl) hO17 ⟨u16.heap.size, 0, none⟩ 1 1 [(.slice (some ⟨g16, 0, none⟩) k16 c16)] (by rfl) rfl (cell_one_new _ _ _) ?c2 ?c3 ?c4 ?c5 ?_
                case c2 => simp [Value.oneCell']
                case c3 => unfold maxLen; omega
                case c4 => omega
                case c5 => exact hB17
                intro v18 w18 hO18 hgr18 _
                have hXg : KeptX (fun k => (Value.slice sa i cap).ownBlock = some k) (u16.alloc (.cells #[(.slice (some ⟨g16, 0, none⟩) k16 c16)] 130)) w18 := KeptX.grown (KeptX.refl _ _) hgr18 (fun k hk => Or.inl hk)
                have hb18 := hXg.row (hKs17.row hb) (own_below hO17 hz6B)
                have hr18 := hXg.row (hKs17.row hr) (own_below hO17 hr4B)
                have hf18 := hXg.row (hKs17.row hRf) (own_below hO17 hgfB)
                have ht18 := hXg.row (hKs17.row hRt) (own_below hO17 hgtB)
                have hKw18 : Kept w w18 := (hK.trans hKs17).grown hgr18 (fun k hk => Nat.le_trans hW2w ((hO17.lt k hk).1))
                have hnu : ∀ b c f, (u16.alloc (.cells #[(.slice (some ⟨g16, 0, none⟩) k16 c16)] 130)).heap[b]? = some (.cells c 69 f) → ¬ (Value.slice sa i cap).ownBlock = some b := fun b c f h => own_not hO17 (by decide) h
                have hTy18 : ∀ t, t < i → TyNat w18 (P t) (partZ T F n t) := fun t ht => ((hTy t ht).kept hKs17).keptX hXg hnu
                have hTn18 := hTy16.keptX hXg hnu
                have hsz18 : W2.heap.size ≤ w18.heap.size := Nat.le_trans hB17 hXg.size
                obtain ⟨va18, vc18, rfl⟩ := own_shape hO18
                obtain ⟨x0, x1, x2, x3⟩ := bx2_cells hb18
                refine hK18.out _ _ ?_ (fun hHeld => ?_)
                · (try dsimp only)
                  exact x1
                (try simp only [Act.put, List.setIfInBounds_toArray, List.set_cons_zero, List.set_cons_succ])
                refine wpAnyH_take (i := 19) (oi := { dst := some 73, op := Go.Op.fieldAddr 101 (Go.Operand.tmp 6) 0, type := 0, pos := "load.go:35", after := #[{ on := 0, ground := Go.Ground.phase }, { on := 1, ground := Go.Ground.phase }, { on := 2, ground := Go.Ground.phase }, { on := 3, ground := Go.Ground.phase }, { on := 4, ground := Go.Ground.phase }, { on := 5, ground := Go.Ground.phase }, { on := 6, ground := Go.Ground.phase }, { on := 7, ground := Go.Ground.phase }, { on := 8, ground := Go.Ground.phase }, { on := 9, ground := Go.Ground.phase }, { on := 10, ground := Go.Ground.phase }, { on := 11, ground := Go.Ground.phase }, { on := 12, ground := Go.Ground.phase }, { on := 13, ground := Go.Ground.phase }, { on := 14, ground := Go.Ground.phase }, { on := 15, ground := Go.Ground.phase }, { on := 16, ground := Go.Ground.phase }, { on := 17, ground := Go.Ground.phase }, { on := 18, ground := Go.Ground.phase }], guard := none }) (v := ?v44) rfl (by kernel_rfl) (by kernel_rfl) (by kernel_rfl) (fun _ _ _ h => h) (Or.inl ⟨by rfl, ?hy44⟩) (by assumption) ?rs44
                case hy44 =>
                  intro w hSw
                  (try dsimp only at hSw)
                  go_simp
                  try with_reducible rfl
                (try simp only [Act.put, List.setIfInBounds_toArray, List.set_cons_zero, List.set_cons_succ])
                refine wpAnyH_ready (rs := [20]) (by kernel_rfl) (by simp) ?_
                refine AllReadyH.cons (o := { dst := none, op := Go.Op.store 98 (Go.Operand.tmp 73) (Go.Operand.tmp 72), type := 0, pos := "load.go:35", after := #[{ on := 19, ground := Go.Ground.data }, { on := 18, ground := Go.Ground.data }, { on := 18, ground := Go.Ground.chain }, { on := 0, ground := Go.Ground.phase }, { on := 1, ground := Go.Ground.phase }, { on := 2, ground := Go.Ground.phase }, { on := 3, ground := Go.Ground.phase }, { on := 4, ground := Go.Ground.phase }, { on := 5, ground := Go.Ground.phase }, { on := 6, ground := Go.Ground.phase }, { on := 7, ground := Go.Ground.phase }, { on := 8, ground := Go.Ground.phase }, { on := 9, ground := Go.Ground.phase }, { on := 10, ground := Go.Ground.phase }, { on := 11, ground := Go.Ground.phase }, { on := 12, ground := Go.Ground.phase }, { on := 13, ground := Go.Ground.phase }, { on := 14, ground := Go.Ground.phase }, { on := 15, ground := Go.Ground.phase }, { on := 16, ground := Go.Ground.phase }, { on := 17, ground := Go.Ground.phase }, { on := 18, ground := Go.Ground.phase }], guard := none }) rfl (fun K20 hK20 => ?_) AllReadyH.nil
                go_simp
                skip
                (try go_wp2_with fail)
                have hX20 : KeptX (fun k => k = z6) w18 (w18.setCell ⟨z6, 0, none⟩ (.slice va18 (i + 1) vc18)) := (KeptX.refl (fun k => k = z6) w18).setIn 0 _
                have hb20 := bx2_set0 hb18 (.slice va18 (i + 1) vc18)
                have hr20 := hr18.setOther (a := ⟨z6, 0, none⟩) nrz (.slice va18 (i + 1) vc18)
                have hf20 := hf18.setOther (a := ⟨z6, 0, none⟩) (Ne.symm nzf) (.slice va18 (i + 1) vc18)
                have ht20 := ht18.setOther (a := ⟨z6, 0, none⟩) (Ne.symm nzt) (.slice va18 (i + 1) vc18)
                have hO20 := own_keptY hO18 hX20 (fun b c f _ hb h => by omega)
                have hz6t : ∀ b c f, w18.heap[b]? = some (.cells c 69 f) → ¬ b = z6 := fun b c f h e => by
                  subst e
                  obtain ⟨cur, hh, _⟩ := id hb18
                  rw [h] at hh
                  injection hh with hh
                  injection hh with _ hh
                  exact absurd hh (by decide)
                have hTy20 : ∀ t, t < i → TyNat (w18.setCell ⟨z6, 0, none⟩ (.slice va18 (i + 1) vc18)) (P t) (partZ T F n t) := fun t ht => (hTy18 t ht).keptX hX20 hz6t
                have hTn20 := hTn18.keptX hX20 hz6t
                have hKw20 := hKw18.setCell (p := ⟨z6, 0, none⟩) hz6w (.slice va18 (i + 1) vc18)
                have hsz20 : W2.heap.size ≤ (w18.setCell ⟨z6, 0, none⟩ (.slice va18 (i + 1) vc18)).heap.size := by rw [World.size_setCell]; exact hsz18
                refine hK20.out _ _ ?_ (fun hHeld => ?_)
                · (try dsimp only)
                  exact (bx2_cells hb20).2.1
                (try simp only [Act.put, List.setIfInBounds_toArray, List.set_cons_zero, List.set_cons_succ])
                refine wpAnyH_done (by kernel_rfl) ?_ _
                have HALL : Hid (∀ t, t < i + 1 → TyNat (w18.setCell ⟨z6, 0, none⟩ (.slice va18 (i + 1) vc18)) (updV P i (.slice (some ⟨g16, 0, none⟩) k16 c16) t) (partZ T F n t)) := fun t ht => by
                  unfold updV
                  by_cases e : t = i
                  · rw [if_pos e, e]; exact hTn20
                  · rw [if_neg e]; exact hTy20 t (by omega)
                have HOV : Hid ((w18.setCell ⟨z6, 0, none⟩ (.slice va18 (i + 1) vc18)).ownsRow W2.heap.size 130 1 (.slice va18 (i + 1) vc18) (i + 1) (vals (updV P i (.slice (some ⟨g16, 0, none⟩) k16 c16)) (i + 1))) := by
                  show World.ownsRow _ _ _ _ _ _ _
                  rw [vals_succ]
                  exact hO20
                have HKW := Lib.hid hKw20
                have HSZ := Lib.hid hsz20
                have HR := Lib.hid (And.intro hr20 (And.intro hb20 (And.intro hf20 ht20)))
                generalize (w18.setCell ⟨z6, 0, none⟩ (.slice va18 (i + 1) vc18)) = WN at *
                clear hX20 hb20 hr20 hf20 ht20 hO20 hTy20 hTn20 hKw20 hsz20 hz6t hXg hb18 hr18 hf18 ht18 hKw18 hnu hTy18 hTn18 hsz18 x0 x1 x2 x3 hO18 hgr18 hO17 hTy16 hB17 hKs17 hu17 d017 dz17 hHeld hN6 hN12 hN13 hN15 hN16 hR16 hu6 hu12 hu13 hu15 hu16 d06 dz6 d012 dz12 d013 dz13 d015 dz15 d016 dz16
                go_wp2_with fail
                go_roundg (n - (i + 1))
                case measure => omega
                case rel => exact ⟨i + 1, _, _, by omega, rfl, by first | rfl | go_num, HKW.out, HSZ.out, HR.out.1, HR.out.2.1, HR.out.2.2.1, HR.out.2.2.2, HOV.out, HALL.out⟩
              · skip
                go_simp
                (go_at_call 80; refine (P2.out _ (by repeat (first | assumption | exact Kept.refl _ | apply Kept.drew | apply Kept.drewN | apply Kept.alloc | refine Kept.trans ?_ (by assumption)))).mono ?_; rintro e u12 ⟨v12, rfl, hN12, hu12⟩; obtain ⟨a12, k12, c12, rfl⟩ := natAt_slice hN12)
                (try go_wp2_with fail)
                have d012 := Kept.cellSome hu12 d06
                have dz12 := Kept.cellSome hu12 dz6
                refine hK12.out _ _ ?_ (fun hHeld => ?_)
                · (try dsimp only)
                  exact dz12
                (try simp only [Act.put, List.setIfInBounds_toArray, List.set_cons_zero, List.set_cons_succ])
                refine wpAnyH_ready (rs := [1, 13]) (by kernel_rfl) (by simp) ?_
                refine AllReadyH.cons (o := { dst := some 55, op := Go.Op.load 98 (Go.Operand.tmp 54), type := 98, pos := "load.go:35", after := #[{ on := 0, ground := Go.Ground.data }], guard := none }) rfl (fun K1 hK1 => ?_) (AllReadyH.cons (o := { dst := some 67, op := Go.Op.call { callee := Go.Callee.value (Go.Operand.func 81), args := #[Go.Operand.tmp 60, Go.Operand.tmp 66], argTypes := #[130, 130] }, type := 130, pos := "load.go:35", after := #[{ on := 6, ground := Go.Ground.data }, { on := 12, ground := Go.Ground.data }, { on := 12, ground := Go.Ground.chain }], guard := none }) rfl (fun K13 hK13 => ?_) AllReadyH.nil)
                · skip
                  go_simp
                  skip
                  (try go_wp2_with fail)
                  refine hK1.out _ _ ?_ (fun hHeld => ?_)
                  · (try dsimp only)
                    exact dz12
                  (try simp only [Act.put, List.setIfInBounds_toArray, List.set_cons_zero, List.set_cons_succ])
                  refine wpAnyH_ready (rs := [13]) (by kernel_rfl) (by simp) ?_
                  refine AllReadyH.cons (o := { dst := some 67, op := Go.Op.call { callee := Go.Callee.value (Go.Operand.func 81), args := #[Go.Operand.tmp 60, Go.Operand.tmp 66], argTypes := #[130, 130] }, type := 130, pos := "load.go:35", after := #[{ on := 6, ground := Go.Ground.data }, { on := 12, ground := Go.Ground.data }, { on := 12, ground := Go.Ground.chain }], guard := none }) rfl (fun K13 hK13 => ?_) AllReadyH.nil
                  go_simp
                  (go_at_call 81; refine (times_row _ _ _ _ _ (hN6.kept (by repeat (first | assumption | exact Kept.refl _ | apply Kept.drew | apply Kept.drewN | apply Kept.alloc | refine Kept.trans ?_ (by assumption)))) (hN12.kept (by repeat (first | assumption | exact Kept.refl _ | apply Kept.drew | apply Kept.drewN | apply Kept.alloc | refine Kept.trans ?_ (by assumption)))) HB1.out).mono ?_; rintro e u13 ⟨g13, k13, c13, N13, f13, rfl, hN13, hu13, _⟩)
                  (try go_wp2_with fail)
                  have d013 := Kept.cellSome hu13 d012
                  have dz13 := Kept.cellSome hu13 dz12
                  refine hK13.out _ _ ?_ (fun hHeld => ?_)
                  · (try dsimp only)
                    exact dz13
                  (try simp only [Act.put, List.setIfInBounds_toArray, List.set_cons_zero, List.set_cons_succ])
                  refine wpAnyH_ready (rs := [15]) (by kernel_rfl) (by simp) ?_
                  refine AllReadyH.cons (o := { dst := some 69, op := Go.Op.call { callee := Go.Callee.value (Go.Operand.func 82), args := #[Go.Operand.tmp 68], argTypes := #[69] }, type := 130, pos := "load.go:35", after := #[{ on := 14, ground := Go.Ground.data }, { on := 13, ground := Go.Ground.chain }], guard := none }) rfl (fun K15 hK15 => ?_) AllReadyH.nil
                  go_simp
                  (go_at_call 82; refine (SM.out _).mono ?_; rintro e u15 ⟨v15, rfl, hN15, hu15⟩; obtain ⟨a15, k15, c15, rfl⟩ := natAt_slice hN15)
                  (try go_wp2_with fail)
                  have d015 := Kept.cellSome hu15 d013
                  have dz15 := Kept.cellSome hu15 dz13
                  refine hK15.out _ _ ?_ (fun hHeld => ?_)
                  · (try dsimp only)
                    exact dz15
                  (try simp only [Act.put, List.setIfInBounds_toArray, List.set_cons_zero, List.set_cons_succ])
                  refine wpAnyH_ready (rs := [16]) (by kernel_rfl) (by simp) ?_
                  refine AllReadyH.cons (o := { dst := some 70, op := Go.Op.call { callee := Go.Callee.value (Go.Operand.func 81), args := #[Go.Operand.tmp 67, Go.Operand.tmp 69], argTypes := #[130, 130] }, type := 130, pos := "load.go:35", after := #[{ on := 13, ground := Go.Ground.data }, { on := 15, ground := Go.Ground.data }, { on := 15, ground := Go.Ground.chain }], guard := none }) rfl (fun K16 hK16 => ?_) AllReadyH.nil
                  go_simp
                  (go_at_call 81; refine (times_row _ _ _ _ _ (hN13.kept (by repeat (first | assumption | exact Kept.refl _ | apply Kept.drew | apply Kept.drewN | apply Kept.alloc | refine Kept.trans ?_ (by assumption)))) (hN15.kept (by repeat (first | assumption | exact Kept.refl _ | apply Kept.drew | apply Kept.drewN | apply Kept.alloc | refine Kept.trans ?_ (by assumption)))) HB2.out).mono ?_; rintro e u16 ⟨g16, k16, c16, N16, f16, rfl, hN16, hu16, hR16⟩)
                  (try go_wp2_with fail)
                  have d016 := Kept.cellSome hu16 d015
                  have dz16 := Kept.cellSome hu16 dz15
                  refine hK16.out _ _ ?_ (fun hHeld => ?_)
                  · (try dsimp only)
                    exact dz16
                  (try simp only [Act.put, List.setIfInBounds_toArray, List.set_cons_zero, List.set_cons_succ])
                  refine wpAnyH_ready (rs := [17]) (by kernel_rfl) (by simp) ?_
                  refine AllReadyH.cons (o := { dst := some 71, op := Go.Op.buildSlice 98 1 #[(0, Go.Operand.tmp 70)], type := 98, pos := "load.go:35", after := #[{ on := 16, ground := Go.Ground.data }], guard := none }) rfl (fun K17 hK17 => ?_) AllReadyH.nil
                  go_simp
                  skip
                  (try go_wp2_with fail)
                  have hu17 : Kept u16 (u16.alloc (.cells #[(.slice (some ⟨g16, 0, none⟩) k16 c16)] 130)) := (Kept.refl u16).alloc _
                  have d017 := Kept.cellSome hu17 d016
                  have dz17 := Kept.cellSome hu17 dz16
                  have hKs17 : Kept wr (u16.alloc (.cells #[(.slice (some ⟨g16, 0, none⟩) k16 c16)] 130)) := Kept.trans (show Kept wr u16 from (by repeat (first | assumption | exact Kept.refl _ | apply Kept.drew | apply Kept.drewN | apply Kept.alloc | refine Kept.trans ?_ (by assumption)))) hu17
                  have hO17 := own_keptY hO hKs17 (fun _ _ _ _ _ h => h)
                  have hTy16 : TyNat (u16.alloc (.cells #[(.slice (some ⟨g16, 0, none⟩) k16 c16)] 130)) (.slice (some ⟨g16, 0, none⟩) k16 c16) (partZ T F n i) := TyNat.kept ⟨_, _, _, _, _, rfl, by rw [← HPZ.out]; exact hN16, hR16⟩ hu17
                  have hB17 : W2.heap.size ≤ (u16.alloc (.cells #[(.slice (some ⟨g16, 0, none⟩) k16 c16)] 130)).heap.size := Nat.le_trans hsz hKs17.size
                  refine hK17.out _ _ ?_ (fun hHeld => ?_)
                  · (try dsimp only)
                    exact dz17
                  (try simp only [Act.put, List.setIfInBounds_toArray, List.set_cons_zero, List.set_cons_succ])
                  refine wpAnyH_ready (rs := [18]) (by kernel_rfl) (by simp) ?_
                  refine AllReadyH.cons (o := { dst := some 72, op := Go.Op.call { callee := Go.Callee.builtin Go.Builtin.append, args := #[Go.Operand.tmp 55, Go.Operand.tmp 71], argTypes := #[98, 98] }, type := 98, pos := "load.go:35", after := #[{ on := 1, ground := Go.Ground.data }, { on := 17, ground := Go.Ground.data }, { on := 16, ground := Go.Ground.chain }], guard := none }) rfl (fun K18 hK18 => ?_) AllReadyH.nil
                  rw [if_pos (by rfl)]
                  refine wp_append_own _ _ _ 98 rfl W2.heap.size 130 i0 (.slice none 0 0) 1 24 Tryz.underlying98 hi0 hz0 hz1 hz2 rfl (by decide) _ _ _ (by rfl) hO17 ⟨u16.heap.size, 0, none⟩ 1 1 [(.slice (some ⟨g16, 0, none⟩) k16 c16)] (by rfl) rfl (cell_one_new _ _ _) ?c2 ?c3 ?c4 ?c5 ?_
                  case c2 => simp [Value.oneCell']
                  case c3 => unfold maxLen; omega
                  case c4 => omega
                  case c5 => exact hB17
                  intro v18 w18 hO18 hgr18 _
                  have hXg : KeptX (fun k => (Value.slice sa i cap).ownBlock = some k) (u16.alloc (.cells #[(.slice (some ⟨g16, 0, none⟩) k16 c16)] 130)) w18 := KeptX.grown (KeptX.refl _ _) hgr18 (fun k hk => Or.inl hk)
                  have hb18 := hXg.row (hKs17.row hb) (own_below hO17 hz6B)
                  have hr18 := hXg.row (hKs17.row hr) (own_below hO17 hr4B)
                  have hf18 := hXg.row (hKs17.row hRf) (own_below hO17 hgfB)
                  have ht18 := hXg.row (hKs17.row hRt) (own_below hO17 hgtB)
                  have hKw18 : Kept w w18 := (hK.trans hKs17).grown hgr18 (fun k hk => Nat.le_trans hW2w ((hO17.lt k hk).1))
                  have hnu : ∀ b c f, (u16.alloc (.cells #[(.slice (some ⟨g16, 0, none⟩) k16 c16)] 130)).heap[b]? = some (.cells c 69 f) → ¬ (Value.slice sa i cap).ownBlock = some b := fun b c f h => own_not hO17 (by decide) h
                  have hTy18 : ∀ t, t < i → TyNat w18 (P t) (partZ T F n t) := fun t ht => ((hTy t ht).kept hKs17).keptX hXg hnu
                  have hTn18 := hTy16.keptX hXg hnu
                  have hsz18 : W2.heap.size ≤ w18.heap.size := Nat.le_trans hB17 hXg.size
                  obtain ⟨va18, vc18, rfl⟩ := own_shape hO18
                  obtain ⟨x0, x1, x2, x3⟩ := bx2_cells hb18
                  refine hK18.out _ _ ?_ (fun hHeld => ?_)
                  · (try dsimp only)
                    exact x1
                  (try simp only [Act.put, List.setIfInBounds_toArray, List.set_cons_zero, List.set_cons_succ])
                  refine wpAnyH_take (i := 19) (oi := { dst := some 73, op := Go.Op.fieldAddr 101 (Go.Operand.tmp 6) 0, type := 0, pos := "load.go:35", after := #[{ on := 0, ground := Go.Ground.phase }, { on := 1, ground := Go.Ground.phase }, { on := 2, ground := Go.Ground.phase }, { on := 3, ground := Go.Ground.phase }, { on := 4, ground := Go.Ground.phase }, { on := 5, ground := Go.Ground.phase }, { on := 6, ground := Go.Ground.phase }, { on := 7, ground := Go.Ground.phase }, { on := 8, ground := Go.Ground.phase }, { on := 9, ground := Go.Ground.phase }, { on := 10, ground := Go.Ground.phase }, { on := 11, ground := Go.Ground.phase }, { on := 12, ground := Go.Ground.phase }, { on := 13, ground := Go.Ground.phase }, { on := 14, ground := Go.Ground.phase }, { on := 15, ground := Go.Ground.phase }, { on := 16, ground := Go.Ground.phase }, { on := 17, ground := Go.Ground.phase }, { on := 18, ground := Go.Ground.phase }], guard := none }) (v := ?v45) rfl (by kernel_rfl) (by kernel_rfl) (by kernel_rfl) (fun _ _ _ h => h) (Or.inl ⟨by rfl, ?hy45⟩) (by assumption) ?rs45
                  case hy45 =>
                    intro w hSw
                    (try dsimp only at hSw)
                    go_simp
                    try with_reducible rfl
                  (try simp only [Act.put, List.setIfInBounds_toArray, List.set_cons_zero, List.set_cons_succ])
                  refine wpAnyH_ready (rs := [20]) (by kernel_rfl) (by simp) ?_
                  refine AllReadyH.cons (o := { dst := none, op := Go.Op.store 98 (Go.Operand.tmp 73) (Go.Operand.tmp 72), type := 0, pos := "load.go:35", after := #[{ on := 19, ground := Go.Ground.data }, { on := 18, ground := Go.Ground.data }, { on := 18, ground := Go.Ground.chain }, { on := 0, ground := Go.Ground.phase }, { on := 1, ground := Go.Ground.phase }, { on := 2, ground := Go.Ground.phase }, { on := 3, ground := Go.Ground.phase }, { on := 4, ground := Go.Ground.phase }, { on := 5, ground := Go.Ground.phase }, { on := 6, ground := Go.Ground.phase }, { on := 7, ground := Go.Ground.phase }, { on := 8, ground := Go.Ground.phase }, { on := 9, ground := Go.Ground.phase }, { on := 10, ground := Go.Ground.phase }, { on := 11, ground := Go.Ground.phase }, { on := 12, ground := Go.Ground.phase }, { on := 13, ground := Go.Ground.phase }, { on := 14, ground := Go.Ground.phase }, { on := 15, ground := Go.Ground.phase }, { on := 16, ground := Go.Ground.phase }, { on := 17, ground := Go.Ground.phase }, { on := 18, ground := Go.Ground.phase }], guard := none }) rfl (fun K20 hK20 => ?_) AllReadyH.nil
                  go_simp
                  skip
                  (try go_wp2_with fail)
                  have hX20 : KeptX (fun k => k = z6) w18 (w18.setCell ⟨z6, 0, none⟩ (.slice va18 (i + 1) vc18)) := (KeptX.refl (fun k => k = z6) w18).setIn 0 _
                  have hb20 := bx2_set0 hb18 (.slice va18 (i + 1) vc18)
                  have hr20 := hr18.setOther (a := ⟨z6, 0, none⟩) nrz (.slice va18 (i + 1) vc18)
                  have hf20 := hf18.setOther (a := ⟨z6, 0, none⟩) (Ne.symm nzf) (.slice va18 (i + 1) vc18)
                  have ht20 := ht18.setOther (a := ⟨z6, 0, none⟩) (Ne.symm nzt) (.slice va18 (i + 1) vc18)
                  have hO20 := own_keptY hO18 hX20 (fun b c f _ hb h => by omega)
                  have hz6t : ∀ b c f, w18.heap[b]? = some (.cells c 69 f) → ¬ b = z6 := fun b c f h e => by
                    subst e
                    obtain ⟨cur, hh, _⟩ := id hb18
                    rw [h] at hh
                    injection hh with hh
                    injection hh with _ hh
                    exact absurd hh (by decide)
                  have hTy20 : ∀ t, t < i → TyNat (w18.setCell ⟨z6, 0, none⟩ (.slice va18 (i + 1) vc18)) (P t) (partZ T F n t) := fun t ht => (hTy18 t ht).keptX hX20 hz6t
                  have hTn20 := hTn18.keptX hX20 hz6t
                  have hKw20 := hKw18.setCell (p := ⟨z6, 0, none⟩) hz6w (.slice va18 (i + 1) vc18)
                  have hsz20 : W2.heap.size ≤ (w18.setCell ⟨z6, 0, none⟩ (.slice va18 (i + 1) vc18)).heap.size := by rw [World.size_setCell]; exact hsz18
                  refine hK20.out _ _ ?_ (fun hHeld => ?_)
                  · (try dsimp only)
                    exact (bx2_cells hb20).2.1
                  (try simp only [Act.put, List.setIfInBounds_toArray, List.set_cons_zero, List.set_cons_succ])
                  refine wpAnyH_done (by kernel_rfl) ?_ _
                  have HALL : Hid (∀ t, t < i + 1 → TyNat (w18.setCell ⟨z6, 0, none⟩ (.slice va18 (i + 1) vc18)) (updV P i (.slice (some ⟨g16, 0, none⟩) k16 c16) t) (partZ T F n t)) := fun t ht => by
                    unfold updV
                    by_cases e : t = i
                    · rw [if_pos e, e]; exact hTn20
                    · rw [if_neg e]; exact hTy20 t (by omega)
                  have HOV : Hid ((w18.setCell ⟨z6, 0, none⟩ (.slice va18 (i + 1) vc18)).ownsRow W2.heap.size 130 1 (.slice va18 (i + 1) vc18) (i + 1) (vals (updV P i (.slice (some ⟨g16, 0, none⟩) k16 c16)) (i + 1))) := by
                    show World.ownsRow _ _ _ _ _ _ _
                    rw [vals_succ]
                    exact hO20
                  have HKW := Lib.hid hKw20
                  have HSZ := Lib.hid hsz20
                  have HR := Lib.hid (And.intro hr20 (And.intro hb20 (And.intro hf20 ht20)))
                  generalize (w18.setCell ⟨z6, 0, none⟩ (.slice va18 (i + 1) vc18)) = WN at *
                  clear hX20 hb20 hr20 hf20 ht20 hO20 hTy20 hTn20 hKw20 hsz20 hz6t hXg hb18 hr18 hf18 ht18 hKw18 hnu hTy18 hTn18 hsz18 x0 x1 x2 x3 hO18 hgr18 hO17 hTy16 hB17 hKs17 hu17 d017 dz17 hHeld hN6 hN12 hN13 hN15 hN16 hR16 hu6 hu12 hu13 hu15 hu16 d06 dz6 d012 dz12 d013 dz13 d015 dz15 d016 dz16
                  go_wp2_with fail
                  go_roundg (n - (i + 1))
                  case measure => omega
                  case rel => exact ⟨i + 1, _, _, by omega, rfl, by first | rfl | go_num, HKW.out, HSZ.out, HR.out.1, HR.out.2.1, HR.out.2.2.1, HR.out.2.2.2, HOV.out, HALL.out⟩
                · skip
                  go_simp
                  (go_at_call 81; refine (times_row _ _ _ _ _ (hN6.kept (by repeat (first | assumption | exact Kept.refl _ | apply Kept.drew | apply Kept.drewN | apply Kept.alloc | refine Kept.trans ?_ (by assumption)))) (hN12.kept (by repeat (first | assumption | exact Kept.refl _ | apply Kept.drew | apply Kept.drewN | apply Kept.alloc | refine Kept.trans ?_ (by assumption)))) HB1.out).mono ?_; rintro e u13 ⟨g13, k13, c13, N13, f13, rfl, hN13, hu13, _⟩)
                  (try go_wp2_with fail)
                  have d013 := Kept.cellSome hu13 d012
                  have dz13 := Kept.cellSome hu13 dz12
                  refine hK13.out _ _ ?_ (fun hHeld => ?_)
                  · (try dsimp only)
                    exact dz13
                  (try simp only [Act.put, List.setIfInBounds_toArray, List.set_cons_zero, List.set_cons_succ])
                  refine wpAnyH_ready (rs := [1, 15]) (by kernel_rfl) (by simp) ?_
                  refine AllReadyH.cons (o := { dst := some 55, op := Go.Op.load 98 (Go.Operand.tmp 54), type := 98, pos := "load.go:35", after := #[{ on := 0, ground := Go.Ground.data }], guard := none }) rfl (fun K1 hK1 => ?_) (AllReadyH.cons (o := { dst := some 69, op := Go.Op.call { callee := Go.Callee.value (Go.Operand.func 82), args := #[Go.Operand.tmp 68], argTypes := #[69] }, type := 130, pos := "load.go:35", after := #[{ on := 14, ground := Go.Ground.data }, { on := 13, ground := Go.Ground.chain }], guard := none }) rfl (fun K15 hK15 => ?_) AllReadyH.nil)
                  · skip
                    go_simp
                    skip
                    (try go_wp2_with fail)
                    refine hK1.out _ _ ?_ (fun hHeld => ?_)
                    · (try dsimp only)
                      exact dz13
                    (try simp only [Act.put, List.setIfInBounds_toArray, List.set_cons_zero, List.set_cons_succ])
                    refine wpAnyH_ready (rs := [15]) (by kernel_rfl) (by simp) ?_
                    refine AllReadyH.cons (o := { dst := some 69, op := Go.Op.call { callee := Go.Callee.value (Go.Operand.func 82), args := #[Go.Operand.tmp 68], argTypes := #[69] }, type := 130, pos := "load.go:35", after := #[{ on := 14, ground := Go.Ground.data }, { on := 13, ground := Go.Ground.chain }], guard := none }) rfl (fun K15 hK15 => ?_) AllReadyH.nil
                    go_simp
                    (go_at_call 82; refine (SM.out _).mono ?_; rintro e u15 ⟨v15, rfl, hN15, hu15⟩; obtain ⟨a15, k15, c15, rfl⟩ := natAt_slice hN15)
                    (try go_wp2_with fail)
                    have d015 := Kept.cellSome hu15 d013
                    have dz15 := Kept.cellSome hu15 dz13
                    refine hK15.out _ _ ?_ (fun hHeld => ?_)
                    · (try dsimp only)
                      exact dz15
                    (try simp only [Act.put, List.setIfInBounds_toArray, List.set_cons_zero, List.set_cons_succ])
                    refine wpAnyH_ready (rs := [16]) (by kernel_rfl) (by simp) ?_
                    refine AllReadyH.cons (o := { dst := some 70, op := Go.Op.call { callee := Go.Callee.value (Go.Operand.func 81), args := #[Go.Operand.tmp 67, Go.Operand.tmp 69], argTypes := #[130, 130] }, type := 130, pos := "load.go:35", after := #[{ on := 13, ground := Go.Ground.data }, { on := 15, ground := Go.Ground.data }, { on := 15, ground := Go.Ground.chain }], guard := none }) rfl (fun K16 hK16 => ?_) AllReadyH.nil
                    go_simp
                    (go_at_call 81; refine (times_row _ _ _ _ _ (hN13.kept (by repeat (first | assumption | exact Kept.refl _ | apply Kept.drew | apply Kept.drewN | apply Kept.alloc | refine Kept.trans ?_ (by assumption)))) (hN15.kept (by repeat (first | assumption | exact Kept.refl _ | apply Kept.drew | apply Kept.drewN | apply Kept.alloc | refine Kept.trans ?_ (by assumption)))) HB2.out).mono ?_; rintro e u16 ⟨g16, k16, c16, N16, f16, rfl, hN16, hu16, hR16⟩)
                    (try go_wp2_with fail)
                    have d016 := Kept.cellSome hu16 d015
                    have dz16 := Kept.cellSome hu16 dz15
                    refine hK16.out _ _ ?_ (fun hHeld => ?_)
                    · (try dsimp only)
                      exact dz16
                    (try simp only [Act.put, List.setIfInBounds_toArray, List.set_cons_zero, List.set_cons_succ])
                    refine wpAnyH_ready (rs := [17]) (by kernel_rfl) (by simp) ?_
                    refine AllReadyH.cons (o := { dst := some 71, op := Go.Op.buildSlice 98 1 #[(0, Go.Operand.tmp 70)], type := 98, pos := "load.go:35", after := #[{ on := 16, ground := Go.Ground.data }], guard := none }) rfl (fun K17 hK17 => ?_) AllReadyH.nil
                    go_simp
                    skip
                    (try go_wp2_with fail)
                    have hu17 : Kept u16 (u16.alloc (.cells #[(.slice (some ⟨g16, 0, none⟩) k16 c16)] 130)) := (Kept.refl u16).alloc _
                    have d017 := Kept.cellSome hu17 d016
                    have dz17 := Kept.cellSome hu17 dz16
                    have hKs17 : Kept wr (u16.alloc (.cells #[(.slice (some ⟨g16, 0, none⟩) k16 c16)] 130)) := Kept.trans (show Kept wr u16 from (by repeat (first | assumption | exact Kept.refl _ | apply Kept.drew | apply Kept.drewN | apply Kept.alloc | refine Kept.trans ?_ (by assumption)))) hu17
                    have hO17 := own_keptY hO hKs17 (fun _ _ _ _ _ h => h)
                    have hTy16 : TyNat (u16.alloc (.cells #[(.slice (some ⟨g16, 0, none⟩) k16 c16)] 130)) (.slice (some ⟨g16, 0, none⟩) k16 c16) (partZ T F n i) := TyNat.kept ⟨_, _, _, _, _, rfl, by rw [← HPZ.out]; exact hN16, hR16⟩ hu17
                    have hB17 : W2.heap.size ≤ (u16.alloc (.cells #[(.slice (some ⟨g16, 0, none⟩) k16 c16)] 130)).heap.size := Nat.le_trans hsz hKs17.size
                    refine hK17.out _ _ ?_ (fun hHeld => ?_)
                    · (try dsimp only)
                      exact dz17
                    (try simp only [Act.put, List.setIfInBounds_toArray, List.set_cons_zero, List.set_cons_succ])
                    refine wpAnyH_ready (rs := [18]) (by kernel_rfl) (by simp) ?_
                    refine AllReadyH.cons (o := { dst := some 72, op := Go.Op.call { callee := Go.Callee.builtin Go.Builtin.append, args := #[Go.Operand.tmp 55, Go.Operand.tmp 71], argTypes := #[98, 98] }, type := 98, pos := "load.go:35", after := #[{ on := 1, ground := Go.Ground.data }, { on := 17, ground := Go.Ground.data }, { on := 16, ground := Go.Ground.chain }], guard := none }) rfl (fun K18 hK18 => ?_) AllReadyH.nil
                    rw [if_pos (by rfl)]
                    refine wp_append_own _ _ _ 98 rfl W2.heap.size 130 i0 (.slice none 0 0) 1 24 Tryz.underlying98 hi0 hz0 hz1 hz2 rfl (by decide) _ _ _ (by rfl) hO17 ⟨u16.heap.size, 0, none⟩ 1 1 [(.slice (some ⟨g16, 0, none⟩) k16 c16)] (by rfl) rfl (cell_one_new _ _ _) ?c2 ?c3 ?c4 ?c5 ?_
                    case c2 => simp [Value.oneCell']
                    case c3 => unfold maxLen; omega
                    case c4 => omega
                    case c5 => exact hB17
                    intro v18 w18 hO18 hgr18 _
                    have hXg : KeptX (fun k => (Value.slice sa i cap).ownBlock = some k) (u16.alloc (.cells #[(.slice (some ⟨g16, 0, none⟩) k16 c16)] 130)) w18 := KeptX.grown (KeptX.refl _ _) hgr18 (fun k hk => Or.inl hk)
                    have hb18 := hXg.row (hKs17.row hb) (own_below hO17 hz6B)
                    have hr18 := hXg.row (hKs17.row hr) (own_below hO17 hr4B)
                    have hf18 := hXg.row (hKs17.row hRf) (own_below hO17 hgfB)
                    have ht18 := hXg.row (hKs17.row hRt) (own_below hO17 hgtB)
                    have hKw18 : Kept w w18 := (hK.trans hKs17).grown hgr18 (fun k hk => Nat.le_trans hW2w ((hO17.lt k hk).1))
                    have hnu : ∀ b c f, (u16.alloc (.cells #[(.slice (some ⟨g16, 0, none⟩) k16 c16)] 130)).heap[b]? = some (.cells c 69 f) → ¬ (Value.slice sa i cap).ownBlock = some b := fun b c f h => own_not hO17 (by decide) h
                    have hTy18 : ∀ t, t < i → TyNat w18 (P t) (partZ T F n t) := fun t ht => ((hTy t ht).kept hKs17).keptX hXg hnu
                    have hTn18 := hTy16.keptX hXg hnu
                    have hsz18 : W2.heap.size ≤ w18.heap.size := Nat.le_trans hB17 hXg.size
                    obtain ⟨va18, vc18, rfl⟩ := own_shape hO18
                    obtain ⟨x0, x1, x2, x3⟩ := bx2_cells hb18
                    refine hK18.out _ _ ?_ (fun hHeld => ?_)
                    · (try dsimp only)
                      exact x1
                    (try simp only [Act.put, List.setIfInBounds_toArray, List.set_cons_zero, List.set_cons_succ])
                    refine wpAnyH_take (i := 19) (oi := { dst := some 73, op := Go.Op.fieldAddr 101 (Go.Operand.tmp 6) 0, type := 0, pos := "load.go:35", after := #[{ on := 0, ground := Go.Ground.phase }, { on := 1, ground := Go.Ground.phase }, { on := 2, ground := Go.Ground.phase }, { on := 3, ground := Go.Ground.phase }, { on := 4, ground := Go.Ground.phase }, { on := 5, ground := Go.Ground.phase }, { on := 6, ground := Go.Ground.phase }, { on := 7, ground := Go.Ground.phase }, { on := 8, ground := Go.Ground.phase }, { on := 9, ground := Go.Ground.phase }, { on := 10, ground := Go.Ground.phase }, { on := 11, ground := Go.Ground.phase }, { on := 12, ground := Go.Ground.phase }, { on := 13, ground := Go.Ground.phase }, { on := 14, ground := Go.Ground.phase }, { on := 15, ground := Go.Ground.phase }, { on := 16, ground := Go.Ground.phase }, { on := 17, ground := Go.Ground.phase }, { on := 18, ground := Go.Ground.phase }], guard := none }) (v := ?v46) rfl (by kernel_rfl) (by kernel_rfl) (by kernel_rfl) (fun _ _ _ h => h) (Or.inl ⟨by rfl, ?hy46⟩) (by assumption) ?rs46
                    case hy46 =>
                      intro w hSw
                      (try dsimp only at hSw)
                      go_simp
                      try with_reducible rfl
                    (try simp only [Act.put, List.setIfInBounds_toArray, List.set_cons_zero, List.set_cons_succ])
                    refine wpAnyH_ready (rs := [20]) (by kernel_rfl) (by simp) ?_
                    refine AllReadyH.cons (o := { dst := none, op := Go.Op.store 98 (Go.Operand.tmp 73) (Go.Operand.tmp 72), type := 0, pos := "load.go:35", after := #[{ on := 19, ground := Go.Ground.data }, { on := 18, ground := Go.Ground.data }, { on := 18, ground := Go.Ground.chain }, { on := 0, ground := Go.Ground.phase }, { on := 1, ground := Go.Ground.phase }, { on := 2, ground := Go.Ground.phase }, { on := 3, ground := Go.Ground.phase }, { on := 4, ground := Go.Ground.phase }, { on := 5, ground := Go.Ground.phase }, { on := 6, ground := Go.Ground.phase }, { on := 7, ground := Go.Ground.phase }, { on := 8, ground := Go.Ground.phase }, { on := 9, ground := Go.Ground.phase }, { on := 10, ground := Go.Ground.phase }, { on := 11, ground := Go.Ground.phase }, { on := 12, ground := Go.Ground.phase }, { on := 13, ground := Go.Ground.phase }, { on := 14, ground := Go.Ground.phase }, { on := 15, ground := Go.Ground.phase }, { on := 16, ground := Go.Ground.phase }, { on := 17, ground := Go.Ground.phase }, { on := 18, ground := Go.Ground.phase }], guard := none }) rfl (fun K20 hK20 => ?_) AllReadyH.nil
                    go_simp
                    skip
                    (try go_wp2_with fail)
                    have hX20 : KeptX (fun k => k = z6) w18 (w18.setCell ⟨z6, 0, none⟩ (.slice va18 (i + 1) vc18)) := (KeptX.refl (fun k => k = z6) w18).setIn 0 _
                    have hb20 := bx2_set0 hb18 (.slice va18 (i + 1) vc18)
                    have hr20 := hr18.setOther (a := ⟨z6, 0, none⟩) nrz (.slice va18 (i + 1) vc18)
                    have hf20 := hf18.setOther (a := ⟨z6, 0, none⟩) (Ne.symm nzf) (.slice va18 (i + 1) vc18)
                    have ht20 := ht18.setOther (a := ⟨z6, 0, none⟩) (Ne.symm nzt) (.slice va18 (i + 1) vc18)
                    have hO20 := own_keptY hO18 hX20 (fun b c f _ hb h => by omega)
                    have hz6t : ∀ b c f, w18.heap[b]? = some (.cells c 69 f) → ¬ b = z6 := fun b c f h e => by
                      subst e
                      obtain ⟨cur, hh, _⟩ := id hb18
                      rw [h] at hh
                      injection hh with hh
                      injection hh with _ hh
                      exact absurd hh (by decide)
                    have hTy20 : ∀ t, t < i → TyNat (w18.setCell ⟨z6, 0, none⟩ (.slice va18 (i + 1) vc18)) (P t) (partZ T F n t) := fun t ht => (hTy18 t ht).keptX hX20 hz6t
                    have hTn20 := hTn18.keptX hX20 hz6t
                    have hKw20 := hKw18.setCell (p := ⟨z6, 0, none⟩) hz6w (.slice va18 (i + 1) vc18)
                    have hsz20 : W2.heap.size ≤ (w18.setCell ⟨z6, 0, none⟩ (.slice va18 (i + 1) vc18)).heap.size := by rw [World.size_setCell]; exact hsz18
                    refine hK20.out _ _ ?_ (fun hHeld => ?_)
                    · (try dsimp only)
                      exact (bx2_cells hb20).2.1
                    (try simp only [Act.put, List.setIfInBounds_toArray, List.set_cons_zero, List.set_cons_succ])
                    refine wpAnyH_done (by kernel_rfl) ?_ _
                    have HALL : Hid (∀ t, t < i + 1 → TyNat (w18.setCell ⟨z6, 0, none⟩ (.slice va18 (i + 1) vc18)) (updV P i (.slice (some ⟨g16, 0, none⟩) k16 c16) t) (partZ T F n t)) := fun t ht => by
                      unfold updV
                      by_cases e : t = i
                      · rw [if_pos e, e]; exact hTn20
                      · rw [if_neg e]; exact hTy20 t (by omega)
                    have HOV : Hid ((w18.setCell ⟨z6, 0, none⟩ (.slice va18 (i + 1) vc18)).ownsRow W2.heap.size 130 1 (.slice va18 (i + 1) vc18) (i + 1) (vals (updV P i (.slice (some ⟨g16, 0, none⟩) k16 c16)) (i + 1))) := by
                      show World.ownsRow _ _ _ _ _ _ _
                      rw [vals_succ]
                      exact hO20
                    have HKW := Lib.hid hKw20
                    have HSZ := Lib.hid hsz20
                    have HR := Lib.hid (And.intro hr20 (And.intro hb20 (And.intro hf20 ht20)))
                    generalize (w18.setCell ⟨z6, 0, none⟩ (.slice va18 (i + 1) vc18)) = WN at *
                    clear hX20 hb20 hr20 hf20 ht20 hO20 hTy20 hTn20 hKw20 hsz20 hz6t hXg hb18 hr18 hf18 ht18 hKw18 hnu hTy18 hTn18 hsz18 x0 x1 x2 x3 hO18 hgr18 hO17 hTy16 hB17 hKs17 hu17 d017 dz17 hHeld hN6 hN12 hN13 hN15 hN16 hR16 hu6 hu12 hu13 hu15 hu16 d06 dz6 d012 dz12 d013 dz13 d015 dz15 d016 dz16
                    go_wp2_with fail
                    go_roundg (n - (i + 1))
                    case measure => omega
                    case rel => exact ⟨i + 1, _, _, by omega, rfl, by first | rfl | go_num, HKW.out, HSZ.out, HR.out.1, HR.out.2.1, HR.out.2.2.1, HR.out.2.2.2, HOV.out, HALL.out⟩
                  · skip
                    go_simp
                    (go_at_call 82; refine (SM.out _).mono ?_; rintro e u15 ⟨v15, rfl, hN15, hu15⟩; obtain ⟨a15, k15, c15, rfl⟩ := natAt_slice hN15)
                    (try go_wp2_with fail)
                    have d015 := Kept.cellSome hu15 d013
                    have dz15 := Kept.cellSome hu15 dz13
                    refine hK15.out _ _ ?_ (fun hHeld => ?_)
                    · (try dsimp only)
                      exact dz15
                    (try simp only [Act.put, List.setIfInBounds_toArray, List.set_cons_zero, List.set_cons_succ])
                    refine wpAnyH_ready (rs := [1, 16]) (by kernel_rfl) (by simp) ?_
                    refine AllReadyH.cons (o := { dst := some 55, op := Go.Op.load 98 (Go.Operand.tmp 54), type := 98, pos := "load.go:35", after := #[{ on := 0, ground := Go.Ground.data }], guard := none }) rfl (fun K1 hK1 => ?_) (AllReadyH.cons (o := { dst := some 70, op := Go.Op.call { callee := Go.Callee.value (Go.Operand.func 81), args := #[Go.Operand.tmp 67, Go.Operand.tmp 69], argTypes := #[130, 130] }, type := 130, pos := "load.go:35", after := #[{ on := 13, ground := Go.Ground.data }, { on := 15, ground := Go.Ground.data }, { on := 15, ground := Go.Ground.chain }], guard := none }) rfl (fun K16 hK16 => ?_) AllReadyH.nil)
                    · skip
                      go_simp
                      skip
                      (try go_wp2_with fail)
                      refine hK1.out _ _ ?_ (fun hHeld => ?_)
                      · (try dsimp only)
                        exact dz15
                      (try simp only [Act.put, List.setIfInBounds_toArray, List.set_cons_zero, List.set_cons_succ])
                      refine wpAnyH_ready (rs := [16]) (by kernel_rfl) (by simp) ?_
                      refine AllReadyH.cons (o := { dst := some 70, op := Go.Op.call { callee := Go.Callee.value (Go.Operand.func 81), args := #[Go.Operand.tmp 67, Go.Operand.tmp 69], argTypes := #[130, 130] }, type := 130, pos := "load.go:35", after := #[{ on := 13, ground := Go.Ground.data }, { on := 15, ground := Go.Ground.data }, { on := 15, ground := Go.Ground.chain }], guard := none }) rfl (fun K16 hK16 => ?_) AllReadyH.nil
                      go_simp
                      (go_at_call 81; refine (times_row _ _ _ _ _ (hN13.kept (by repeat (first | assumption | exact Kept.refl _ | apply Kept.drew | apply Kept.drewN | apply Kept.alloc | refine Kept.trans ?_ (by assumption)))) (hN15.kept (by repeat (first | assumption | exact Kept.refl _ | apply Kept.drew | apply Kept.drewN | apply Kept.alloc | refine Kept.trans ?_ (by assumption)))) HB2.out).mono ?_; rintro e u16 ⟨g16, k16, c16, N16, f16, rfl, hN16, hu16, hR16⟩)
                      (try go_wp2_with fail)
                      have d016 := Kept.cellSome hu16 d015
                      have dz16 := Kept.cellSome hu16 dz15
                      refine hK16.out _ _ ?_ (fun hHeld => ?_)
                      · (try dsimp only)
                        exact dz16
                      (try simp only [Act.put, List.setIfInBounds_toArray, List.set_cons_zero, List.set_cons_succ])
                      refine wpAnyH_ready (rs := [17]) (by kernel_rfl) (by simp) ?_
                      refine AllReadyH.cons (o := { dst := some 71, op := Go.Op.buildSlice 98 1 #[(0, Go.Operand.tmp 70)], type := 98, pos := "load.go:35", after := #[{ on := 16, ground := Go.Ground.data }], guard := none }) rfl (fun K17 hK17 => ?_) AllReadyH.nil
                      go_simp
                      skip
                      (try go_wp2_with fail)
                      have hu17 : Kept u16 (u16.alloc (.cells #[(.slice (some ⟨g16, 0, none⟩) k16 c16)] 130)) := (Kept.refl u16).alloc _
                      have d017 := Kept.cellSome hu17 d016
                      have dz17 := Kept.cellSome hu17 dz16
                      have hKs17 : Kept wr (u16.alloc (.cells #[(.slice (some ⟨g16, 0, none⟩) k16 c16)] 130)) := Kept.trans (show Kept wr u16 from (by repeat (first | assumption | exact Kept.refl _ | apply Kept.drew | apply Kept.drewN | apply Kept.alloc | refine Kept.trans ?_ (by assumption)))) hu17
                      have hO17 := own_keptY hO hKs17 (fun _ _ _ _ _ h => h)
                      have hTy16 : TyNat (u16.alloc (.cells #[(.slice (some ⟨g16, 0, none⟩) k16 c16)] 130)) (.slice (some ⟨g16, 0, none⟩) k16 c16) (partZ T F n i) := TyNat.kept ⟨_, _, _, _, _, rfl, by rw [← HPZ.out]; exact hN16, hR16⟩ hu17
                      have hB17 : W2.heap.size ≤ (u16.alloc (.cells #[(.slice (some ⟨g16, 0, none⟩) k16 c16)] 130)).heap.size := Nat.le_trans hsz hKs17.size
                      refine hK17.out _ _ ?_ (fun hHeld => ?_)
                      · (try dsimp only)
                        exact dz17
                      (try simp only [Act.put, List.setIfInBounds_toArray, List.set_cons_zero, List.set_cons_succ])
                      refine wpAnyH_ready (rs := [18]) (by kernel_rfl) (by simp) ?_
                      refine AllReadyH.cons (o := { dst := some 72, op := Go.Op.call { callee := Go.Callee.builtin Go.Builtin.append, args := #[Go.Operand.tmp 55, Go.Operand.tmp 71], argTypes := #[98, 98] }, type := 98, pos := "load.go:35", after := #[{ on := 1, ground := Go.Ground.data }, { on := 17, ground := Go.Ground.data }, { on := 16, ground := Go.Ground.chain }], guard := none }) rfl (fun K18 hK18 => ?_) AllReadyH.nil
                      rw [if_pos (by rfl)]
                      refine wp_append_own _ _ _ 98 rfl W2.heap.size 130 i0 (.slice none 0 0) 1 24 Tryz.underlying98 hi0 hz0 hz1 hz2 rfl (by decide) _ _ _ (by rfl) hO17 ⟨u16.heap.size, 0, none⟩ 1 1 [(.slice (some ⟨g16, 0, none⟩) k16 c16)] (by rfl) rfl (cell_one_new _ _ _) ?c2 ?c3 ?c4 ?c5 ?_
                      case c2 => simp [Value.oneCell']
                      case c3 => unfold maxLen; omega
                      case c4 => omega
                      case c5 => exact hB17
                      intro v18 w18 hO18 hgr18 _
                      have hXg : KeptX (fun k => (Value.slice sa i cap).ownBlock = some k) (u16.alloc (.cells #[(.slice (some ⟨g16, 0, none⟩) k16 c16)] 130)) w18 := KeptX.grown (KeptX.refl _ _) hgr18 (fun k hk => Or.inl hk)
                      have hb18 := hXg.row (hKs17.row hb) (own_below hO17 hz6B)
                      have hr18 := hXg.row (hKs17.row hr) (own_below hO17 hr4B)
                      have hf18 := hXg.row (hKs17.row hRf) (own_below hO17 hgfB)
                      have ht18 := hXg.row (hKs17.row hRt) (own_below hO17 hgtB)
                      have hKw18 : Kept w w18 := (hK.trans hKs17).grown hgr18 (fun k hk => Nat.le_trans hW2w ((hO17.lt k hk).1))
                      have hnu : ∀ b c f, (u16.alloc (.cells #[(.slice (some ⟨g16, 0, none⟩) k16 c16)] 130)).heap[b]? = some (.cells c 69 f) → ¬ (Value.slice sa i cap).ownBlock = some b := fun b c f h => own_not hO17 (by decide) h
                      have hTy18 : ∀ t, t < i → TyNat w18 (P t) (partZ T F n t) := fun t ht => ((hTy t ht).kept hKs17).keptX hXg hnu
                      have hTn18 := hTy16.keptX hXg hnu
                      have hsz18 : W2.heap.size ≤ w18.heap.size := Nat.le_trans hB17 hXg.size
                      obtain ⟨va18, vc18, rfl⟩ := own_shape hO18
                      obtain ⟨x0, x1, x2, x3⟩ := bx2_cells hb18
                      refine hK18.out _ _ ?_ (fun hHeld => ?_)
                      · (try dsimp only)
                        exact x1
                      (try simp only [Act.put, List.setIfInBounds_toArray, List.set_cons_zero, List.set_cons_succ])
                      refine wpAnyH_take (i := 19) (oi := { dst := some 73, op := Go.Op.fieldAddr 101 (Go.Operand.tmp 6) 0, type := 0, pos := "load.go:35", after := #[{ on := 0, ground := Go.Ground.phase }, { on := 1, ground := Go.Ground.phase }, { on := 2, ground := Go.Ground.phase }, { on := 3, ground := Go.Ground.phase }, { on := 4, ground := Go.Ground.phase }, { on := 5, ground := Go.Ground.phase }, { on := 6, ground := Go.Ground.phase }, { on := 7, ground := Go.Ground.phase }, { on := 8, ground := Go.Ground.phase }, { on := 9, ground := Go.Ground.phase }, { on := 10, ground := Go.Ground.phase }, { on := 11, ground := Go.Ground.phase }, { on := 12, ground := Go.Ground.phase }, { on := 13, ground := Go.Ground.phase }, { on := 14, ground := Go.Ground.phase }, { on := 15, ground := Go.Ground.phase }, { on := 16, ground := Go.Ground.phase }, { on := 17, ground := Go.Ground.phase }, { on := 18, ground := Go.Ground.phase }], guard := none }) (v := ?v47) rfl (by kernel_rfl) (by kernel_rfl) (by kernel_rfl) (fun _ _ _ h => h) (Or.inl ⟨by rfl, ?hy47⟩) (by assumption) ?rs47
                      case hy47 =>
                        intro w hSw
                        (try dsimp only at hSw)
                        go_simp
                        try with_reducible rfl
                      (try simp only [Act.put, List.setIfInBounds_toArray, List.set_cons_zero, List.set_cons_succ])
                      refine wpAnyH_ready (rs := [20]) (by kernel_rfl) (by simp) ?_
                      refine AllReadyH.cons (o := { dst := none, op := Go.Op.store 98 (Go.Operand.tmp 73) (Go.Operand.tmp 72), type := 0, pos := "load.go:35", after := #[{ on := 19, ground := Go.Ground.data }, { on := 18, ground := Go.Ground.data }, { on := 18, ground := Go.Ground.chain }, { on := 0, ground := Go.Ground.phase }, { on := 1, ground := Go.Ground.phase }, { on := 2, ground := Go.Ground.phase }, { on := 3, ground := Go.Ground.phase }, { on := 4, ground := Go.Ground.phase }, { on := 5, ground := Go.Ground.phase }, { on := 6, ground := Go.Ground.phase }, { on := 7, ground := Go.Ground.phase }, { on := 8, ground := Go.Ground.phase }, { on := 9, ground := Go.Ground.phase }, { on := 10, ground := Go.Ground.phase }, { on := 11, ground := Go.Ground.phase }, { on := 12, ground := Go.Ground.phase }, { on := 13, ground := Go.Ground.phase }, { on := 14, ground := Go.Ground.phase }, { on := 15, ground := Go.Ground.phase }, { on := 16, ground := Go.Ground.phase }, { on := 17, ground := Go.Ground.phase }, { on := 18, ground := Go.Ground.phase }], guard := none }) rfl (fun K20 hK20 => ?_) AllReadyH.nil
                      go_simp
                      skip
                      (try go_wp2_with fail)
                      have hX20 : KeptX (fun k => k = z6) w18 (w18.setCell ⟨z6, 0, none⟩ (.slice va18 (i + 1) vc18)) := (KeptX.refl (fun k => k = z6) w18).setIn 0 _
                      have hb20 := bx2_set0 hb18 (.slice va18 (i + 1) vc18)
                      have hr20 := hr18.setOther (a := ⟨z6, 0, none⟩) nrz (.slice va18 (i + 1) vc18)
                      have hf20 := hf18.setOther (a := ⟨z6, 0, none⟩) (Ne.symm nzf) (.slice va18 (i + 1) vc18)
                      have ht20 := ht18.setOther (a := ⟨z6, 0, none⟩) (Ne.symm nzt) (.slice va18 (i + 1) vc18)
                      have hO20 := own_keptY hO18 hX20 (fun b c f _ hb h => by omega)
                      have hz6t : ∀ b c f, w18.heap[b]? = some (.cells c 69 f) → ¬ b = z6 := fun b c f h e => by
                        subst e
                        obtain ⟨cur, hh, _⟩ := id hb18
                        rw [h] at hh
                        injection hh with hh
                        injection hh with _ hh
                        exact absurd hh (by decide)
                      have hTy20 : ∀ t, t < i → TyNat (w18.setCell ⟨z6, 0, none⟩ (.slice va18 (i + 1) vc18)) (P t) (partZ T F n t) := fun t ht => (hTy18 t ht).keptX hX20 hz6t
                      have hTn20 := hTn18.keptX hX20 hz6t
                      have hKw20 := hKw18.setCell (p := ⟨z6, 0, none⟩) hz6w (.slice va18 (i + 1) vc18)
                      have hsz20 : W2.heap.size ≤ (w18.setCell ⟨z6, 0, none⟩ (.slice va18 (i + 1) vc18)).heap.size := by rw [World.size_setCell]; exact hsz18
                      refine hK20.out _ _ ?_ (fun hHeld => ?_)
                      · (try dsimp only)
                        exact (bx2_cells hb20).2.1
                      (try simp only [Act.put, List.setIfInBounds_toArray, List.set_cons_zero, List.set_cons_succ])
                      refine wpAnyH_done (by kernel_rfl) ?_ _
                      have HALL : Hid (∀ t, t < i + 1 → TyNat (w18.setCell ⟨z6, 0, none⟩ (.slice va18 (i + 1) vc18)) (updV P i (.slice (some ⟨g16, 0, none⟩) k16 c16) t) (partZ T F n t)) := fun t ht => by
                        unfold updV
                        by_cases e : t = i
                        · rw [if_pos e, e]; exact hTn20
                        · rw [if_neg e]; exact hTy20 t (by omega)
                      have HOV : Hid ((w18.setCell ⟨z6, 0, none⟩ (.slice va18 (i + 1) vc18)).ownsRow W2.heap.size 130 1 (.slice va18 (i + 1) vc18) (i + 1) (vals (updV P i (.slice (some ⟨g16, 0, none⟩) k16 c16)) (i + 1))) := by
                        show World.ownsRow _ _ _ _ _ _ _
                        rw [vals_succ]
                        exact hO20
                      have HKW := Lib.hid hKw20
                      have HSZ := Lib.hid hsz20
                      have HR := Lib.hid (And.intro hr20 (And.intro hb20 (And.intro hf20 ht20)))
                      generalize (w18.setCell ⟨z6, 0, none⟩ (.slice va18 (i + 1) vc18)) = WN at *
                      clear hX20 hb20 hr20 hf20 ht20 hO20 hTy20 hTn20 hKw20 hsz20 hz6t hXg hb18 hr18 hf18 ht18 hKw18 hnu hTy18 hTn18 hsz18 x0 x1 x2 x3 hO18 hgr18 hO17 hTy16 hB17 hKs17 hu17 d017 dz17 hHeld hN6 hN12 hN13 hN15 hN16 hR16 hu6 hu12 hu13 hu15 hu16 d06 dz6 d012 dz12 d013 dz13 d015 dz15 d016 dz16
                      go_wp2_with fail
                      go_roundg (n - (i + 1))
                      case measure => omega
                      case rel => exact ⟨i + 1, _, _, by omega, rfl, by first | rfl | go_num, HKW.out, HSZ.out, HR.out.1, HR.out.2.1, HR.out.2.2.1, HR.out.2.2.2, HOV.out, HALL.out⟩
                    · skip
                      go_simp
                      (go_at_call 81; refine (times_row _ _ _ _ _ (hN13.kept (by repeat (first | assumption | exact Kept.refl _ | apply Kept.drew | apply Kept.drewN | apply Kept.alloc | refine Kept.trans ?_ (by assumption)))) (hN15.kept (by repeat (first | assumption | exact Kept.refl _ | apply Kept.drew | apply Kept.drewN | apply Kept.alloc | refine Kept.trans ?_ (by assumption)))) HB2.out).mono ?_; rintro e u16 ⟨g16, k16, c16, N16, f16, rfl, hN16, hu16, hR16⟩)
                      (try go_wp2_with fail)
                      have d016 := Kept.cellSome hu16 d015
                      have dz16 := Kept.cellSome hu16 dz15
                      refine hK16.out _ _ ?_ (fun hHeld => ?_)
                      · (try dsimp only)
                        exact dz16
                      (try simp only [Act.put, List.setIfInBounds_toArray, List.set_cons_zero, List.set_cons_succ])
                      refine wpAnyH_ready (rs := [1, 17]) (by kernel_rfl) (by simp) ?_
                      refine AllReadyH.cons (o := { dst := some 55, op := Go.Op.load 98 (Go.Operand.tmp 54), type := 98, pos := "load.go:35", after := #[{ on := 0, ground := Go.Ground.data }], guard := none }) rfl (fun K1 hK1 => ?_) (AllReadyH.cons (o := { dst := some 71, op := Go.Op.buildSlice 98 1 #[(0, Go.Operand.tmp 70)], type := 98, pos := "load.go:35", after := #[{ on := 16, ground := Go.Ground.data }], guard := none }) rfl (fun K17 hK17 => ?_) AllReadyH.nil)
                      · skip
                        go_simp
                        skip
                        (try go_wp2_with fail)
                        refine hK1.out _ _ ?_ (fun hHeld => ?_)
                        · (try dsimp only)
                          exact dz16
                        (try simp only [Act.put, List.setIfInBounds_toArray, List.set_cons_zero, List.set_cons_succ])
                        refine wpAnyH_ready (rs := [17]) (by kernel_rfl) (by simp) ?_
                        refine AllReadyH.cons (o := { dst := some 71, op := Go.Op.buildSlice 98 1 #[(0, Go.Operand.tmp 70)], type := 98, pos := "load.go:35", after := #[{ on := 16, ground := Go.Ground.data }], guard := none }) rfl (fun K17 hK17 => ?_) AllReadyH.nil
                        go_simp
                        skip
                        (try go_wp2_with fail)
                        have hu17 : Kept u16 (u16.alloc (.cells #[(.slice (some ⟨g16, 0, none⟩) k16 c16)] 130)) := (Kept.refl u16).alloc _
                        have d017 := Kept.cellSome hu17 d016
                        have dz17 := Kept.cellSome hu17 dz16
                        have hKs17 : Kept wr (u16.alloc (.cells #[(.slice (some ⟨g16, 0, none⟩) k16 c16)] 130)) := Kept.trans (show Kept wr u16 from (by repeat (first | assumption | exact Kept.refl _ | apply Kept.drew | apply Kept.drewN | apply Kept.alloc | refine Kept.trans ?_ (by assumption)))) hu17
                        have hO17 := own_keptY hO hKs17 (fun _ _ _ _ _ h => h)
                        have hTy16 : TyNat (u16.alloc (.cells #[(.slice (some ⟨g16, 0, none⟩) k16 c16)] 130)) (.slice (some ⟨g16, 0, none⟩) k16 c16) (partZ T F n i) := TyNat.kept ⟨_, _, _, _, _, rfl, by rw [← HPZ.out]; exact hN16, hR16⟩ hu17
                        have hB17 : W2.heap.size ≤ (u16.alloc (.cells #[(.slice (some ⟨g16, 0, none⟩) k16 c16)] 130)).heap.size := Nat.le_trans hsz hKs17.size
                        refine hK17.out _ _ ?_ (fun hHeld => ?_)
                        · (try dsimp only)
                          exact dz17
                        (try simp only [Act.put, List.setIfInBounds_toArray, List.set_cons_zero, List.set_cons_succ])
                        refine wpAnyH_ready (rs := [18]) (by kernel_rfl) (by simp) ?_
                        refine AllReadyH.cons (o := { dst := some 72, op := Go.Op.call { callee := Go.Callee.builtin Go.Builtin.append, args := #[Go.Operand.tmp 55, Go.Operand.tmp 71], argTypes := #[98, 98] }, type := 98, pos := "load.go:35", after := #[{ on := 1, ground := Go.Ground.data }, { on := 17, ground := Go.Ground.data }, { on := 16, ground := Go.Ground.chain }], guard := none }) rfl (fun K18 hK18 => ?_) AllReadyH.nil
                        rw [if_pos (by rfl)]
                        refine wp_append_own _ _ _ 98 rfl W2.heap.size 130 i0 (.slice none 0 0) 1 24 Tryz.underlying98 hi0 hz0 hz1 hz2 rfl (by decide) _ _ _ (by rfl) hO17 ⟨u16.heap.size, 0, none⟩ 1 1 [(.slice (some ⟨g16, 0, none⟩) k16 c16)] (by rfl) rfl (cell_one_new _ _ _) ?c2 ?c3 ?c4 ?c5 ?_
                        case c2 => simp [Value.oneCell']
                        case c3 => unfold maxLen; omega
                        case c4 => omega
                        case c5 => exact hB17
                        intro v18 w18 hO18 hgr18 _
                        have hXg : KeptX (fun k => (Value.slice sa i cap).ownBlock = some k) (u16.alloc (.cells #[(.slice (some ⟨g16, 0, none⟩) k16 c16)] 130)) w18 := KeptX.grown (KeptX.refl _ _) hgr18 (fun k hk => Or.inl hk)
                        have hb18 := hXg.row (hKs17.row hb) (own_below hO17 hz6B)
                        have hr18 := hXg.row (hKs17.row hr) (own_below hO17 hr4B)
                        have hf18 := hXg.row (hKs17.row hRf) (own_below hO17 hgfB)
                        have ht18 := hXg.row (hKs17.row hRt) (own_below hO17 hgtB)
                        have hKw18 : Kept w w18 := (hK.trans hKs17).grown hgr18 (fun k hk => Nat.le_trans hW2w ((hO17.lt k hk).1))
                        have hnu : ∀ b c f, (u16.alloc (.cells #[(.slice (some ⟨g16, 0, none⟩) k16 c16)] 130)).heap[b]? = some (.cells c 69 f) → ¬ (Value.slice sa i cap).ownBlock = some b := fun b c f h => own_not hO17 (by decide) h
                        have hTy18 : ∀ t, t < i → TyNat w18 (P t) (partZ T F n t) := fun t ht => ((hTy t ht).kept hKs17).keptX hXg hnu
                        have hTn18 := hTy16.keptX hXg hnu
                        have hsz18 : W2.heap.size ≤ w18.heap.size := Nat.le_trans hB17 hXg.size
                        obtain ⟨va18, vc18, rfl⟩ := own_shape hO18
                        obtain ⟨x0, x1, x2, x3⟩ := bx2_cells hb18
                        refine hK18.out _ _ ?_ (fun hHeld => ?_)
                        · (try dsimp only)
                          exact x1
                        (try simp only [Act.put, List.setIfInBounds_toArray, List.set_cons_zero, List.set_cons_succ])
                        refine wpAnyH_take (i := 19) (oi := { dst := some 73, op := Go.Op.fieldAddr 101 (Go.Operand.tmp 6) 0, type := 0, pos := "load.go:35", after := #[{ on := 0, ground := Go.Ground.phase }, { on := 1, ground := Go.Ground.phase }, { on := 2, ground := Go.Ground.phase }, { on := 3, ground := Go.Ground.phase }, { on := 4, ground := Go.Ground.phase }, { on := 5, ground := Go.Ground.phase }, { on := 6, ground := Go.Ground.phase }, { on := 7, ground := Go.Ground.phase }, { on := 8, ground := Go.Ground.phase }, { on := 9, ground := Go.Ground.phase }, { on := 10, ground := Go.Ground.phase }, { on := 11, ground := Go.Ground.phase }, { on := 12, ground := Go.Ground.phase }, { on := 13, ground := Go.Ground.phase }, { on := 14, ground := Go.Ground.phase }, { on := 15, ground := Go.Ground.phase }, { on := 16, ground := Go.Ground.phase }, { on := 17, ground := Go.Ground.phase }, { on := 18, ground := Go.Ground.phase }], guard := none }) (v := ?v48) rfl (by kernel_rfl) (by kernel_rfl) (by kernel_rfl) (fun _ _ _ h => h) (Or.inl ⟨by rfl, ?hy48⟩) (by assumption) ?rs48
                        case hy48 =>
                          intro w hSw
                          (try dsimp only at hSw)
                          go_simp
                          try with_reducible rfl
                        (try simp only [Act.put, List.setIfInBounds_toArray, List.set_cons_zero, List.set_cons_succ])
                        refine wpAnyH_ready (rs := [20]) (by kernel_rfl) (by simp) ?_
                        refine AllReadyH.cons (o := { dst := none, op := Go.Op.store 98 (Go.Operand.tmp 73) (Go.Operand.tmp 72), type := 0, pos := "load.go:35", after := #[{ on := 19, ground := Go.Ground.data }, { on := 18, ground := Go.Ground.data }, { on := 18, ground := Go.Ground.chain }, { on := 0, ground := Go.Ground.phase }, { on := 1, ground := Go.Ground.phase }, { on := 2, ground := Go.Ground.phase }, { on := 3, ground := Go.Ground.phase }, { on := 4, ground := Go.Ground.phase }, { on := 5, ground := Go.Ground.phase }, { on := 6, ground := Go.Ground.phase }, { on := 7, ground := Go.Ground.phase }, { on := 8, ground := Go.Ground.phase }, { on := 9, ground := Go.Ground.phase }, { on := 10, ground := Go.Ground.phase }, { on := 11, ground := Go.Ground.phase }, { on := 12, ground := Go.Ground.phase }, { on := 13, ground := Go.Ground.phase }, { on := 14, ground := Go.Ground.phase }, { on := 15, ground := Go.Ground.phase }, { on := 16, ground := Go.Ground.phase }, { on := 17, ground := Go.Ground.phase }, { on := 18, ground := Go.Ground.phase }], guard := none }) rfl (fun K20 hK20 => ?_) AllReadyH.nil
                        go_simp
                        skip
                        (try go_wp2_with fail)
                        have hX20 : KeptX (fun k => k = z6) w18 (w18.setCell ⟨z6, 0, none⟩ (.slice va18 (i + 1) vc18)) := (KeptX.refl (fun k => k = z6) w18).setIn 0 _
                        have hb20 := bx2_set0 hb18 (.slice va18 (i + 1) vc18)
                        have hr20 := hr18.setOther (a := ⟨z6, 0, none⟩) nrz (.slice va18 (i + 1) vc18)
                        have hf20 := hf18.setOther (a := ⟨z6, 0, none⟩) (Ne.symm nzf) (.slice va18 (i + 1) vc18)
                        have ht20 := ht18.setOther (a := ⟨z6, 0, none⟩) (Ne.symm nzt) (.slice va18 (i + 1) vc18)
                        have hO20 := own_keptY hO18 hX20 (fun b c f _ hb h => by omega)
                        have hz6t : ∀ b c f, w18.heap[b]? = some (.cells c 69 f) → ¬ b = z6 := fun b c f h e => by
                          subst e
                          obtain ⟨cur, hh, _⟩ := id hb18
                          rw [h] at hh
                          injection hh with hh
                          injection hh with _ hh
                          exact absurd hh (by decide)
                        have hTy20 : ∀ t, t < i → TyNat (w18.setCell ⟨z6, 0, none⟩ (.slice va18 (i + 1) vc18)) (P t) (partZ T F n t) := fun t ht => (hTy18 t ht).keptX hX20 hz6t
                        have hTn20 := hTn18.keptX hX20 hz6t
                        have hKw20 := hKw18.setCell (p := ⟨z6, 0, none⟩) hz6w (.slice va18 (i + 1) vc18)
                        have hsz20 : W2.heap.size ≤ (w18.setCell ⟨z6, 0, none⟩ (.slice va18 (i + 1) vc18)).heap.size := by rw [World.size_setCell]; exact hsz18
                        refine hK20.out _ _ ?_ (fun hHeld => ?_)
                        · (try dsimp only)
                          exact (bx2_cells hb20).2.1
                        (try simp only [Act.put, List.setIfInBounds_toArray, List.set_cons_zero, List.set_cons_succ])
                        refine wpAnyH_done (by kernel_rfl) ?_ _
                        have HALL : Hid (∀ t, t < i + 1 → TyNat (w18.setCell ⟨z6, 0, none⟩ (.slice va18 (i + 1) vc18)) (updV P i (.slice (some ⟨g16, 0, none⟩) k16 c16) t) (partZ T F n t)) := fun t ht => by
                          unfold updV
                          by_cases e : t = i
                          · rw [if_pos e, e]; exact hTn20
                          · rw [if_neg e]; exact hTy20 t (by omega)
                        have HOV : Hid ((w18.setCell ⟨z6, 0, none⟩ (.slice va18 (i + 1) vc18)).ownsRow W2.heap.size 130 1 (.slice va18 (i + 1) vc18) (i + 1) (vals (updV P i (.slice (some ⟨g16, 0, none⟩) k16 c16)) (i + 1))) := by
                          show World.ownsRow _ _ _ _ _ _ _
                          rw [vals_succ]
                          exact hO20
                        have HKW := Lib.hid hKw20
                        have HSZ := Lib.hid hsz20
                        have HR := Lib.hid (And.intro hr20 (And.intro hb20 (And.intro hf20 ht20)))
                        generalize (w18.setCell ⟨z6, 0, none⟩ (.slice va18 (i + 1) vc18)) = WN at *
                        clear hX20 hb20 hr20 hf20 ht20 hO20 hTy20 hTn20 hKw20 hsz20 hz6t hXg hb18 hr18 hf18 ht18 hKw18 hnu hTy18 hTn18 hsz18 x0 x1 x2 x3 hO18 hgr18 hO17 hTy16 hB17 hKs17 hu17 d017 dz17 hHeld hN6 hN12 hN13 hN15 hN16 hR16 hu6 hu12 hu13 hu15 hu16 d06 dz6 d012 dz12 d013 dz13 d015 dz15 d016 dz16
                        go_wp2_with fail
                        go_roundg (n - (i + 1))
                        case measure => omega
                        case rel => exact ⟨i + 1, _, _, by omega, rfl, by first | rfl | go_num, HKW.out, HSZ.out, HR.out.1, HR.out.2.1, HR.out.2.2.1, HR.out.2.2.2, HOV.out, HALL.out⟩
                      · skip
                        go_simp
                        skip
                        (try go_wp2_with fail)
                        have hu17 : Kept u16 (u16.alloc (.cells #[(.slice (some ⟨g16, 0, none⟩) k16 c16)] 130)) := (Kept.refl u16).alloc _
                        have d017 := Kept.cellSome hu17 d016
                        have dz17 := Kept.cellSome hu17 dz16
                        have hKs17 : Kept wr (u16.alloc (.cells #[(.slice (some ⟨g16, 0, none⟩) k16 c16)] 130)) := Kept.trans (show Kept wr u16 from (by repeat (first | assumption | exact Kept.refl _ | apply Kept.drew | apply Kept.drewN | apply Kept.alloc | refine Kept.trans ?_ (by assumption)))) hu17
                        have hO17 := own_keptY hO hKs17 (fun _ _ _ _ _ h => h)
                        have hTy16 : TyNat (u16.alloc (.cells #[(.slice (some ⟨g16, 0, none⟩) k16 c16)] 130)) (.slice (some ⟨g16, 0, none⟩) k16 c16) (partZ T F n i) := TyNat.kept ⟨_, _, _, _, _, rfl, by rw [← HPZ.out]; exact hN16, hR16⟩ hu17
                        have hB17 : W2.heap.size ≤ (u16.alloc (.cells #[(.slice (some ⟨g16, 0, none⟩) k16 c16)] 130)).heap.size := Nat.le_trans hsz hKs17.size
                        refine hK17.out _ _ ?_ (fun hHeld => ?_)
                        · (try dsimp only)
                          exact dz17
                        (try simp only [Act.put, List.setIfInBounds_toArray, List.set_cons_zero, List.set_cons_succ])
                        refine wpAnyH_ready (rs := [1]) (by kernel_rfl) (by simp) ?_
                        refine AllReadyH.cons (o := { dst := some 55, op := Go.Op.load 98 (Go.Operand.tmp 54), type := 98, pos := "load.go:35", after := #[{ on := 0, ground := Go.Ground.data }], guard := none }) rfl (fun K1 hK1 => ?_) AllReadyH.nil
                        go_simp
                        skip
                        (try go_wp2_with fail)
                        refine hK1.out _ _ ?_ (fun hHeld => ?_)
                        · (try dsimp only)
                          exact dz17
                        (try simp only [Act.put, List.setIfInBounds_toArray, List.set_cons_zero, List.set_cons_succ])
                        refine wpAnyH_ready (rs := [18]) (by kernel_rfl) (by simp) ?_
                        refine AllReadyH.cons (o := { dst := some 72, op := Go.Op.call { callee := Go.Callee.builtin Go.Builtin.append, args := #[Go.Operand.tmp 55, Go.Operand.tmp 71], argTypes := #[98, 98] }, type := 98, pos := "load.go:35", after := #[{ on := 1, ground := Go.Ground.data }, { on := 17, ground := Go.Ground.data }, { on := 16, ground := Go.Ground.chain }], guard := none }) rfl (fun K18 hK18 => ?_) AllReadyH.nil
                        rw [if_pos (by rfl)]
                        refine wp_append_own _ _ _ 98 rfl W2.heap.size 130 i0 (.slice none 0 0) 1 24 Tryz.underlying98 hi0 hz0 hz1 hz2 rfl (by decide) _ _ _ (by rfl) hO17 ⟨u16.heap.size, 0, none⟩ 1 1 [(.slice (some ⟨g16, 0, none⟩) k16 c16)] (by rfl) rfl (cell_one_new _ _ _) ?c2 ?c3 ?c4 ?c5 ?_
                        case c2 => simp [Value.oneCell']
                        case c3 => unfold maxLen; omega
                        case c4 => omega
                        case c5 => exact hB17
                        intro v18 w18 hO18 hgr18 _
                        have hXg : KeptX (fun k => (Value.slice sa i cap).ownBlock = some k) (u16.alloc (.cells #[(.slice (some ⟨g16, 0, none⟩) k16 c16)] 130)) w18 := KeptX.grown (KeptX.refl _ _) hgr18 (fun k hk => Or.inl hk)
                        have hb18 := hXg.row (hKs17.row hb) (own_below hO17 hz6B)
                        have hr18 := hXg.row (hKs17.row hr) (own_below hO17 hr4B)
                        have hf18 := hXg.row (hKs17.row hRf) (own_below hO17 hgfB)
                        have ht18 := hXg.row (hKs17.row hRt) (own_below hO17 hgtB)
                        have hKw18 : Kept w w18 := (hK.trans hKs17).grown hgr18 (fun k hk => Nat.le_trans hW2w ((hO17.lt k hk).1))
                        have hnu : ∀ b c f, (u16.alloc (.cells #[(.slice (some ⟨g16, 0, none⟩) k16 c16)] 130)).heap[b]? = some (.cells c 69 f) → ¬ (Value.slice sa i cap).ownBlock = some b := fun b c f h => own_not hO17 (by decide) h
                        have hTy18 : ∀ t, t < i → TyNat w18 (P t) (partZ T F n t) := fun t ht => ((hTy t ht).kept hKs17).keptX hXg hnu
                        have hTn18 := hTy16.keptX hXg hnu
                        have hsz18 : W2.heap.size ≤ w18.heap.size := Nat.le_trans hB17 hXg.size
                        obtain ⟨va18, vc18, rfl⟩ := own_shape hO18
                        obtain ⟨x0, x1, x2, x3⟩ := bx2_cells hb18
                        refine hK18.out _ _ ?_ (fun hHeld => ?_)
                        · (try dsimp only)
                          exact x1
                        (try simp only [Act.put, List.setIfInBounds_toArray, List.set_cons_zero, List.set_cons_succ])
                        refine wpAnyH_take (i := 19) (oi := { dst := some 73, op := Go.Op.fieldAddr 101 (Go.Operand.tmp 6) 0, type := 0, pos := "load.go:35", after := #[{ on := 0, ground := Go.Ground.phase }, { on := 1, ground := Go.Ground.phase }, { on := 2, ground := Go.Ground.phase }, { on := 3, ground := Go.Ground.phase }, { on := 4, ground := Go.Ground.phase }, { on := 5, ground := Go.Ground.phase }, { on := 6, ground := Go.Ground.phase }, { on := 7, ground := Go.Ground.phase }, { on := 8, ground := Go.Ground.phase }, { on := 9, ground := Go.Ground.phase }, { on := 10, ground := Go.Ground.phase }, { on := 11, ground := Go.Ground.phase }, { on := 12, ground := Go.Ground.phase }, { on := 13, ground := Go.Ground.phase }, { on := 14, ground := Go.Ground.phase }, { on := 15, ground := Go.Ground.phase }, { on := 16, ground := Go.Ground.phase }, { on := 17, ground := Go.Ground.phase }, { on := 18, ground := Go.Ground.phase }], guard := none }) (v := ?v49) rfl (by kernel_rfl) (by kernel_rfl) (by kernel_rfl) (fun _ _ _ h => h) (Or.inl ⟨by rfl, ?hy49⟩) (by assumption) ?rs49
                        case hy49 =>
                          intro w hSw
                          (try dsimp only at hSw)
                          go_simp
                          try with_reducible rfl
                        (try simp only [Act.put, List.setIfInBounds_toArray, List.set_cons_zero, List.set_cons_succ])
                        refine wpAnyH_ready (rs := [20]) (by kernel_rfl) (by simp) ?_
                        refine AllReadyH.cons (o := { dst := none, op := Go.Op.store 98 (Go.Operand.tmp 73) (Go.Operand.tmp 72), type := 0, pos := "load.go:35", after := #[{ on := 19, ground := Go.Ground.data }, { on := 18, ground := Go.Ground.data }, { on := 18, ground := Go.Ground.chain }, { on := 0, ground := Go.Ground.phase }, { on := 1, ground := Go.Ground.phase }, { on := 2, ground := Go.Ground.phase }, { on := 3, ground := Go.Ground.phase }, { on := 4, ground := Go.Ground.phase }, { on := 5, ground := Go.Ground.phase }, { on := 6, ground := Go.Ground.phase }, { on := 7, ground := Go.Ground.phase }, { on := 8, ground := Go.Ground.phase }, { on := 9, ground := Go.Ground.phase }, { on := 10, ground := Go.Ground.phase }, { on := 11, ground := Go.Ground.phase }, { on := 12, ground := Go.Ground.phase }, { on := 13, ground := Go.Ground.phase }, { on := 14, ground := Go.Ground.phase }, { on := 15, ground := Go.Ground.phase }, { on := 16, ground := Go.Ground.phase }, { on := 17, ground := Go.Ground.phase }, { on := 18, ground := Go.Ground.phase }], guard := none }) rfl (fun K20 hK20 => ?_) AllReadyH.nil
                        go_simp
                        skip
                        (try go_wp2_with fail)
                        have hX20 : KeptX (fun k => k = z6) w18 (w18.setCell ⟨z6, 0, none⟩ (.slice va18 (i + 1) vc18)) := (KeptX.refl (fun k => k = z6) w18).setIn 0 _
                        have hb20 := bx2_set0 hb18 (.slice va18 (i + 1) vc18)
                        have hr20 := hr18.setOther (a := ⟨z6, 0, none⟩) nrz (.slice va18 (i + 1) vc18)
                        have hf20 := hf18.setOther (a := ⟨z6, 0, none⟩) (Ne.symm nzf) (.slice va18 (i + 1) vc18)
                        have ht20 := ht18.setOther (a := ⟨z6, 0, none⟩) (Ne.symm nzt) (.slice va18 (i + 1) vc18)
                        have hO20 := own_keptY hO18 hX20 (fun b c f _ hb h => by omega)
                        have hz6t : ∀ b c f, w18.heap[b]? = some (.cells c 69 f) → ¬ b = z6 := fun b c f h e => by
                          subst e
                          obtain ⟨cur, hh, _⟩ := id hb18
                          rw [h] at hh
                          injection hh with hh
                          injection hh with _ hh
                          exact absurd hh (by decide)
                        have hTy20 : ∀ t, t < i → TyNat (w18.setCell ⟨z6, 0, none⟩ (.slice va18 (i + 1) vc18)) (P t) (partZ T F n t) := fun t ht => (hTy18 t ht).keptX hX20 hz6t
                        have hTn20 := hTn18.keptX hX20 hz6t
                        have hKw20 := hKw18.setCell (p := ⟨z6, 0, none⟩) hz6w (.slice va18 (i + 1) vc18)
                        have hsz20 : W2.heap.size ≤ (w18.setCell ⟨z6, 0, none⟩ (.slice va18 (i + 1) vc18)).heap.size := by rw [World.size_setCell]; exact hsz18
                        refine hK20.out _ _ ?_ (fun hHeld => ?_)
                        · (try dsimp only)
                          exact (bx2_cells hb20).2.1
                        (try simp only [Act.put, List.setIfInBounds_toArray, List.set_cons_zero, List.set_cons_succ])
                        refine wpAnyH_done (by kernel_rfl) ?_ _
                        have HALL : Hid (∀ t, t < i + 1 → TyNat (w18.setCell ⟨z6, 0, none⟩ (.slice va18 (i + 1) vc18)) (updV P i (.slice (some ⟨g16, 0, none⟩) k16 c16) t) (partZ T F n t)) := fun t ht => by
                          unfold updV
                          by_cases e : t = i
                          · rw [if_pos e, e]; exact hTn20
                          · rw [if_neg e]; exact hTy20 t (by omega)
                        have HOV : Hid ((w18.setCell ⟨z6, 0, none⟩ (.slice va18 (i + 1) vc18)).ownsRow W2.heap.size 130 1 (.slice va18 (i + 1) vc18) (i + 1) (vals (updV P i (.slice (some ⟨g16, 0, none⟩) k16 c16)) (i + 1))) := by
                          show World.ownsRow _ _ _ _ _ _ _
                          rw [vals_succ]
                          exact hO20
                        have HKW := Lib.hid hKw20
                        have HSZ := Lib.hid hsz20
                        have HR := Lib.hid (And.intro hr20 (And.intro hb20 (And.intro hf20 ht20)))
                        generalize (w18.setCell ⟨z6, 0, none⟩ (.slice va18 (i + 1) vc18)) = WN at *
                        clear hX20 hb20 hr20 hf20 ht20 hO20 hTy20 hTn20 hKw20 hsz20 hz6t hXg hb18 hr18 hf18 ht18 hKw18 hnu hTy18 hTn18 hsz18 x0 x1 x2 x3 hO18 hgr18 hO17 hTy16 hB17 hKs17 hu17 d017 dz17 hHeld hN6 hN12 hN13 hN15 hN16 hR16 hu6 hu12 hu13 hu15 hu16 d06 dz6 d012 dz12 d013 dz13 d015 dz15 d016 dz16
                        go_wp2_with fail
                        go_roundg (n - (i + 1))
                        case measure => omega
                        case rel => exact ⟨i + 1, _, _, by omega, rfl, by first | rfl | go_num, HKW.out, HSZ.out, HR.out.1, HR.out.2.1, HR.out.2.2.1, HR.out.2.2.2, HOV.out, HALL.out⟩
        · obtain rfl : n = i := by omega
          have s1 : ¬ (n : Int) < (n : Int) := by omega
          obtain ⟨g, cap0, hgc⟩ := own_someV hO hn0
          injection hgc with h1 _ h3
          subst h1
          clear h3
          obtain ⟨N, fg, hRg, hnN, hgB, hfg⟩ := own_rowV hO
          have hgw : w.heap.size ≤ g := by omega
          have ngr : g ≠ r4 := by omega
          obtain ⟨d0, dz, _, _⟩ := bx2_cells hb
          have NL : NatsL wr (.slice (some ⟨g, 0, none⟩) n cap) n (partZ T F n) := ⟨P, ⟨_, g, 0, cap, rfl, fun _ => rfl, fun t ht => by rw [Nat.zero_add, hRg.cell (by omega), hfg t ht]⟩, fun t ht => (hTy t ht).nat⟩
          have CF : CellsAt wr (.slice (some ⟨gf, 0, none⟩) n n) n (fun t => .int .u64 ((F t : Nat) : Int)) := ⟨_, gf, 0, n, rfl, fun _ => rfl, fun t ht => by rw [Nat.zero_add]; exact hRf.cell ht⟩
          have HS := Lib.hid hs
          have SU := Lib.hid (fun W (hk : Kept wr W) => sum_any W _ (.slice (some ⟨gf, 0, none⟩) n n) n (partZ T F n) (NL.kept hk) (fun j hj => sum_big hn hj (fun t ht => (partZ_bd (T := T) hn ht HF12.out (by have := HT12.out t ht; omega)).2.2)) (by omega))
          have PR := Lib.hid (fun W (hk : Kept wr W) => product_any W _ n F (CellsAt.kept CF hk) (fun t ht => by have := HF12.out t ht; omega) (fun j hj => lt_big (prodN_bd (k := j) (fun t ht => HF12.out t (by omega))) (by omega)) (by omega))
          clear NL CF hO hs
          go_wp2_with fail
          refine wp_region_held_drew (S := (fun w' => w'.cell? ⟨z6, 0, none⟩ = some (.slice (some ⟨g, 0, none⟩) n cap) ∧ w'.cell? ⟨z6, 1, none⟩ = some (.slice (some ⟨gf, 0, none⟩) n n))) (by kernel_rfl) ?_ (fun hHeld => ?_)
          · (try dsimp only)
            exact ⟨d0, dz⟩
          refine wpAnyH_take (i := 0) (oi := { dst := some 75, op := Go.Op.load 101 (Go.Operand.tmp 6), type := 101, pos := "load.go:37", after := #[], guard := none }) (v := ?v50) rfl (by kernel_rfl) (by kernel_rfl) (by kernel_rfl) (fun _ _ _ h => h) (Or.inl ⟨by rfl, ?hy50⟩) (by assumption) ?rs50
          case hy50 =>
            intro w hSw
            (try dsimp only at hSw)
            go_simp
            try with_reducible rfl
          (try simp only [Act.put, List.setIfInBounds_toArray, List.set_cons_zero, List.set_cons_succ])
          refine wpAnyH_take (i := 1) (oi := { dst := some 76, op := Go.Op.load 101 (Go.Operand.tmp 6), type := 101, pos := "load.go:37", after := #[], guard := none }) (v := ?v51) rfl (by kernel_rfl) (by kernel_rfl) (by kernel_rfl) (fun _ _ _ h => h) (Or.inl ⟨by rfl, ?hy51⟩) (by assumption) ?rs51
          case hy51 =>
            intro w hSw
            (try dsimp only at hSw)
            go_simp
            try with_reducible rfl
          (try simp only [Act.put, List.setIfInBounds_toArray, List.set_cons_zero, List.set_cons_succ])
          refine wpAnyH_take (i := 3) (oi := { dst := some 78, op := Go.Op.fieldAddr 101 (Go.Operand.tmp 6) 1, type := 0, pos := "load.go:37", after := #[], guard := none }) (v := ?v52) rfl (by kernel_rfl) (by kernel_rfl) (by kernel_rfl) (fun _ _ _ h => h) (Or.inl ⟨by rfl, ?hy52⟩) (by assumption) ?rs52
          case hy52 =>
            intro w hSw
            (try dsimp only at hSw)
            go_simp
            try with_reducible rfl
          (try simp only [Act.put, List.setIfInBounds_toArray, List.set_cons_zero, List.set_cons_succ])
          refine wpAnyH_take (i := 4) (oi := { dst := some 79, op := Go.Op.load 99 (Go.Operand.tmp 78), type := 99, pos := "load.go:37", after := #[{ on := 3, ground := Go.Ground.data }], guard := none }) (v := ?v53) rfl (by kernel_rfl) (by kernel_rfl) (by kernel_rfl) (fun _ _ _ h => h) (Or.inl ⟨by rfl, ?hy53⟩) (by assumption) ?rs53
          case hy53 =>
            intro w hSw
            (try dsimp only at hSw)
            go_simp
            try with_reducible rfl
          (try simp only [Act.put, List.setIfInBounds_toArray, List.set_cons_zero, List.set_cons_succ])
          refine wpAnyH_ready (rs := [2]) (by kernel_rfl) (by simp) ?_
          refine AllReadyH.cons (o := { dst := some 77, op := Go.Op.call { callee := Go.Callee.value (Go.Operand.func 83), args := #[Go.Operand.tmp 76], argTypes := #[101] }, type := 130, pos := "load.go:37", after := #[{ on := 1, ground := Go.Ground.data }], guard := none }) rfl (fun K2 hK2 => ?_) AllReadyH.nil
          go_simp
          (go_at_call 83; refine (SU.out _ (by repeat (first | assumption | exact Kept.refl _ | apply Kept.drew | apply Kept.drewN | apply Kept.alloc | refine Kept.trans ?_ (by assumption)))).mono ?_; rintro e u2 ⟨v2, rfl, hN2, hu2⟩; obtain ⟨a2, k2, c2, rfl⟩ := natAt_slice hN2)
          (try go_wp2_with fail)
          have d02 := Kept.cellSome hu2 d0
          have dz2 := Kept.cellSome hu2 dz
          refine hK2.out _ _ ?_ (fun hHeld => ?_)
          · (try dsimp only)
            exact ⟨d02, dz2⟩
          (try simp only [Act.put, List.setIfInBounds_toArray, List.set_cons_zero, List.set_cons_succ])
          refine wpAnyH_ready (rs := [5]) (by kernel_rfl) (by simp) ?_
          refine AllReadyH.cons (o := { dst := some 80, op := Go.Op.call { callee := Go.Callee.value (Go.Operand.func 80), args := #[Go.Operand.tmp 79], argTypes := #[99] }, type := 130, pos := "load.go:37", after := #[{ on := 4, ground := Go.Ground.data }, { on := 2, ground := Go.Ground.chain }], guard := none }) rfl (fun K5 hK5 => ?_) AllReadyH.nil
          go_simp
          (go_at_call 80; refine (PR.out _ (by repeat (first | assumption | exact Kept.refl _ | apply Kept.drew | apply Kept.drewN | apply Kept.alloc | refine Kept.trans ?_ (by assumption)))).mono ?_; rintro e u5 ⟨v5, rfl, hN5, hu5⟩; obtain ⟨a5, k5, c5, rfl⟩ := natAt_slice hN5)
          (try go_wp2_with fail)
          have d05 := Kept.cellSome hu5 d02
          have dz5 := Kept.cellSome hu5 dz2
          refine hK5.out _ _ ?_ (fun hHeld => ?_)
          · (try dsimp only)
            exact ⟨d05, dz5⟩
          (try simp only [Act.put, List.setIfInBounds_toArray, List.set_cons_zero, List.set_cons_succ])
          refine wpAnyH_ready (rs := [6]) (by kernel_rfl) (by simp) ?_
          refine AllReadyH.cons (o := { dst := some 81, op := Go.Op.call { callee := Go.Callee.value (Go.Operand.func 84), args := #[Go.Operand.tmp 77, Go.Operand.tmp 80], argTypes := #[130, 130] }, type := 3, pos := "load.go:37", after := #[{ on := 2, ground := Go.Ground.data }, { on := 5, ground := Go.Ground.data }, { on := 5, ground := Go.Ground.chain }], guard := none }) rfl (fun K6 hK6 => ?_) AllReadyH.nil
          go_simp
          (go_at_call 84; refine (compare_any _ _ _ _ _ (hN2.kept (by repeat (first | assumption | exact Kept.refl _ | apply Kept.drew | apply Kept.drewN | apply Kept.alloc | refine Kept.trans ?_ (by assumption)))) (hN5.kept (by repeat (first | assumption | exact Kept.refl _ | apply Kept.drew | apply Kept.drewN | apply Kept.alloc | refine Kept.trans ?_ (by assumption))))).mono ?_; rintro e u6 ⟨r, rfl, hu6, _, hr2, _, _⟩; obtain rfl : r = 0 := hr2.2 HS.out; clear hr2)
          (try go_wp2_with fail)
          have d06 := Kept.cellSome hu6 d05
          have dz6 := Kept.cellSome hu6 dz5
          have hKs6 : Kept wr u6 := (by repeat (first | assumption | exact Kept.refl _ | apply Kept.drew | apply Kept.drewN | apply Kept.alloc | refine Kept.trans ?_ (by assumption)))
          have hr6 := hKs6.row hr
          have hb6 := hKs6.row hb
          obtain ⟨q0, q1, q2, q3⟩ := bx2_cells hr6
          refine hK6.out _ _ ?_ (fun hHeld => ?_)
          · (try dsimp only)
            exact ⟨d06, dz6⟩
          (try simp only [Act.put, List.setIfInBounds_toArray, List.set_cons_zero, List.set_cons_succ])
          refine wpAnyH_take (i := 7) (oi := { dst := some 82, op := Go.Op.binOp Go.BinOp.eql 3 (Go.Operand.tmp 81) (Go.Operand.const (Go.Value.int Go.IntKind.i64 0)) 3, type := 4, pos := "load.go:37", after := #[{ on := 6, ground := Go.Ground.data }, { on := 8, ground := Go.Ground.gcOnly Go.Departure.lateStores }], guard := none }) (v := ?v54) rfl (by kernel_rfl) (by kernel_rfl) (by kernel_rfl) (fun _ _ _ h => h) (Or.inl ⟨by rfl, ?hy54⟩) (by assumption) ?rs54
          case hy54 =>
            intro w hSw
            (try dsimp only at hSw)
            go_simp
            try with_reducible rfl
          (try simp only [Act.put, List.setIfInBounds_toArray, List.set_cons_zero, List.set_cons_succ])
          refine wpAnyH_ready (rs := [8]) (by kernel_rfl) (by simp) ?_
          refine AllReadyH.cons (o := { dst := none, op := Go.Op.store 101 (Go.Operand.tmp 4) (Go.Operand.tmp 75), type := 0, pos := "load.go:37", after := #[{ on := 0, ground := Go.Ground.data }, { on := 6, ground := Go.Ground.chain }, { on := 0, ground := Go.Ground.phase }, { on := 1, ground := Go.Ground.textOnly Go.Departure.lateStores }, { on := 2, ground := Go.Ground.textOnly Go.Departure.lateStoresUnsure }, { on := 3, ground := Go.Ground.textOnly Go.Departure.lateStores }, { on := 4, ground := Go.Ground.textOnly Go.Departure.lateStores }, { on := 5, ground := Go.Ground.textOnly Go.Departure.lateStoresUnsure }, { on := 6, ground := Go.Ground.textOnly Go.Departure.lateStoresUnsure }, { on := 7, ground := Go.Ground.textOnly Go.Departure.lateStores }], guard := none }) rfl (fun K8 hK8 => ?_) AllReadyH.nil
          go_simp
          skip
          (try go_wp2_with fail)
          have hr8 := bx2_set1 (bx2_set0 hr6 (.slice (some ⟨g, 0, none⟩) n cap)) (.slice (some ⟨gf, 0, none⟩) n n)
          have hb8 := (hb6.setOther (a := ⟨r4, 0, none⟩) (Ne.symm nrz) (.slice (some ⟨g, 0, none⟩) n cap)).setOther (a := ⟨r4, 1, none⟩) (Ne.symm nrz) (.slice (some ⟨gf, 0, none⟩) n n)
          obtain ⟨x0, x1, x2, x3⟩ := bx2_cells hb8
          refine hK8.out _ _ ?_ (fun hHeld => ?_)
          · (try dsimp only)
            exact ⟨x0, x1⟩
          (try simp only [Act.put, List.setIfInBounds_toArray, List.set_cons_zero, List.set_cons_succ])
          refine wpAnyH_take (i := 9) (oi := { dst := some 5, op := Go.Op.assign (Go.Operand.tmp 82), type := 4, pos := "load.go:37", after := #[{ on := 7, ground := Go.Ground.data }, { on := 8, ground := Go.Ground.chain }, { on := 0, ground := Go.Ground.phase }, { on := 1, ground := Go.Ground.phase }, { on := 2, ground := Go.Ground.phase }, { on := 3, ground := Go.Ground.phase }, { on := 4, ground := Go.Ground.phase }, { on := 5, ground := Go.Ground.phase }, { on := 6, ground := Go.Ground.phase }, { on := 7, ground := Go.Ground.phase }, { on := 8, ground := Go.Ground.phase }], guard := none }) (v := ?v55) rfl (by kernel_rfl) (by kernel_rfl) (by kernel_rfl) (fun _ _ _ h => h) (Or.inl ⟨by rfl, ?hy55⟩) (by assumption) ?rs55
          case hy55 =>
            intro w hSw
            (try dsimp only at hSw)
            go_simp
            try with_reducible rfl
          (try simp only [Act.put, List.setIfInBounds_toArray, List.set_cons_zero, List.set_cons_succ])
          refine wpAnyH_done (by kernel_rfl) ?_ _
          have hKw8 := ((hK.trans hKs6).setCell (p := ⟨r4, 0, none⟩) hr4w (.slice (some ⟨g, 0, none⟩) n cap)).setCell (p := ⟨r4, 1, none⟩) hr4w (.slice (some ⟨gf, 0, none⟩) n n)
          have hI8 : IntKept u6 ((u6.setCell ⟨r4, 0, none⟩ (.slice (some ⟨g, 0, none⟩) n cap)).setCell ⟨r4, 1, none⟩ (.slice (some ⟨gf, 0, none⟩) n n)) := (IntKept.set q0 (.slice (some ⟨g, 0, none⟩) n cap)).trans (IntKept.set (by exact (bx2_cells (bx2_set0 hr6 (.slice (some ⟨g, 0, none⟩) n cap))).2.1) (.slice (some ⟨gf, 0, none⟩) n n))
          have hR8 := ((hKs6.row hRg).setOther (a := ⟨r4, 0, none⟩) ngr (.slice (some ⟨g, 0, none⟩) n cap)).setOther (a := ⟨r4, 1, none⟩) ngr (.slice (some ⟨gf, 0, none⟩) n n)
          have hF8 := ((hKs6.row hRf).setOther (a := ⟨r4, 0, none⟩) (Ne.symm nrf) (.slice (some ⟨g, 0, none⟩) n cap)).setOther (a := ⟨r4, 1, none⟩) (Ne.symm nrf) (.slice (some ⟨gf, 0, none⟩) n n)
          have HPA : Hid (PartsAt ((u6.setCell ⟨r4, 0, none⟩ (.slice (some ⟨g, 0, none⟩) n cap)).setCell ⟨r4, 1, none⟩ (.slice (some ⟨gf, 0, none⟩) n n)) g N n (partZ T F n)) := ⟨fg, hR8, hnN, fun t ht => by rw [hfg t ht]; exact ((hTy t ht).nat.kept hKs6).keptI hI8⟩
          have HCF : Hid (CellsAt ((u6.setCell ⟨r4, 0, none⟩ (.slice (some ⟨g, 0, none⟩) n cap)).setCell ⟨r4, 1, none⟩ (.slice (some ⟨gf, 0, none⟩) n n)) (.slice (some ⟨gf, 0, none⟩) n n) n (fun i => .int .u64 ((F i : Nat) : Int))) := by show CellsAt _ _ _ _; exact ⟨_, gf, 0, n, rfl, fun _ => rfl, fun t ht => by rw [Nat.zero_add]; exact hF8.cell ht⟩
          obtain ⟨g0, g1, _, _⟩ := bx2_cells hr8
          clear hR8 hF8 hI8 hb8 hr8 hb6 hr6 hRg hRf hTy
          go_wp2_with fail
          exact bodyPost_ret (v := .tuple #[.agg #[(.slice (some ⟨g, 0, none⟩) n cap), (.slice (some ⟨gf, 0, none⟩) n n)], .bool true]) (by simp [results, Tryz.results53, go_sem, g0, g1]) rfl ⟨g, N, cap, gf, rfl, hKw8, hgw, HPA.out, HCF.out⟩
end Go.Proofs.YtlnlddnjalfamaaGreatDoor
