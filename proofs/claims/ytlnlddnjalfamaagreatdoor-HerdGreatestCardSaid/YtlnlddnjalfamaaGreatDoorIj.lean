/-
  Package herd: Shift of the document's example.
  Package herd: Greatest of the document's example.
-/
import Derived.Test.YtlnlddnjalfamaaGreatDoorIc
import Derived.Test.YtlnlddnjalfamaaGreatDoorHe
import Derived.Test.YtlnlddnjalfamaaGreatDoorHp
import Derived.Test.YtlnlddnjalfamaaGreatDoorIh
namespace Go.Proofs.YtlnlddnjalfamaaGreatDoor
open Go.RowKit Go.Deep

def exA : Nat → Int := fun i => if i = 0 then 0 else 1
def exB : Nat → Int := fun i => if i = 0 then 1 else 2
def exH : Nat → Nat := alongH exA exB 2
theorem ex_good : goodH 3 exA exB 2 = true := by decide +kernel
theorem ex_lt : ∀ t, t < 3 → exH t < 65536 := fun t ht => by
  have : t = 0 ∨ t = 1 ∨ t = 2 := by omega
  rcases this with rfl | rfl | rfl <;> decide +kernel
theorem bit_small {x b n : Nat} (hx : x < 2 ^ n) (h : x.testBit b = true) : b < n := by
  rcases Nat.lt_or_ge b n with h1 | h1
  · exact h1
  · rw [Nat.testBit_lt_two_pow (Nat.lt_of_lt_of_le hx (Nat.pow_le_pow_right (by omega) h1))] at h
    cases h
theorem ex_bit : ∀ t, t < 3 → ∀ b, (exH t).testBit b = true → b < 3 := fun t ht b hb => by
  refine bit_small (x := exH t) (n := 3) ?_ hb
  have : t = 0 ∨ t = 1 ∨ t = 2 := by omega
  rcases this with rfl | rfl | rfl <;> decide +kernel
def exF : Nat → Nat := fun i => if i = 0 then 2 else 4
def exT : Nat → Nat := fun _ => 1
def exX : Nat → Nat := fun i => if i = 0 then 24 else if i = 1 then 8 else 0
def exZ : Nat → Int := partZ exT exF 3
theorem ex_sum : sumZ exZ 3 = prodN exF 3 := by decide +kernel
theorem ex_goodZ : GoodZ exZ 3 32 where
  pos := fun t ht => by
    have : t = 0 ∨ t = 1 ∨ t = 2 := by omega
    rcases this with rfl | rfl | rfl <;> decide +kernel
  sum := by decide +kernel
theorem ex_shift : ∀ t, t < 3 → shiftZ exH 3 exZ 3 t = (exX t : Int) := fun t ht => by
  have : t = 0 ∨ t = 1 ∨ t = 2 := by omega
  rcases this with rfl | rfl | rfl <;> decide +kernel
theorem big_320 : (10 : Int) * 32 < bigU := by
  have h := tw_big
  have h1 := tw_le (i := 1) (j := 20) (by omega)
  unfold tw at *
  omega
theorem small_big {x : Int} (h : x ≤ 1000000) : x < bigU := by
  have h2 := tw_big
  have h1 := tw_le (i := 1) (j := 20) (by omega)
  unfold tw at *
  omega
theorem ex_qtb : ∀ i, i < 3 → (∀ j, j ≤ 3 → (((qTB (exX i) exF j).2 : Nat) : Int) < bigU) ∧ (qTB (exX i) exF 3).1 < 100 ∧ (qTB (exX i) exF 3).2 < 100 := fun i hi => by
  have h3 : ∀ i j, i < 3 → j ≤ 3 → (qTB (exX i) exF j).2 ≤ 1000000 := fun i j hi hj => by
    have h1 : i = 0 ∨ i = 1 ∨ i = 2 := by omega
    have h2 : j = 0 ∨ j = 1 ∨ j = 2 ∨ j = 3 := by omega
    rcases h1 with rfl | rfl | rfl <;> rcases h2 with rfl | rfl | rfl | rfl <;> decide +kernel
  refine ⟨fun j hj => small_big (by have := h3 i j hi hj; omega), ?_⟩
  have : i = 0 ∨ i = 1 ∨ i = 2 := by omega
  rcases this with rfl | rfl | rfl <;> decide +kernel
theorem exF_bd : ∀ i, i < 3 → 0 < exF i ∧ exF i ≤ 1000000000000 := fun i hi => by
  have : i = 0 ∨ i = 1 ∨ i = 2 := by omega
  rcases this with rfl | rfl | rfl <;> decide +kernel
def exS : Nat → ByteArray := fun i => if i = 0 then ⟨#[51, 47, 52]⟩ else if i = 1 then ⟨#[49, 47, 52]⟩ else ⟨#[48]⟩
theorem ex_text : ∀ i, i < 3 → partS exX exF 3 i = exS i := fun i hi => by
  have : i = 0 ∨ i = 1 ∨ i = 2 := by omega
  rcases this with rfl | rfl | rfl <;> decide +kernel
def ShiftExPost (w : World) (e : Ending) (w' : World) : Prop := ∃ v, e = .returned (.tuple #[v, .int .i64 0]) ∧ Kept w w' ∧ StrsAt w' v 3 exS
set_option maxRecDepth 100000 in
set_option maxHeartbeats 4000000 in
theorem Shift_ex (w : World) (vl vw : Value) (hL : PairsAt w vl 2 exA exB) (hW : StrsAt w vw 3 (fun i => oneS (exF i))) :
    Calls Tryz.prog 21 #[.int .i64 3, vl, vw] w (ShiftExPost w) := by
  have HO := Lib.hid (herdOf_any w 3 vl 2 exA exB hL (by omega))
  unfold HerdOfPost at HO
  simp only [ex_good, if_true] at HO
  have LO := Lib.hid (fun W (hk : Kept w W) => loadOf_any W 3 vw (fun i => oneS (exF i)) exT exF (by omega) (by omega) (CellsAt.kept hW hk)
    (fun i hi W2 => by
      have h := weightOf_one W2 (d := exF i) (by unfold exF; split <;> omega) (by unfold exF; split <;> omega)
      exact h) (fun i _ => by unfold exT; omega) (fun i hi => (exF_bd i hi).2) ex_sum)
  clear hW hL
  go_enter Tryz.func21, Tryz.ntmps21
  go_wp2_with fail
  refine HO.out.mono ?_
  rintro e w1 ⟨hk1, gh, rfl, hgh, hrh⟩
  go_wp2_with fail
  refine (LO.out _ hk1).mono ?_
  rintro e w2 ⟨g, N, cap, gf, rfl, hk2, hgw, hP, hF⟩
  have hS2 : SetsAt w2 (.slice (some ⟨gh, 0, none⟩) 3 3) 3 exH := CellsAt.kept (CellsAt.of_row hrh) hk2
  obtain ⟨W3, HW3⟩ : ∃ W3, W3 = w2.alloc (.cells #[.slice (some ⟨g, 0, none⟩) 3 cap, .slice (some ⟨gf, 0, none⟩) 3 3] 101) := ⟨_, rfl⟩
  have hk3 : Kept w2 W3 := by rw [HW3]; exact (Kept.refl w2).alloc _
  have hz3 : W3.rowIs w2.heap.size 101 2 (bx2 (.slice (some ⟨g, 0, none⟩) 3 cap) (.slice (some ⟨gf, 0, none⟩) 3 3)) := by rw [HW3]; exact bx2_row _ _ _ _
  have hgl : g < w2.heap.size := by obtain ⟨P, h1, _⟩ := hP; exact h1.lt
  have SH := Lib.hid (shift_any W3 g N 3 cap (some ⟨gf, 0, none⟩) 3 3 gh 3 exZ exH 32 (hP.kept hk3) (CellsAt.kept hS2 hk3) ex_lt ex_bit (by omega) ex_goodZ big_320 (by omega))
  have hF3 := CellsAt.kept hF hk3
  obtain ⟨d0, d1, _, _⟩ := bx2_cells hz3
  rw [HW3] at d0 d1 SH
  go_wp2_with fail
  refine SH.out.mono ?_
  rintro e w4 ⟨rfl, hX4, hI4, hP4⟩
  have hzg : ¬ w2.heap.size = g := by omega
  have dd0 := KeptX.cellSome hX4 d0 hzg
  have dd1 := KeptX.cellSome hX4 d1 hzg
  have hF4 := CellsAt.keptI hF3 (fun i _ => ⟨_, _, rfl⟩) (by rw [HW3]; exact hI4)
  have NU := Lib.hid (nums_any w4 _ _ 3 3 (shiftZ exH 3 exZ 3) exX exF (hP4.list (cap := cap)) ex_shift hF4 exF_bd (by omega) (by omega) ex_qtb)
  go_wp2_with fail
  refine NU.out.mono ?_
  rintro e w5 ⟨v5, rfl, hk5, hS5⟩
  go_wp2_with fail
  go_ret2
  refine ⟨_, rfl, ?_, CellsAt.congr hS5 (fun i hi => by rw [ex_text i hi])⟩
  have hk13 : Kept w W3 := (hk1.trans hk2).trans hk3
  rw [HW3] at hk13
  exact (Kept.step hk13 hX4 (fun i hi => by subst hi; exact Nat.le_trans hk1.size hgw)).trans hk5
end Go.Proofs.YtlnlddnjalfamaaGreatDoor
namespace Go.Proofs.YtlnlddnjalfamaaGreatDoor
open Go.RowKit Go.Deep

def egZ : Nat → Int := memZ (horsesL 3 9) (horsesL 3 9).length
def egX : Nat → Nat := fun i => if i = 2 then 0 else 1
def egF : Nat → Nat := fun _ => 2
theorem eg_best : best exH 3 = 3 := by decide +kernel
theorem eg_size : size16 3 = 2 := by decide +kernel
theorem eg_val : ∀ t, t < 3 → egZ t = (egX t : Int) := fun t ht => by
  have : t = 0 ∨ t = 1 ∨ t = 2 := by omega
  rcases this with rfl | rfl | rfl <;> decide +kernel
theorem eg_pairs : pairsH exH 3 = [(0, 1), (1, 2)] := by decide +kernel
theorem eg_worth : worZ egZ (pairsH exH 3) (pairsH exH 3).length = ((1 : Nat) : Int) := by decide +kernel
theorem eg_twice : twiceF egF 1 = egF := rfl
theorem eg_q1 : ∀ j, j ≤ 2 → (((qTB 1 egF j).2 : Nat) : Int) < bigU := fun j hj => small_big (by
  have : j = 0 ∨ j = 1 ∨ j = 2 := by omega
  rcases this with rfl | rfl | rfl <;> decide +kernel)
theorem eg_qtb : ∀ i, i < 3 → (∀ j, j ≤ 1 → (((qTB (egX i) egF j).2 : Nat) : Int) < bigU) ∧ (qTB (egX i) egF 1).1 < 100 ∧ (qTB (egX i) egF 1).2 < 100 := fun i hi => by
  have h3 : ∀ i j, i < 3 → j ≤ 1 → (qTB (egX i) egF j).2 ≤ 1000000 := fun i j hi hj => by
    have h1 : i = 0 ∨ i = 1 ∨ i = 2 := by omega
    have h2 : j = 0 ∨ j = 1 := by omega
    rcases h1 with rfl | rfl | rfl <;> rcases h2 with rfl | rfl <;> decide +kernel
  refine ⟨fun j hj => small_big (by have := h3 i j hi hj; omega), ?_⟩
  have : i = 0 ∨ i = 1 ∨ i = 2 := by omega
  rcases this with rfl | rfl | rfl <;> decide +kernel
def egS : Nat → ByteArray := fun i => if i = 2 then ⟨#[48]⟩ else ⟨#[49, 47, 50]⟩
theorem eg_text : ∀ i, i < 3 → partS egX egF 1 i = egS i := fun i hi => by
  have : i = 0 ∨ i = 1 ∨ i = 2 := by omega
  rcases this with rfl | rfl | rfl <;> decide +kernel
theorem eg_one : fracS (qTB 1 egF 2).1 (qTB 1 egF 2).2 = ⟨#[49, 47, 52]⟩ := by decide +kernel
theorem eg_wor : ∀ j, j ≤ (pairsH exH 3).length → worZ egZ (pairsH exH 3) j < bigU := fun j hj => by
  rw [eg_pairs] at hj ⊢
  have : j = 0 ∨ j = 1 ∨ j = 2 := by simp at hj; omega
  refine small_big ?_
  rcases this with rfl | rfl | rfl <;> decide +kernel
theorem eg_mul : ∀ p q, p < 3 → q < 3 → egZ p * egZ q < bigU := fun p q hp hq => by
  refine small_big ?_
  have h1 : p = 0 ∨ p = 1 ∨ p = 2 := by omega
  have h2 : q = 0 ∨ q = 1 ∨ q = 2 := by omega
  rcases h1 with rfl | rfl | rfl <;> rcases h2 with rfl | rfl | rfl <;> decide +kernel
theorem eg_in : ∀ j, j < (pairsH exH 3).length → ((pairsH exH 3).getD j (0, 0)).1 < 3 ∧ ((pairsH exH 3).getD j (0, 0)).2 < 3 := fun j hj => by
  rw [eg_pairs] at hj ⊢
  have : j = 0 ∨ j = 1 := by simp at hj; omega
  rcases this with rfl | rfl <;> decide +kernel
theorem eg_three : ∀ j, (3 : Nat).testBit j = true → j < 3 := fun _ h => bit_small (x := 3) (n := 3) (by omega) h
def GreatestExPost (w : World) (e : Ending) (w' : World) : Prop := ∃ v, e = .returned (.tuple #[.string ⟨#[49, 47, 52]⟩, v, .int .i64 0]) ∧ Kept w w' ∧ StrsAt w' v 3 egS
set_option maxRecDepth 100000 in
set_option maxHeartbeats 4000000 in
theorem Greatest_ex (w : World) (vl : Value) (hL : PairsAt w vl 2 exA exB) :
    Calls Tryz.prog 28 #[.int .i64 3, vl] w (GreatestExPost w) := by
  have HO := Lib.hid (herdOf_any w 3 vl 2 exA exB hL (by omega))
  unfold HerdOfPost at HO
  simp only [ex_good, if_true] at HO
  have EQ := Lib.hid (fun W => equal_any W 3 3 (by omega) (by omega) eg_three)
  clear hL
  go_enter Tryz.func28, Tryz.ntmps28
  go_wp2_with fail
  refine HO.out.mono ?_
  rintro e w1 ⟨hk1, gh, rfl, hgh, hrh⟩
  have GR := Lib.hid (greatest_any w1 gh 3 3 exH hrh ex_lt (by omega) (by omega))
  rw [eg_best] at GR
  go_wp2_with fail
  refine GR.out.mono ?_
  rintro e w2 ⟨rfl, hk2⟩
  go_wp2_with fail
  refine (EQ.out _).mono ?_
  rintro e w3 ⟨g, gf, rfl, hk3, hgw, hP, hF⟩
  rw [eg_size] at hF
  have hS3 : SetsAt w3 (.slice (some ⟨gh, 0, none⟩) 3 3) 3 exH := CellsAt.kept (CellsAt.of_row hrh) (hk2.trans hk3)
  have hz := bx2_row w3 (.slice (some ⟨g, 0, none⟩) 3 3) (.slice (some ⟨gf, 0, none⟩) 1 1) 101
  have hkA : Kept w3 (w3.alloc (.cells #[(.slice (some ⟨g, 0, none⟩) 3 3), (.slice (some ⟨gf, 0, none⟩) 1 1)] 101)) := (Kept.refl w3).alloc _
  obtain ⟨d0, d1, _, _⟩ := bx2_cells hz
  go_upto_region 5 with fail
  generalize w3.alloc (.cells #[(.slice (some ⟨g, 0, none⟩) 3 3), (.slice (some ⟨gf, 0, none⟩) 1 1)] 101) = W3 at *
  obtain ⟨z9, HZ9⟩ : ∃ z, Hid (z = w3.heap.size) := ⟨_, rfl⟩
  rw [← HZ9.out] at d0 d1 ⊢
  clear HZ9
  have hP3 := hP.kept hkA
  have hF3 := CellsAt.kept hF hkA
  have hS4 := CellsAt.kept hS3 hkA
  have WO := Lib.hid (fun W (hk : Kept W3 W) => worth_any W g 3 3 3 gf 1 (.slice (some ⟨gh, 0, none⟩) 3 3) egZ exH egF 1 (by omega) (by omega) (by omega) (hP3.kept hk) (CellsAt.kept hS4 hk) ex_lt (CellsAt.kept hF3 hk) eg_in eg_mul eg_wor eg_worth (fun i _ => by rw [eg_twice]; unfold egF; omega) (by rw [eg_twice]; exact eg_q1) (by rw [eg_twice]; decide +kernel) (by rw [eg_twice]; decide +kernel))
  rw [eg_twice, eg_one] at WO
  have NU := Lib.hid (fun W (hk : Kept W3 W) => nums_any W _ _ 3 1 egZ egX egF ((hP3.kept hk).list (cap := 3)) eg_val (CellsAt.kept hF3 hk) (fun i _ => by unfold egF; omega) (by omega) (by omega) eg_qtb)
  have hKW : Kept w W3 := ((hk1.trans hk2).trans hk3).trans hkA
  clear hP hF hS3 hP3 hF3 hS4 hz hrh GR EQ HO hkA hk1 hk2 hk3
  refine wp_region_held_drew (S := (fun w' => w'.cell? ⟨z9, 0, none⟩ = some (.slice (some ⟨g, 0, none⟩) 3 3) ∧ w'.cell? ⟨z9, 1, none⟩ = some (.slice (some ⟨gf, 0, none⟩) 1 1))) (by kernel_rfl) ?_ (fun hHeld => ?_)
  · (try dsimp only)
    exact ⟨Kept.cellSome (w := W3) (by repeat (first | assumption | exact Kept.refl _ | apply Kept.drew | apply Kept.drewN | apply Kept.alloc | refine Kept.trans ?_ (by assumption))) d0, Kept.cellSome (w := W3) (by repeat (first | assumption | exact Kept.refl _ | apply Kept.drew | apply Kept.drewN | apply Kept.alloc | refine Kept.trans ?_ (by assumption))) d1⟩
  refine wpAnyH_take (i := 0) (oi := { dst := some 23, op := Go.Op.load 101 (Go.Operand.tmp 9), type := 101, pos := "herd.go:91", after := #[], guard := none }) (v := ?v1) rfl (by kernel_rfl) (by kernel_rfl) (by kernel_rfl) (fun _ _ _ h => h) (Or.inl ⟨by rfl, ?hy1⟩) (by assumption) ?rs1
  case hy1 =>
    intro w hSw
    (try dsimp only at hSw)
    go_simp
    try with_reducible rfl
  (try simp only [Act.put, List.setIfInBounds_toArray, List.set_cons_zero, List.set_cons_succ])
  refine wpAnyH_take (i := 1) (oi := { dst := some 24, op := Go.Op.move (Go.Operand.tmp 7), type := 80, pos := "herd.go:91", after := #[], guard := none }) (v := ?v2) rfl (by kernel_rfl) (by kernel_rfl) (by kernel_rfl) (fun _ _ _ h => h) (Or.inl ⟨by rfl, ?hy2⟩) (by assumption) ?rs2
  case hy2 =>
    intro w hSw
    (try dsimp only at hSw)
    go_simp
    try with_reducible rfl
  (try simp only [Act.put, List.setIfInBounds_toArray, List.set_cons_zero, List.set_cons_succ])
  refine wpAnyH_take (i := 3) (oi := { dst := some 26, op := Go.Op.load 101 (Go.Operand.tmp 9), type := 101, pos := "herd.go:91", after := #[], guard := none }) (v := ?v3) rfl (by kernel_rfl) (by kernel_rfl) (by kernel_rfl) (fun _ _ _ h => h) (Or.inl ⟨by rfl, ?hy3⟩) (by assumption) ?rs3
  case hy3 =>
    intro w hSw
    (try dsimp only at hSw)
    go_simp
    try with_reducible rfl
  (try simp only [Act.put, List.setIfInBounds_toArray, List.set_cons_zero, List.set_cons_succ])
  refine wpAnyH_ready (rs := [2]) (by kernel_rfl) (by simp) ?_
  refine AllReadyH.cons (o := { dst := some 25, op := Go.Op.call { callee := Go.Callee.value (Go.Operand.func 54), args := #[Go.Operand.tmp 23, Go.Operand.tmp 24], argTypes := #[101, 80] }, type := 43, pos := "herd.go:91", after := #[{ on := 0, ground := Go.Ground.data }, { on := 1, ground := Go.Ground.data }], guard := none }) rfl (fun K2 hK2 => ?_) AllReadyH.nil
  go_simp
  (go_at_call 54; refine (WO.out _ (by repeat (first | assumption | exact Kept.refl _ | apply Kept.drew | apply Kept.drewN | apply Kept.alloc | refine Kept.trans ?_ (by assumption)))).mono ?_; rintro e u1 ⟨rfl, hu1⟩)
  (try go_wp2_with fail)
  refine hK2.out _ _ ?_ (fun hHeld => ?_)
  · (try dsimp only)
    exact ⟨Kept.cellSome (w := W3) (by repeat (first | assumption | exact Kept.refl _ | apply Kept.drew | apply Kept.drewN | apply Kept.alloc | refine Kept.trans ?_ (by assumption))) d0, Kept.cellSome (w := W3) (by repeat (first | assumption | exact Kept.refl _ | apply Kept.drew | apply Kept.drewN | apply Kept.alloc | refine Kept.trans ?_ (by assumption))) d1⟩
  clear hK2 K2
  (try simp only [Act.put, List.setIfInBounds_toArray, List.set_cons_zero, List.set_cons_succ])
  refine wpAnyH_ready (rs := [4]) (by kernel_rfl) (by simp) ?_
  refine AllReadyH.cons (o := { dst := some 27, op := Go.Op.call { callee := Go.Callee.value (Go.Operand.func 56), args := #[Go.Operand.tmp 26], argTypes := #[101] }, type := 42, pos := "herd.go:91", after := #[{ on := 3, ground := Go.Ground.data }, { on := 2, ground := Go.Ground.chain }], guard := none }) rfl (fun K2 hK2 => ?_) AllReadyH.nil
  go_simp
  (go_at_call 56; refine (NU.out _ (by repeat (first | assumption | exact Kept.refl _ | apply Kept.drew | apply Kept.drewN | apply Kept.alloc | refine Kept.trans ?_ (by assumption)))).mono ?_; rintro e u2 ⟨v2, rfl, hu2, hS2⟩; obtain ⟨ya, yb, yo, yc, rfl, hya, _⟩ := id hS2; obtain rfl := hya (by omega))
  (try go_wp2_with fail)
  refine hK2.out _ _ ?_ (fun hHeld => ?_)
  · (try dsimp only)
    exact ⟨Kept.cellSome (w := W3) (by repeat (first | assumption | exact Kept.refl _ | apply Kept.drew | apply Kept.drewN | apply Kept.alloc | refine Kept.trans ?_ (by assumption))) d0, Kept.cellSome (w := W3) (by repeat (first | assumption | exact Kept.refl _ | apply Kept.drew | apply Kept.drewN | apply Kept.alloc | refine Kept.trans ?_ (by assumption))) d1⟩
  clear hK2 K2
  (try simp only [Act.put, List.setIfInBounds_toArray, List.set_cons_zero, List.set_cons_succ])
  refine wpAnyH_take (i := 5) (oi := { dst := some 4, op := Go.Op.assign (Go.Operand.tmp 25), type := 43, pos := "herd.go:91", after := #[{ on := 2, ground := Go.Ground.data }, { on := 4, ground := Go.Ground.chain }, { on := 0, ground := Go.Ground.phase }, { on := 1, ground := Go.Ground.phase }, { on := 2, ground := Go.Ground.phase }, { on := 3, ground := Go.Ground.textOnly Go.Departure.lateStores }, { on := 4, ground := Go.Ground.textOnly Go.Departure.lateStoresUnsure }], guard := none }) (v := ?v4) rfl (by kernel_rfl) (by kernel_rfl) (by kernel_rfl) (fun _ _ _ h => h) (Or.inl ⟨by rfl, ?hy4⟩) (by assumption) ?rs4
  case hy4 =>
    intro w hSw
    (try dsimp only at hSw)
    go_simp
    try with_reducible rfl
  (try simp only [Act.put, List.setIfInBounds_toArray, List.set_cons_zero, List.set_cons_succ])
  refine wpAnyH_take (i := 6) (oi := { dst := some 5, op := Go.Op.assign (Go.Operand.tmp 27), type := 42, pos := "herd.go:91", after := #[{ on := 4, ground := Go.Ground.data }, { on := 5, ground := Go.Ground.chain }, { on := 0, ground := Go.Ground.phase }, { on := 1, ground := Go.Ground.phase }, { on := 2, ground := Go.Ground.phase }, { on := 3, ground := Go.Ground.phase }, { on := 4, ground := Go.Ground.phase }, { on := 5, ground := Go.Ground.phase }], guard := none }) (v := ?v5) rfl (by kernel_rfl) (by kernel_rfl) (by kernel_rfl) (fun _ _ _ h => h) (Or.inl ⟨by rfl, ?hy5⟩) (by assumption) ?rs5
  case hy5 =>
    intro w hSw
    (try dsimp only at hSw)
    go_simp
    try with_reducible rfl
  (try simp only [Act.put, List.setIfInBounds_toArray, List.set_cons_zero, List.set_cons_succ])
  refine wpAnyH_take (i := 7) (oi := { dst := some 6, op := Go.Op.assign (Go.Operand.const (Go.Value.int Go.IntKind.i64 0)), type := 28, pos := "herd.go:91", after := #[{ on := 6, ground := Go.Ground.chain }, { on := 0, ground := Go.Ground.phase }, { on := 1, ground := Go.Ground.phase }, { on := 2, ground := Go.Ground.phase }, { on := 3, ground := Go.Ground.phase }, { on := 4, ground := Go.Ground.phase }, { on := 5, ground := Go.Ground.phase }, { on := 6, ground := Go.Ground.phase }], guard := none }) (v := ?v6) rfl (by kernel_rfl) (by kernel_rfl) (by kernel_rfl) (fun _ _ _ h => h) (Or.inl ⟨by rfl, ?hy6⟩) (by assumption) ?rs6
  case hy6 =>
    intro w hSw
    (try dsimp only at hSw)
    go_simp
    try with_reducible rfl
  (try simp only [Act.put, List.setIfInBounds_toArray, List.set_cons_zero, List.set_cons_succ])
  refine wpAnyH_done (by kernel_rfl) ?_ _
  have hKN : Kept W3 u2 := (by repeat (first | assumption | exact Kept.refl _ | apply Kept.drew | apply Kept.drewN | apply Kept.alloc | refine Kept.trans ?_ (by assumption)))
  have HSS : Hid (StrsAt u2 (.slice (some ⟨yb, yo, none⟩) 3 yc) 3 egS) := CellsAt.congr hS2 (fun i hi => by rw [eg_text i hi])
  clear hS2 hu1 hu2 d0 d1 hHeld
  go_wp2_with fail
  go_ret3
  exact ⟨_, rfl, hKW.trans hKN, HSS.out⟩
end Go.Proofs.YtlnlddnjalfamaaGreatDoor
