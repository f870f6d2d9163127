/-
  Package herd: Shift of the document's example.
-/
import Derived.Test.YtfbiinjpljmapaaDoorIc
import Derived.Test.YtfbiinjpljmapaaDoorHe
import Derived.Test.YtfbiinjpljmapaaDoorHp
namespace Go.Proofs.YtfbiinjpljmapaaDoor
open Go.RowKit Go.Deep

def exA : Nat → Int := fun i => if i = 0 then 0 else 1
def exB : Nat → Int := fun i => if i = 0 then 1 else 2
def exH : Nat → Nat := alongH exA exB 2
theorem ex_good : goodH 3 exA exB 2 = true := by decide +kernel
theorem ex_lt : ∀ t, t < 3 → exH t < 65536 := fun t ht => by
  have : t = 0 ∨ t = 1 ∨ t = 2 := by omega
  rcases this with rfl | rfl | rfl <;> decide +kernel
theorem bit_small {x b n : Nat} (hx : x < 2 ^ n) (h : x.testBit b = true) : b < n := by
  rcases Nat.lt_or_ge b n with h1 | h1
  · exact h1
  · rw [Nat.testBit_lt_two_pow (Nat.lt_of_lt_of_le hx (Nat.pow_le_pow_right (by omega) h1))] at h
    cases h
theorem ex_bit : ∀ t, t < 3 → ∀ b, (exH t).testBit b = true → b < 3 := fun t ht b hb => by
  refine bit_small (x := exH t) (n := 3) ?_ hb
  have : t = 0 ∨ t = 1 ∨ t = 2 := by omega
  rcases this with rfl | rfl | rfl <;> decide +kernel
def exF : Nat → Nat := fun i => if i = 0 then 2 else 4
def exT : Nat → Nat := fun _ => 1
def exX : Nat → Nat := fun i => if i = 0 then 24 else if i = 1 then 8 else 0
def exZ : Nat → Int := partZ exT exF 3
theorem ex_sum : sumZ exZ 3 = prodN exF 3 := by decide +kernel
theorem ex_goodZ : GoodZ exZ 3 32 where
  pos := fun t ht => by
    have : t = 0 ∨ t = 1 ∨ t = 2 := by omega
    rcases this with rfl | rfl | rfl <;> decide +kernel
  sum := by decide +kernel
theorem ex_shift : ∀ t, t < 3 → shiftZ exH 3 exZ 3 t = (exX t : Int) := fun t ht => by
  have : t = 0 ∨ t = 1 ∨ t = 2 := by omega
  rcases this with rfl | rfl | rfl <;> decide +kernel
theorem big_320 : (10 : Int) * 32 < bigU := by
  have h := tw_big
  have h1 := tw_le (i := 1) (j := 20) (by omega)
  unfold tw at *
  omega
theorem small_big {x : Int} (h : x ≤ 1000000) : x < bigU := by
  have h2 := tw_big
  have h1 := tw_le (i := 1) (j := 20) (by omega)
  unfold tw at *
  omega
theorem ex_qtb : ∀ i, i < 3 → (∀ j, j ≤ 3 → (((qTB (exX i) exF j).2 : Nat) : Int) < bigU) ∧ (qTB (exX i) exF 3).1 < 10 ∧ (qTB (exX i) exF 3).2 < 10 := fun i hi => by
  have h3 : ∀ i j, i < 3 → j ≤ 3 → (qTB (exX i) exF j).2 ≤ 1000000 := fun i j hi hj => by
    have h1 : i = 0 ∨ i = 1 ∨ i = 2 := by omega
    have h2 : j = 0 ∨ j = 1 ∨ j = 2 ∨ j = 3 := by omega
    rcases h1 with rfl | rfl | rfl <;> rcases h2 with rfl | rfl | rfl | rfl <;> decide +kernel
  refine ⟨fun j hj => small_big (by have := h3 i j hi hj; omega), ?_⟩
  have : i = 0 ∨ i = 1 ∨ i = 2 := by omega
  rcases this with rfl | rfl | rfl <;> decide +kernel
theorem exF_bd : ∀ i, i < 3 → 0 < exF i ∧ exF i ≤ 1000000000000 := fun i hi => by
  have : i = 0 ∨ i = 1 ∨ i = 2 := by omega
  rcases this with rfl | rfl | rfl <;> decide +kernel
def exS : Nat → ByteArray := fun i => if i = 0 then ⟨#[51, 47, 52]⟩ else if i = 1 then ⟨#[49, 47, 52]⟩ else ⟨#[48]⟩
theorem ex_text : ∀ i, i < 3 → partS exX exF 3 i = exS i := fun i hi => by
  have : i = 0 ∨ i = 1 ∨ i = 2 := by omega
  rcases this with rfl | rfl | rfl <;> decide +kernel
def ShiftExPost (w : World) (e : Ending) (w' : World) : Prop := ∃ v, e = .returned (.tuple #[v, .int .i64 0]) ∧ Kept w w' ∧ StrsAt w' v 3 exS
set_option maxRecDepth 100000 in
set_option maxHeartbeats 4000000 in
theorem Shift_ex (w : World) (vl vw : Value) (hL : PairsAt w vl 2 exA exB) (hW : StrsAt w vw 3 (fun i => oneS (exF i))) :
    Calls Tryd.prog 37 #[.int .i64 3, vl, vw] w (ShiftExPost w) := by
  have HO := Lib.hid (herdOf_any w 3 vl 2 exA exB hL (by omega))
  unfold HerdOfPost at HO
  simp only [ex_good, if_true] at HO
  have LO := Lib.hid (fun W (hk : Kept w W) => loadOf_any W 3 vw (fun i => oneS (exF i)) exT exF (by omega) (by omega) (CellsAt.kept hW hk)
    (fun i hi W2 => by
      have h := weightOf_one W2 (d := exF i) (by unfold exF; split <;> omega) (by unfold exF; split <;> omega)
      exact h) (fun i _ => by unfold exT; omega) (fun i hi => (exF_bd i hi).2) ex_sum)
  clear hW hL
  go_enter Tryd.func37, Tryd.ntmps37
  go_wp2_with fail
  refine HO.out.mono ?_
  rintro e w1 ⟨hk1, gh, rfl, hgh, hrh⟩
  go_wp2_with fail
  refine (LO.out _ hk1).mono ?_
  rintro e w2 ⟨g, N, cap, gf, rfl, hk2, hgw, hP, hF⟩
  have hS2 : SetsAt w2 (.slice (some ⟨gh, 0, none⟩) 3 3) 3 exH := CellsAt.kept (CellsAt.of_row hrh) hk2
  obtain ⟨W3, HW3⟩ : ∃ W3, W3 = w2.alloc (.cells #[.slice (some ⟨g, 0, none⟩) 3 cap, .slice (some ⟨gf, 0, none⟩) 3 3] 92) := ⟨_, rfl⟩
  have hk3 : Kept w2 W3 := by rw [HW3]; exact (Kept.refl w2).alloc _
  have hz3 : W3.rowIs w2.heap.size 92 2 (bx2 (.slice (some ⟨g, 0, none⟩) 3 cap) (.slice (some ⟨gf, 0, none⟩) 3 3)) := by rw [HW3]; exact bx2_row _ _ _ _
  have hgl : g < w2.heap.size := by obtain ⟨P, h1, _⟩ := hP; exact h1.lt
  have SH := Lib.hid (shift_any W3 g N 3 cap (some ⟨gf, 0, none⟩) 3 3 gh 3 exZ exH 32 (hP.kept hk3) (CellsAt.kept hS2 hk3) ex_lt ex_bit (by omega) ex_goodZ big_320 (by omega))
  have hF3 := CellsAt.kept hF hk3
  obtain ⟨d0, d1, _, _⟩ := bx2_cells hz3
  rw [HW3] at d0 d1 SH
  go_wp2_with fail
  refine SH.out.mono ?_
  rintro e w4 ⟨rfl, hX4, hI4, hP4⟩
  have hzg : ¬ w2.heap.size = g := by omega
  have dd0 := KeptX.cellSome hX4 d0 hzg
  have dd1 := KeptX.cellSome hX4 d1 hzg
  have hF4 := CellsAt.keptI hF3 (fun i _ => ⟨_, _, rfl⟩) (by rw [HW3]; exact hI4)
  have NU := Lib.hid (nums_any w4 _ _ 3 3 (shiftZ exH 3 exZ 3) exX exF (hP4.list (cap := cap)) ex_shift hF4 exF_bd (by omega) (by omega) ex_qtb)
  go_wp2_with fail
  refine NU.out.mono ?_
  rintro e w5 ⟨v5, rfl, hk5, hS5⟩
  go_wp2_with fail
  go_ret2
  refine ⟨_, rfl, ?_, CellsAt.congr hS5 (fun i hi => by rw [ex_text i hi])⟩
  have hk13 : Kept w W3 := (hk1.trans hk2).trans hk3
  rw [HW3] at hk13
  exact (Kept.step hk13 hX4 (fun i hi => by subst hi; exact Nat.le_trans hk1.size hgw)).trans hk5
end Go.Proofs.YtfbiinjpljmapaaDoor
