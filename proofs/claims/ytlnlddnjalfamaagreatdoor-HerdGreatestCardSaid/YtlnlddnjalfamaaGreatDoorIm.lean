/-
  Herd's laws: lives.
-/
import Derived.Test.YtlnlddnjalfamaaGreatDoorIj
import Derived.Test.YtlnlddnjalfamaaGreatDoorIl
import Derived.Test.YtlnlddnjalfamaaGreatDoorHj
import Derived.Test.YtlnlddnjalfamaaGreatDoorHg
namespace Go.Proofs.YtlnlddnjalfamaaGreatDoor
open Go.RowKit Go.Deep

def LivesPost (w : World) (e : Ending) (w' : World) : Prop := e = .returned (.bool true) ∧ Kept w w'
theorem blk_cell {W : World} {c : Array Value} {t : TypeId} (i : Nat) {v : Value} (h : c[i]? = some v) : (W.alloc (.cells c t)).cell? ⟨W.heap.size, i, none⟩ = some v := by
  unfold World.cell?
  dsimp only
  rw [blk_alloc_new]
  exact h
theorem ex_lit (W : World) (t : TypeId) : PairsAt (W.alloc (.cells #[.int .i64 0, .int .i64 1, .int .i64 1, .int .i64 2] t)) (.slice (some ⟨W.heap.size, 0, none⟩) 2 2) 2 exA exB :=
  ⟨_, W.heap.size, 0, 2, rfl, fun _ => rfl, fun i hi => by
    have : i = 0 ∨ i = 1 := by omega
    rcases this with rfl | rfl
    · exact ⟨blk_cell 0 rfl, blk_cell 1 rfl⟩
    · exact ⟨blk_cell 2 rfl, blk_cell 3 rfl⟩⟩
theorem lit2i (W : World) (t : TypeId) (a b : Int) (f : Nat → Int) (h0 : f 0 = a) (h1 : f 1 = b) : IntsAt (W.alloc (.cells #[.int .i64 a, .int .i64 b] t)) (.slice (some ⟨W.heap.size, 0, none⟩) 2 2) 2 f :=
  ⟨_, W.heap.size, 0, 2, rfl, fun _ => rfl, fun i hi => by
    have : i = 0 ∨ i = 1 := by omega
    rcases this with rfl | rfl
    · dsimp only; rw [h0]; exact blk_cell 0 rfl
    · dsimp only; rw [h1]; exact blk_cell 1 rfl⟩
theorem lit3i (W : World) (t : TypeId) (a b c : Int) (f : Nat → Int) (h0 : f 0 = a) (h1 : f 1 = b) (h2 : f 2 = c) : IntsAt (W.alloc (.cells #[.int .i64 a, .int .i64 b, .int .i64 c] t)) (.slice (some ⟨W.heap.size, 0, none⟩) 3 3) 3 f :=
  ⟨_, W.heap.size, 0, 3, rfl, fun _ => rfl, fun i hi => by
    have : i = 0 ∨ i = 1 ∨ i = 2 := by omega
    rcases this with rfl | rfl | rfl
    · dsimp only; rw [h0]; exact blk_cell 0 rfl
    · dsimp only; rw [h1]; exact blk_cell 1 rfl
    · dsimp only; rw [h2]; exact blk_cell 2 rfl⟩
theorem lit3t (W : World) (t : TypeId) (a b c : ByteArray) (f : Nat → ByteArray) (h0 : f 0 = a) (h1 : f 1 = b) (h2 : f 2 = c) : StrsAt (W.alloc (.cells #[.string a, .string b, .string c] t)) (.slice (some ⟨W.heap.size, 0, none⟩) 3 3) 3 f :=
  ⟨_, W.heap.size, 0, 3, rfl, fun _ => rfl, fun i hi => by
    have : i = 0 ∨ i = 1 ∨ i = 2 := by omega
    rcases this with rfl | rfl | rfl
    · dsimp only; rw [h0]; exact blk_cell 0 rfl
    · dsimp only; rw [h1]; exact blk_cell 1 rfl
    · dsimp only; rw [h2]; exact blk_cell 2 rfl⟩
def exG : Nat → Int := fun i => if i = 0 then 0 else 1
def exC : Nat → Int := fun i => if i = 1 then 1 else 0
theorem ex_list : horsesL (best exH 3) 9 = [0, 1] := by rw [eg_best]; decide +kernel
theorem ex_group {W : World} {v : Value} (h : NatsAt W v (horsesL (best exH 3) 9)) : IntsAt W v 2 exG := by
  rw [ex_list] at h
  exact CellsAt.congr h (fun i hi => by
    have : i = 0 ∨ i = 1 := by (try simp at hi); omega
    rcases this with rfl | rfl <;> rfl)
theorem ex_p1 : paintL exH 1 3 [] = none := by decide +kernel
theorem ex_p2 : paintL exH 2 3 [] = some [0, 1, 0] := by decide +kernel
theorem ex_colors {d : List Nat} (h : ColorsIs exH 3 d) : ∀ i, i < 3 → ((lget d i : Nat) : Int) = exC i := fun i hi => by
  obtain ⟨few, f1, f2, f3, f4⟩ := h
  have hf : few = 2 := by
    have h1 : few ≠ 1 := fun e => by rw [e, ex_p1] at f3; cases f3
    have h2 : ¬ 2 < few := fun e => by have := f4 2 (by omega) e; rw [ex_p2] at this; cases this
    omega
  rw [hf, ex_p2] at f3
  injection f3 with f3
  subst f3
  have : i = 0 ∨ i = 1 ∨ i = 2 := by omega
  rcases this with rfl | rfl | rfl <;> decide +kernel
theorem same_self (n : Nat) (f : Nat → Int) : same n f n f = true := by
  unfold same
  rw [decide_eq_true rfl, Bool.true_and, allN_true]
  exact fun i _ => beq_self_eq_true _
set_option maxRecDepth 100000 in
set_option maxHeartbeats 16000000 in
theorem lives_any (w : World) : Calls Tryz.prog 14 #[] w (LivesPost w) := by
  have GP := Lib.hid (fun W v (h : PairsAt W v 2 exA exB) => show Calls Tryz.prog 10 #[.int .i64 3, v] W fun e w' => ∃ a b o c, e = .returned (.tuple #[.slice a 2 c, .int .i64 0]) ∧ Kept W w' ∧ CellsAt w' (.slice a 2 c) 2 (fun i => .int .i64 (exG i)) ∧ (a = some ⟨b, o, none⟩) by
    refine (Group_any W 3 v 2 exA exB h (by omega)).mono ?_
    rintro e w' ⟨hk, g⟩
    rw [if_pos ex_good] at g
    obtain ⟨v', rfl, hn⟩ := g
    have hi := ex_group hn
    obtain ⟨a, b, o, c, rfl, ha, hc⟩ := id hi
    exact ⟨a, b, o, c, rfl, hk, hi, ha (by omega)⟩)
  have CP := Lib.hid (fun W v (h : PairsAt W v 2 exA exB) => show Calls Tryz.prog 49 #[.int .i64 3, v] W fun e w' => ∃ a b o c, e = .returned (.tuple #[.slice a 3 c, .int .i64 0]) ∧ Kept W w' ∧ CellsAt w' (.slice a 3 c) 3 (fun i => .int .i64 (exC i)) ∧ (a = some ⟨b, o, none⟩) by
    refine (Colors_any W 3 v 2 exA exB h (by omega)).mono ?_
    rintro e w' ⟨hk, g⟩
    rw [if_pos ex_good] at g
    obtain ⟨v', d, rfl, hd, hn⟩ := g
    have hi : IntsAt w' v' 3 exC := CellsAt.congr hn (fun i hi => by (try dsimp only); rw [ex_colors hd i hi])
    obtain ⟨a, b, o, c, rfl, ha, hc⟩ := id hi
    exact ⟨a, b, o, c, rfl, hk, hi, ha (by omega)⟩)
  have SP := Lib.hid (fun W vl vw h1 h2 => Shift_ex W vl vw h1 h2)
  have QP := Lib.hid (fun W vl h1 => Greatest_ex W vl h1)
  have M1 := Lib.hid (fun W u v (h1 : IntsAt W u 2 exG) (h2 : IntsAt W v 2 exG) => show Calls Tryz.prog 17 #[u, v] W fun e w' => e = .returned (.bool true) ∧ Quiet W w' by
    have h := same_any W u v 2 2 exG exG h1 h2 (by omega) (by omega)
    rwa [same_self] at h)
  have M2 := Lib.hid (fun W u v (h1 : IntsAt W u 3 exC) (h2 : IntsAt W v 3 exC) => show Calls Tryz.prog 17 #[u, v] W fun e w' => e = .returned (.bool true) ∧ Quiet W w' by
    have h := same_any W u v 3 3 exC exC h1 h2 (by omega) (by omega)
    rwa [same_self] at h)
  have R1 := Lib.hid (fun W u v (h1 : StrsAt W u 3 exS) (h2 : StrsAt W v 3 exS) => SameRow_any W u v 3 exS h1 h2 (by omega))
  have R2 := Lib.hid (fun W u v (h1 : StrsAt W u 3 egS) (h2 : StrsAt W v 3 egS) => SameRow_any W u v 3 egS h1 h2 (by omega))
  have L1 := Lib.hid (fun W => ex_lit W 94)
  have L2 := Lib.hid (fun W => lit2i W 3 0 1 exG rfl rfl)
  have L3 := Lib.hid (fun W => lit3i W 3 0 1 0 exC rfl rfl rfl)
  have L4 := Lib.hid (fun W => lit3t W 43 ⟨#[49, 47, 50]⟩ ⟨#[49, 47, 52]⟩ ⟨#[49, 47, 52]⟩ (fun i => oneS (exF i)) rfl rfl rfl)
  have L5 := Lib.hid (fun W => lit3t W 43 ⟨#[51, 47, 52]⟩ ⟨#[49, 47, 52]⟩ ⟨#[48]⟩ exS rfl rfl rfl)
  have L6 := Lib.hid (fun W => lit3t W 43 ⟨#[49, 47, 50]⟩ ⟨#[49, 47, 50]⟩ ⟨#[48]⟩ egS rfl rfl rfl)
  unfold ShiftExPost at SP
  unfold GreatestExPost at QP
  have HL0 := L1.out w
  have hk0 : Kept w (w.alloc (.cells #[.int .i64 0, .int .i64 1, .int .i64 1, .int .i64 2] 94)) := (Kept.refl w).alloc _
  go_enter Tryz.func14, Tryz.ntmps14
  go_wp2_with fail
  refine (GP.out _ _ HL0).mono ?_
  rintro e w1 ⟨a1, b1, o1, c1, rfl, hk1, hi1, rfl⟩
  have HL1 : PairsAt w1 (.slice (some ⟨w.heap.size, 0, none⟩) 2 2) 2 exA exB := by
    obtain ⟨a, b, o, c, e, ha, hc⟩ := HL0
    exact ⟨a, b, o, c, e, ha, fun i hi => ⟨hk1.cellSome (hc i hi).1, hk1.cellSome (hc i hi).2⟩⟩
  go_wp2_with fail
  refine (CP.out _ _ HL1).mono ?_
  rintro e w2 ⟨a2, b2, o2, c2, rfl, hk2, hi2, rfl⟩
  have hk2' : Kept w2 (w2.alloc (.cells #[.string ⟨#[49, 47, 50]⟩, .string ⟨#[49, 47, 52]⟩, .string ⟨#[49, 47, 52]⟩] 43)) := (Kept.refl w2).alloc _
  have HL2 : PairsAt (w2.alloc (.cells #[.string ⟨#[49, 47, 50]⟩, .string ⟨#[49, 47, 52]⟩, .string ⟨#[49, 47, 52]⟩] 43)) (.slice (some ⟨w.heap.size, 0, none⟩) 2 2) 2 exA exB := by
    obtain ⟨a, b, o, c, e, ha, hc⟩ := HL1
    exact ⟨a, b, o, c, e, ha, fun i hi => ⟨(hk2.trans hk2').cellSome (hc i hi).1, (hk2.trans hk2').cellSome (hc i hi).2⟩⟩
  have HW2 := L4.out w2
  go_wp2_with fail
  refine (SP.out _ _ _ HL2 HW2).mono ?_
  rintro e w3 ⟨v3, rfl, hk3, hs3⟩
  obtain ⟨a3, b3, o3, c3, rfl, ha3, _⟩ := id hs3
  obtain rfl := ha3 (by omega)
  have HL3 : PairsAt w3 (.slice (some ⟨w.heap.size, 0, none⟩) 2 2) 2 exA exB := by
    obtain ⟨a, b, o, c, e, ha, hc⟩ := HL2
    exact ⟨a, b, o, c, e, ha, fun i hi => ⟨hk3.cellSome (hc i hi).1, hk3.cellSome (hc i hi).2⟩⟩
  go_wp2_with fail
  refine (QP.out _ _ HL3).mono ?_
  rintro e w4 ⟨v4, rfl, hk4, hs4⟩
  obtain ⟨a4, b4, o4, c4, rfl, ha4, _⟩ := id hs4
  obtain rfl := ha4 (by omega)
  have hi1' := CellsAt.kept hi1 (((hk2.trans hk2').trans hk3).trans hk4)
  have hi2' := CellsAt.kept hi2 ((hk2'.trans hk3).trans hk4)
  have hs3' := CellsAt.kept hs3 hk4
  have hkw4 : Kept w w4 := ((((hk0.trans hk1).trans hk2).trans hk2').trans hk3).trans hk4
  have e1 : ((⟨#[49, 47, 52]⟩ : ByteArray).toList == (⟨#[49, 47, 52]⟩ : ByteArray).toList) = true := by simp
  clear HL0 HL1 HL2 HL3 HW2 hi1 hi2 hs3 hk0 hk1 hk2 hk2' hk3 hk4 GP CP SP QP L1 L4 ha3 ha4
  have k5 : Kept w4 (w4.alloc (.cells #[.int .i64 0, .int .i64 1] 3)) := (Kept.refl w4).alloc _
  have l5 := L2.out w4
  go_wp2_with fail
  refine (M1.out _ _ _ (CellsAt.kept hi1' k5) l5).mono ?_
  rintro e w5 ⟨rfl, hq5⟩
  have k6 : Kept w5 (w5.alloc (.cells #[.int .i64 0, .int .i64 1, .int .i64 0] 3)) := (Kept.refl w5).alloc _
  have l6 := L3.out w5
  go_wp2_with fail
  refine (M2.out _ _ _ (CellsAt.kept hi2' ((k5.trans hq5.kept).trans k6)) l6).mono ?_
  rintro e w6 ⟨rfl, hq6⟩
  have k7 : Kept w6 (w6.alloc (.cells #[.string ⟨#[51, 47, 52]⟩, .string ⟨#[49, 47, 52]⟩, .string ⟨#[48]⟩] 43)) := (Kept.refl w6).alloc _
  have l7 := L5.out w6
  go_wp2_with fail
  refine (R1.out _ _ _ (CellsAt.kept hs3' ((((k5.trans hq5.kept).trans k6).trans hq6.kept).trans k7)) l7).mono ?_
  rintro e w7 ⟨rfl, hq7⟩
  have k8 : Kept w7 (w7.alloc (.cells #[.string ⟨#[49, 47, 50]⟩, .string ⟨#[49, 47, 50]⟩, .string ⟨#[48]⟩] 43)) := (Kept.refl w7).alloc _
  have l8 := L6.out w7
  go_wp2_with fail
  refine (R2.out _ _ _ (CellsAt.kept hs4 ((((((k5.trans hq5.kept).trans k6).trans hq6.kept).trans k7).trans hq7.kept).trans k8)) l8).mono ?_
  rintro e w8 ⟨rfl, hq8⟩
  go_wp2_with fail
  go_ret
  exact ⟨rfl, ((((((((hkw4.trans k5).trans hq5.kept).trans k6).trans hq6.kept).trans k7).trans hq7.kept).trans k8).trans hq8.kept)⟩
end Go.Proofs.YtlnlddnjalfamaaGreatDoor
