/-
  The law's lives: the document's examples.
-/
import Derived.Test.YthigeafojekclaaDoorGp
import Derived.Test.YthigeafojekclaaDoorGg
import Derived.Test.YthigeafojekclaaDoorGn
import Derived.Test.YthigeafojekclaaDoorQs
namespace Go.Proofs.YthigeafojekclaaDoor
open Go.RowKit Go.Deep Go.Shelf

def ppm : ByteArray := ⟨#[43, 43, 45]⟩
theorem ppm_row : ppm = rowS 3 (fun i => i == 2) := rfl
theorem ppm_c : rowC ppm = 0 := by rw [ppm_row]; exact rowC_rowS (by omega) (by omega)
def lv3 : Nat → Int := fun i => if i = 0 then 3 else if i = 1 then 0 else -1
theorem ppm_like : ∀ i, i < 3 → likeS ppm 3 i = lv3 i := by
  intro i hi
  rw [ppm_row, likeS_row _ _ _ (by omega)]
  have : i = 0 ∨ i = 1 ∨ i = 2 := by omega
  rcases this with rfl | rfl | rfl <;> decide +kernel
theorem ppm_sq : sqS ppm = 1 := by
  rw [ppm_row, sqS_row]
  decide +kernel
theorem quo92 : quoS 9 2 = ⟨#[57, 47, 50]⟩ := by
  have hg : Nat.gcd 2 9 = 1 := by decide +kernel
  have d9 : decS 9 = ⟨#[57]⟩ := by unfold decS; rw [Lib.decDigits_one (by omega)]; rfl
  have d2 : decS 2 = ⟨#[50]⟩ := by unfold decS; rw [Lib.decDigits_one (by omega)]; rfl
  unfold quoS
  rw [hg, if_neg (by omega), Nat.div_one, Nat.div_one, d9, d2]
  rfl
def pal3 : Nat → ByteArray := fun i => if i = 0 then ⟨#[43, 43, 43, 43]⟩ else if i = 1 then ⟨#[45, 43, 43, 45]⟩ else if i = 2 then ⟨#[45, 45, 43, 43]⟩ else ⟨#[45, 43, 45, 43]⟩
theorem pal3_is : sameS 4 (palS 3) 4 pal3 = true := by decide +kernel
theorem gx2 : gx 2 = 0 := by decide +kernel
theorem gy2 : gy 2 0 = 1 := by decide +kernel
def LivesPost (w : World) (e : Ending) (w' : World) : Prop := e = .returned (.bool true) ∧ Kept w w'
theorem like_ppm (w : World) : Calls Tryd.prog 6 #[.string ⟨#[43, 43, 45]⟩] w fun e w' => ∃ r, e = .returned (.tuple #[.slice (some ⟨r, 0, none⟩) 3 3, .int .i64 0]) ∧ IntsAt w' (.slice (some ⟨r, 0, none⟩) 3 3) 3 lv3 ∧ Kept w w' := by
  refine (Like_any w ppm (by decide)).mono ?_
  rintro e w' ⟨hk, h⟩
  rw [if_pos ppm_c] at h
  obtain ⟨r, rfl, _, hr⟩ := h
  exact ⟨r, rfl, CellsAt.of_row (hr.congr (fun i hi => by rw [← ppm_like i hi]; rfl)), hk⟩
theorem merit_ppm (w : World) : Calls Tryd.prog 8 #[.string ⟨#[43, 43, 45]⟩] w fun e w' => e = .returned (.tuple #[.string ⟨#[57, 47, 50]⟩, .int .i64 0]) ∧ Kept w w' := by
  refine (Merit_any w ppm (by decide) (fun _ _ => ?_)).mono ?_
  · rw [ppm_sq]
    have h1 : ppm.size * ppm.size / Nat.gcd (2 * (1 : Int).toNat) (ppm.size * ppm.size) = 9 := by decide +kernel
    have h2 : 2 * (1 : Int).toNat / Nat.gcd (2 * (1 : Int).toNat) (ppm.size * ppm.size) = 2 := by decide +kernel
    rw [h1, h2]
    exact ⟨ItoaOk.small w 9 (by omega), ItoaOk.small w 2 (by omega)⟩
  · rintro e w' ⟨hk, h⟩
    rw [if_pos ppm_c, ppm_sq, if_neg (by omega)] at h
    have h3 : quoS (ppm.size * ppm.size) (2 * (1 : Int).toNat) = ⟨#[57, 47, 50]⟩ := quo92
    rw [h3] at h
    exact ⟨h, hk⟩
theorem paley_3 (w : World) : Calls Tryd.prog 26 #[.int .i64 3] w fun e w' => ∃ v, e = .returned (.tuple #[v, .int .i64 0]) ∧ StrsAt w' v 4 (palS 3) ∧ Kept w w' := by
  refine (Paley_any w 3).mono ?_
  rintro e w' ⟨hk, h⟩
  have hp : palOk 3 = true := by decide +kernel
  rw [if_pos hp] at h
  obtain ⟨v, rfl, hO⟩ := h
  exact ⟨v, rfl, strs_own hO, hk⟩
theorem golay_2 (w : World) : Calls Tryd.prog 27 #[.int .i64 2] w fun e w' => e = .returned (.tuple #[.string ⟨#[43, 43]⟩, .string ⟨#[43, 45]⟩, .int .i64 0]) ∧ Kept w w' := by
  refine (Golay_any w 2).mono ?_
  rintro e w' ⟨hk, h⟩
  have h2 : (2 : Int).toNat = 2 := rfl
  rw [if_pos (by omega), h2, gx2, if_pos (by decide), gy2] at h
  exact ⟨h, hk⟩
theorem lit3 (W : World) (a b c : Int) (s : Nat) (hs : W.heap.size = s) (f : Nat → Int) (h0 : f 0 = a) (h1 : f 1 = b) (h2 : f 2 = c) : IntsAt (W.alloc (.cells #[.int .i64 a, .int .i64 b, .int .i64 c] 3)) (.slice (some ⟨s, 0, none⟩) 3 3) 3 f := by
  subst hs
  refine ⟨_, W.heap.size, 0, 3, rfl, fun _ => rfl, fun i hi => ?_⟩
  have : i = 0 ∨ i = 1 ∨ i = 2 := by omega
  rcases this with rfl | rfl | rfl
  · dsimp only; rw [h0]; unfold World.cell?; dsimp only; rw [blk_alloc_new]; rfl
  · dsimp only; rw [h1]; unfold World.cell?; dsimp only; rw [blk_alloc_new]; rfl
  · dsimp only; rw [h2]; unfold World.cell?; dsimp only; rw [blk_alloc_new]; rfl
theorem lit4s (W : World) (a b c d : ByteArray) (s : Nat) (hs : W.heap.size = s) (f : Nat → ByteArray) (h0 : f 0 = a) (h1 : f 1 = b) (h2 : f 2 = c) (h3 : f 3 = d) : StrsAt (W.alloc (.cells #[.string a, .string b, .string c, .string d] 9)) (.slice (some ⟨s, 0, none⟩) 4 4) 4 f := by
  subst hs
  refine ⟨_, W.heap.size, 0, 4, rfl, fun _ => rfl, fun i hi => ?_⟩
  have : i = 0 ∨ i = 1 ∨ i = 2 ∨ i = 3 := by omega
  rcases this with rfl | rfl | rfl | rfl
  · dsimp only; rw [h0]; unfold World.cell?; dsimp only; rw [blk_alloc_new]; rfl
  · dsimp only; rw [h1]; unfold World.cell?; dsimp only; rw [blk_alloc_new]; rfl
  · dsimp only; rw [h2]; unfold World.cell?; dsimp only; rw [blk_alloc_new]; rfl
  · dsimp only; rw [h3]; unfold World.cell?; dsimp only; rw [blk_alloc_new]; rfl
theorem same3 : same 3 lv3 3 lv3 = true := by decide +kernel
set_option maxRecDepth 100000 in
set_option maxHeartbeats 4000000 in
theorem lives_any (w : World) : Calls Tryd.prog 10 #[] w (LivesPost w) := by
  have LI := Lib.hid like_ppm
  have ME := Lib.hid merit_ppm
  have PA := Lib.hid paley_3
  have GO := Lib.hid golay_2
  have SA := Lib.hid (fun (W : World) (r s : Nat) (h : IntsAt W (.slice (some ⟨r, 0, none⟩) 3 3) 3 lv3) (hs : W.heap.size = s) => show Calls Tryd.prog 11 #[.slice (some ⟨r, 0, none⟩) 3 3, .slice (some ⟨s, 0, none⟩) 3 3] (W.alloc (.cells #[.int .i64 3, .int .i64 0, .int .i64 (-1)] 3)) fun e w' => e = .returned (.bool true) ∧ Kept W w' by
    refine (same_any _ _ _ 3 3 lv3 lv3 (h.kept ((Kept.refl _).alloc _)) (lit3 W 3 0 (-1) s hs lv3 rfl rfl rfl) (by omega) (by omega)).mono ?_
    rintro e w' ⟨rfl, hq⟩
    exact ⟨by rw [same3], ((Kept.refl _).alloc _).trans hq.kept⟩)
  have SB := Lib.hid (fun (W : World) (v : Value) (s : Nat) (h : StrsAt W v 4 (palS 3)) (hs : W.heap.size = s) => show Calls Tryd.prog 28 #[v, .slice (some ⟨s, 0, none⟩) 4 4] (W.alloc (.cells #[.string ⟨#[43, 43, 43, 43]⟩, .string ⟨#[45, 43, 43, 45]⟩, .string ⟨#[45, 45, 43, 43]⟩, .string ⟨#[45, 43, 45, 43]⟩] 9)) fun e w' => e = .returned (.bool true) ∧ Kept W w' by
    refine (sameS_any _ _ _ 4 4 (palS 3) pal3 (h.kept ((Kept.refl _).alloc _)) (lit4s W _ _ _ _ s hs pal3 rfl rfl rfl rfl) (by omega) (by omega)).mono ?_
    rintro e w' ⟨rfl, hq⟩
    exact ⟨by rw [pal3_is], ((Kept.refl _).alloc _).trans hq.kept⟩)
  go_enter Tryd.func10, Tryd.ntmps10
  go_wp2_with (first
    | (go_at_call 6; refine (LI.out _).mono ?_; rintro e w1 ⟨r, rfl, hI1, hk1⟩)
    | (go_at_call 8; refine (ME.out _).mono ?_; rintro e w2 ⟨rfl, hk2⟩; have hI2 := hI1.kept hk2)
    | (go_at_call 26; refine (PA.out _).mono ?_; rintro e w3 ⟨v, rfl, hS3, hk3⟩; have hI3 := hI2.kept hk3)
    | (go_at_call 27; refine (GO.out _).mono ?_; rintro e w4 ⟨rfl, hk4⟩; have hI4 := hI3.kept hk4; have hS4 := hS3.kept hk4)
    | (go_at_call 11; refine (SA.out _ _ _ hI4 rfl).mono ?_; rintro e w5 ⟨rfl, hk5⟩; have hS5 := hS4.kept hk5)
    | (go_at_call 28; refine (SB.out _ _ _ hS5 rfl).mono ?_; rintro e w6 ⟨rfl, hk6⟩))
  go_ret
  exact ⟨rfl, ((((hk1.trans hk2).trans hk3).trans hk4).trans hk5).trans hk6⟩
end Go.Proofs.YthigeafojekclaaDoor
