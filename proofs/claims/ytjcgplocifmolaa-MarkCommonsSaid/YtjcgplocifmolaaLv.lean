/-
  The law's lives: the document's examples.
-/
import Derived.Test.YtjcgplocifmolaaMj
import Derived.Test.YtjcgplocifmolaaQs
namespace Go.Proofs.Ytjcgplocifmolaa
open Go.RowKit Go.Deep Go.Sort

def lvL : List Wd := [[48, 48, 48, 48], [48, 49, 49, 48], [49, 48, 48, 49], [49, 49, 49, 49]]
theorem lv_words : codeL 4 0 = lvL := by decide +kernel
theorem lv_restore : (srt (inss [49, 49, 48] 2)).find? (hasL 4 0) = some [48, 49, 49, 48] := by
  rw [← puts_srt]; decide +kernel
theorem lv_remove : (srt (dels [49, 48, 48, 48, 49])).find? (hasL 4 0) = some [49, 48, 48, 49] := by
  rw [← puts_srt]; decide +kernel
theorem lv_common : com [48, 49, 48, 49] [49, 48, 49, 48] = [48, 49, 48] := by decide +kernel
def LivesPost (w : World) (e : Ending) (w' : World) : Prop := e = .returned (.bool true) ∧ Kept w w'
theorem words_4 (w : World) : Calls Try.prog 11 #[.int .i64 4, .int .i64 0] w fun e w' => ∃ v, e = .returned (.tuple #[v, .int .i64 0]) ∧ WdsAt w' v lvL ∧ Kept w w' := by
  refine (Words_any w 4 0).mono ?_
  rintro e w' ⟨hk, _, h⟩
  obtain ⟨v, rfl, hO⟩ := h (by decide)
  refine ⟨v, rfl, ?_, hk⟩
  have h2 := (wds_own hO).2
  have e1 : codeL (4 : Int).toNat (0 : Int).toNat = lvL := lv_words
  rwa [e1] at h2
theorem restore_4 (w : World) : Calls Try.prog 42 #[.int .i64 4, .int .i64 0, .string ⟨#[49, 49, 48]⟩] w fun e w' => e = .returned (.tuple #[.string ⟨#[48, 49, 49, 48]⟩, .int .i64 0]) ∧ Kept w w' := by
  refine (Restore_any w 4 0 [49, 49, 48] (by decide)).mono ?_
  rintro e w' ⟨hk, _, h⟩
  refine ⟨?_, hk⟩
  rw [h (by decide +kernel), show (4 : Int).toNat = 4 from rfl, show (0 : Int).toNat = 0 from rfl, lv_restore]; rfl
theorem remove_4 (w : World) : Calls Try.prog 43 #[.int .i64 4, .int .i64 0, .string ⟨#[49, 48, 48, 48, 49]⟩] w fun e w' => e = .returned (.tuple #[.string ⟨#[49, 48, 48, 49]⟩, .int .i64 0]) ∧ Kept w w' := by
  refine (Remove_any w 4 0 [49, 48, 48, 48, 49] (by decide)).mono ?_
  rintro e w' ⟨hk, _, h⟩
  refine ⟨?_, hk⟩
  rw [h (by decide +kernel), show (4 : Int).toNat = 4 from rfl, show (0 : Int).toNat = 0 from rfl, lv_remove]; rfl
theorem common_4 (w : World) : Calls Try.prog 19 #[.string ⟨#[48, 49, 48, 49]⟩, .string ⟨#[49, 48, 49, 48]⟩] w fun e w' => e = .returned (.tuple #[.string ⟨#[48, 49, 48]⟩, .int .i64 0]) ∧ Kept w w' := by
  refine (Common_any w [48, 49, 48, 49] [49, 48, 49, 48] (by decide) (by decide)).mono ?_
  rintro e w' ⟨hk, _, h⟩
  refine ⟨?_, hk⟩
  rw [h (by decide +kernel), lv_common]; rfl
theorem lit4s (W : World) (a b c d : Wd) (A B C D : ByteArray) (hA : A = bs a) (hB : B = bs b) (hC : C = bs c) (hD : D = bs d) : WdsAt (W.alloc (.cells #[.string A, .string B, .string C, .string D] 9)) (.slice (some ⟨W.heap.size, 0, none⟩) 4 4) [a, b, c, d] := by
  subst hA hB hC hD
  refine ⟨_, W.heap.size, 0, 4, rfl, fun _ => rfl, fun i hi => ?_⟩
  have : i = 0 ∨ i = 1 ∨ i = 2 ∨ i = 3 := by simp at hi; omega
  rcases this with rfl | rfl | rfl | rfl <;> (unfold World.cell?; dsimp only; rw [blk_alloc_new]; rfl)
set_option maxRecDepth 100000 in
set_option maxHeartbeats 1000000 in
theorem lives_any (w : World) : Calls Try.prog 12 #[] w (LivesPost w) := by
  have WO := Lib.hid words_4
  have RE := Lib.hid restore_4
  have RM := Lib.hid remove_4
  have CO := Lib.hid common_4
  have SA := Lib.hid (fun (W : World) (va vb : Value) (ha : WdsAt W va lvL) (hb : WdsAt W vb lvL) => by have h := rSame_any W va vb lvL lvL ha hb (by decide) (by decide); rw [decide_eq_true rfl] at h; exact h)
  go_enter Try.func12, Try.ntmps12
  go_wp2_with (first
    | (go_at_call 11; refine (WO.out _).mono ?_; rintro e w1 ⟨v1, rfl, hV1, hk1⟩)
    | (go_at_call 42; refine (RE.out _).mono ?_; rintro e w2 ⟨rfl, hk2⟩)
    | (go_at_call 43; refine (RM.out _).mono ?_; rintro e w3 ⟨rfl, hk3⟩)
    | (go_at_call 19; refine (CO.out _).mono ?_; rintro e w4 ⟨rfl, hk4⟩; have hV4 := ((hV1.kept hk2).kept hk3).kept hk4)
    | (go_at_call 16; refine (SA.out _ _ _ (hV4.kept ((Kept.refl _).alloc _)) (lit4s w4 _ _ _ _ _ _ _ _ rfl rfl rfl rfl)).mono ?_; rintro e w5 ⟨rfl, hq⟩))
  go_ret
  exact ⟨rfl, ((((hk1.trans hk2).trans hk3).trans hk4).alloc _).trans hq.kept⟩
end Go.Proofs.Ytjcgplocifmolaa
