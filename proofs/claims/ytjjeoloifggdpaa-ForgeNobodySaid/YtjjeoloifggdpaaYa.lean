/-
  The law ForgeNobody, walked.
-/
import Derived.Test.YtjjeoloifggdpaaVr
namespace Go.Proofs.Ytjjeoloifggdpaa
open Go.RowKit Go.Deep Go.Sort

set_option maxRecDepth 100000 in
set_option maxHeartbeats 4000000 in
theorem nobody_any (w : World) (x y : Int) : Calls Try.prog 11 #[.int .i64 x, .int .i64 y] w (LivesPost w) := by
  have LV := Lib.hid lives_any
  unfold LivesPost at LV ⊢
  have b0 : (w.alloc (.cells #[.pointer none, .slice none 0 0, .slice none 0 0, .slice none 0 0, .int .i64 0] 69)).cell? ⟨w.heap.size, 0, none⟩ = some (.pointer none) := by
    unfold World.cell?; dsimp only; rw [blk_alloc_new]; rfl
  have hk1 : Kept w (w.alloc (.cells #[.pointer none, .slice none 0 0, .slice none 0 0, .slice none 0 0, .int .i64 0] 69)) := (Kept.refl w).alloc _
  have hz1 : (w.alloc (.cells #[.pointer none, .slice none 0 0, .slice none 0 0, .slice none 0 0, .int .i64 0] 69)).heap.size = w.heap.size + 1 := World.size_alloc _ _
  go_enter Try.func11, Try.ntmps11
  go_wp2_with fail
  generalize w.alloc (.cells #[.pointer none, .slice none 0 0, .slice none 0 0, .slice none 0 0, .int .i64 0] 69) = W1 at *
  have hNV : Hid (∀ W, Kept W1 W → NoVil W (.pointer none) ∧ NoVil W (.pointer (some ⟨w.heap.size, 0, none⟩))) := Lib.hid (fun W k => ⟨.inl rfl, .inr ⟨_, rfl, k.cellSome b0⟩⟩)
  rw [← hz1]
  obtain ⟨B, HB⟩ : ∃ B, Hid (B = w.heap.size) := ⟨_, rfl⟩
  rw [← HB.out] at hNV ⊢
  obtain ⟨c0, c1⟩ := box2 W1 (.pointer none) (.pointer (some ⟨B, 0, none⟩)) 24
  have hk2 : Kept W1 (W1.alloc (.cells #[.pointer none, .pointer (some ⟨B, 0, none⟩)] 24)) := (Kept.refl W1).alloc _
  generalize W1.alloc (.cells #[.pointer none, .pointer (some ⟨B, 0, none⟩)] 24) = W2 at *
  clear b0 hz1
  go_loopg [13] 2 (fun g s13 wr => ∃ k : Nat, k ≤ 2 ∧ g = 2 - k ∧ s13 = .int .i64 k ∧ Kept W2 wr)
  case atStart => exact ⟨0, by omega, rfl, rfl, Kept.refl _⟩
  case round =>
    obtain ⟨k, hk, rfl, rfl, hK⟩ := hrel
    by_cases hlt : k < 2
    · have s2 : (k : Int) < 2 := by omega
      have s3 : (0 : Int) ≤ (k : Int) := by omega
      obtain ⟨v, hv, hc⟩ : ∃ v : Value, Hid (∀ W, Kept W2 W → NoVil W v) ∧ wr.cell? ⟨W1.heap.size, k, none⟩ = some v := by
        rcases (by omega : k = 0 ∨ k = 1) with rfl | rfl
        · exact ⟨_, Lib.hid fun W kw => (hNV.out W (hk2.trans kw)).1, hK.cellSome c0⟩
        · exact ⟨_, Lib.hid fun W kw => (hNV.out W (hk2.trans kw)).2, hK.cellSome c1⟩
      clear c0 c1
      have A1 := Lib.hid (fun (W : World) (kw : Kept W2 W) => Want_no W v x (hv.out W kw))
      have A2 := Lib.hid (fun (W : World) (kw : Kept W2 W) => Leave_no W v x (hv.out W kw))
      have A3 := Lib.hid (fun (W : World) (kw : Kept W2 W) => Deliver_no W v x y (hv.out W kw))
      have A4 := Lib.hid (fun (W : World) (kw : Kept W2 W) => At_no W v (hv.out W kw))
      have A5 := Lib.hid (fun (W : World) (kw : Kept W2 W) => Way_no W v x (hv.out W kw))
      have A6 := Lib.hid (fun (W : World) (kw : Kept W2 W) => Asked_no W v x (hv.out W kw))
      have A7 := Lib.hid (fun (W : World) (kw : Kept W2 W) => List_no W v x (hv.out W kw))
      have A8 := Lib.hid (fun (W : World) (kw : Kept W2 W) => Flight_no W v (hv.out W kw))
      have A9 := Lib.hid (fun (W : World) (kw : Kept W2 W) => Sent_no W v (hv.out W kw))
      have A10 := Lib.hid (fun (W : World) (kw : Kept W2 W) => Clone_no W v (hv.out W kw))
      go_wp2_with (first
        | (go_at_call 18; refine (A1.out _ hK).mono ?_; rintro e u1 ⟨rfl, h1⟩; have h1 := hK.trans h1)
        | (go_at_call 20; refine (A2.out _ h1).mono ?_; rintro e u2 ⟨rfl, h2⟩; have h2 := h1.trans h2)
        | (go_at_call 23; refine (A3.out _ h2).mono ?_; rintro e u3 ⟨rfl, h3⟩; have h3 := h2.trans h3)
        | (go_at_call 29; refine (A4.out _ h3).mono ?_; rintro e u4 ⟨rfl, h4⟩; have h4 := h3.trans h4)
        | (go_at_call 27; refine (A5.out _ h4).mono ?_; rintro e u5 ⟨rfl, h5⟩; have h5 := h4.trans h5)
        | (go_at_call 33; refine (A6.out _ h5).mono ?_; rintro e u6 ⟨rfl, h6⟩; have h6 := h5.trans h6)
        | (go_at_call 32; refine (A7.out _ h6).mono ?_; rintro e u7 ⟨rfl, h7⟩; have h7 := h6.trans h7)
        | (go_at_call 28; refine (A8.out _ h7).mono ?_; rintro e u8 ⟨rfl, h8⟩; have h8 := h7.trans h8)
        | (go_at_call 35; refine (A9.out _ h8).mono ?_; rintro e u9 ⟨rfl, h9⟩; have h9 := h8.trans h9)
        | (go_at_call 22; refine (A10.out _ h9).mono ?_; rintro e u10 ⟨rfl, h10⟩; have h10 := h9.trans h10))
      go_roundg (2 - (k + 1))
      case measure => omega
      case rel => exact ⟨k + 1, by omega, rfl, by first | rfl | go_num, h10⟩
    · obtain rfl : k = 2 := by omega
      have s2 : ¬ (((2 : Nat) : Int) < 2) := by omega
      go_wp2_with (first | (go_at_call 15; refine (LV.out _).mono ?_; rintro e w9 ⟨rfl, hk9⟩))
      go_ret
      exact ⟨rfl, ((hk1.trans hk2).trans hK).trans hk9⟩
end Go.Proofs.Ytjjeoloifggdpaa
