/-
  The law's Code: fits.
-/
import Derived.Test.YtgphaggkgcnidaaDc
import Derived.Test.YtgphaggkgcnidaaRd
namespace Go.Proofs.Ytgphaggkgcnidaa
open Go.RowKit Go.Deep Go.Sort

theorem newbox4 (w : World) (B : Nat) (hB : w.heap.size = B) (a b c d : Value) (t : TypeId) : ∃ W, w.alloc (.cells #[a, b, c, d] t) = W ∧ W.heap.size = B + 1 ∧ W.cell? ⟨B, 0, none⟩ = some a ∧ W.cell? ⟨B, 1, none⟩ = some b ∧ W.cell? ⟨B, 2, none⟩ = some c ∧ W.cell? ⟨B, 3, none⟩ = some d ∧ Kept w W := by
  subst hB
  refine ⟨_, rfl, by simp, ?_, ?_, ?_, ?_, (Kept.refl w).alloc _⟩ <;> (unfold World.cell?; dsimp only; rw [blk_alloc_new]; rfl)
theorem upD_iff {n q a b most : Int} : upD n q a b most = true ↔ (2 ≤ n ∧ n ≤ most) ∧ (2 ≤ q ∧ q ≤ 4) ∧ (0 ≤ a ∧ a < n) ∧ (0 ≤ b ∧ b < q) := by
  unfold upD within
  simp only [Bool.and_eq_true, decide_eq_true_iff]
  constructor
  · rintro ⟨⟨⟨h1, h2⟩, h3⟩, h4⟩; exact ⟨h1, h2, by omega, by omega⟩
  · rintro ⟨h1, h2, h3, h4⟩; exact ⟨⟨⟨h1, h2⟩, by omega⟩, by omega⟩
set_option maxRecDepth 100000 in
set_option maxHeartbeats 1000000 in
theorem fits_any (w : World) (n q a b most : Int) : Calls Try.prog 43 #[.agg #[.int .i64 n, .int .i64 q, .int .i64 a, .int .i64 b], .int .i64 most] w fun e w' => e = .returned (.bool (upD n q a b most)) ∧ Kept w w' := by
  obtain ⟨W, hW, hs, c0, c1, c2, c3, hk⟩ := newbox4 w w.heap.size rfl (.int .i64 n) (.int .i64 q) (.int .i64 a) (.int .i64 b) 60
  obtain ⟨R, HR⟩ : ∃ R, Hid (R = upD n q a b most) := ⟨_, rfl⟩
  rw [← HR.out]
  clear hs
  by_cases h0 : 2 ≤ n
  rotate_left
  · have hres : Hid (R = false) := by
      show _ = _
      rw [HR.out, Bool.eq_false_iff]
      intro h; have := upD_iff.1 h; omega
    clear HR
    go_enter Try.func43, Try.ntmps43
    go_wp2_with fail
    go_ret
    exact ⟨by rw [hres.out]; rfl, hk⟩
  by_cases h1 : n ≤ most
  rotate_left
  · have hres : Hid (R = false) := by
      show _ = _
      rw [HR.out, Bool.eq_false_iff]
      intro h; have := upD_iff.1 h; omega
    clear HR
    go_enter Try.func43, Try.ntmps43
    go_wp2_with fail
    go_ret
    exact ⟨by rw [hres.out]; rfl, hk⟩
  by_cases h2 : 2 ≤ q
  rotate_left
  · have hres : Hid (R = false) := by
      show _ = _
      rw [HR.out, Bool.eq_false_iff]
      intro h; have := upD_iff.1 h; omega
    clear HR
    go_enter Try.func43, Try.ntmps43
    go_wp2_with fail
    go_ret
    exact ⟨by rw [hres.out]; rfl, hk⟩
  by_cases h3 : q ≤ 4
  rotate_left
  · have hres : Hid (R = false) := by
      show _ = _
      rw [HR.out, Bool.eq_false_iff]
      intro h; have := upD_iff.1 h; omega
    clear HR
    go_enter Try.func43, Try.ntmps43
    go_wp2_with fail
    go_ret
    exact ⟨by rw [hres.out]; rfl, hk⟩
  by_cases h4 : 0 ≤ a
  rotate_left
  · have hres : Hid (R = false) := by
      show _ = _
      rw [HR.out, Bool.eq_false_iff]
      intro h; have := upD_iff.1 h; omega
    clear HR
    go_enter Try.func43, Try.ntmps43
    go_wp2_with fail
    go_ret
    exact ⟨by rw [hres.out]; rfl, hk⟩
  by_cases h5 : a < n
  rotate_left
  · have hres : Hid (R = false) := by
      show _ = _
      rw [HR.out, Bool.eq_false_iff]
      intro h; have := upD_iff.1 h; omega
    clear HR
    go_enter Try.func43, Try.ntmps43
    go_wp2_with fail
    go_ret
    exact ⟨by rw [hres.out]; rfl, hk⟩
  by_cases h6 : 0 ≤ b
  rotate_left
  · have hres : Hid (R = false) := by
      show _ = _
      rw [HR.out, Bool.eq_false_iff]
      intro h; have := upD_iff.1 h; omega
    clear HR
    go_enter Try.func43, Try.ntmps43
    go_wp2_with fail
    go_ret
    exact ⟨by rw [hres.out]; rfl, hk⟩
  by_cases h7 : b < q
  rotate_left
  · have hres : Hid (R = false) := by
      show _ = _
      rw [HR.out, Bool.eq_false_iff]
      intro h; have := upD_iff.1 h; omega
    clear HR
    go_enter Try.func43, Try.ntmps43
    go_wp2_with fail
    go_ret
    exact ⟨by rw [hres.out]; rfl, hk⟩
  have hres : Hid (R = true) := by
    show _ = _
    rw [HR.out, upD_iff.2 ⟨⟨h0, h1⟩, ⟨h2, h3⟩, ⟨h4, h5⟩, ⟨h6, h7⟩⟩]
  clear HR
  go_enter Try.func43, Try.ntmps43
  go_wp2_with fail
  go_ret
  exact ⟨by rw [hres.out]; rfl, hk⟩
end Go.Proofs.Ytgphaggkgcnidaa
