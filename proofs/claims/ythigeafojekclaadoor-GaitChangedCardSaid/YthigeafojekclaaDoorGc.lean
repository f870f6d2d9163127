/-
  Package gait: rowOf, at whatever function says which signs are minus.
-/
import Derived.Test.YthigeafojekclaaDoorGb
import Derived.Shelf.GgClosure.Gives
namespace Go.Proofs.YthigeafojekclaaDoor
open Go.RowKit Go.Deep Go.Shelf

theorem mkBs (m : Int) (n : Nat) (h : m = n) (hn : n ≤ 1000000) (W : World) : (Instr.makeSlice 42 (.int .i64 m) (.int .i64 m)).run Tryd.prog W = .ok (.slice (some ⟨W.heap.size, 0, none⟩) n n) (W.alloc (.cells (madeCells #[.int .u8 0] n) 5)) := by
  subst h
  exact run_make_row' (P := Tryd.prog) 42 5 (.int .u8 0) 1 Tryd.underlying42 (by kernel_rfl) rfl .i64 .i64 n (by omega) (by omega) W
theorem bytes_back (W : World) (r n : Nat) (p : Nat → Bool) (hc : W.rowIs r 5 n (fun j => .int .u8 (if p j then 45 else 43))) : (convert 42 9 (.slice (some ⟨r, 0, none⟩) n n)).run Tryd.prog W = .ok (.string (rowS n p)) W := by
  have h := run_convert_bytes_back (P := Tryd.prog) W 42 9 5 ⟨r, 0, none⟩ n (rowL n p) Tryd.underlying42 Tryd.underlying5 Tryd.underlying9 (fun j hj => by
    have hj2 : j < n := by rw [rowL_len] at hj; exact hj
    have e : (rowL n p)[j] = if p j then 45 else 43 := by simp [rowL]
    rw [add_at, Nat.zero_add, hc.cell hj2, e]
    cases p j <;> rfl)
  rw [rowL_len] at h
  exact h
/-- the function value answers p, at the first n numbers, in every world in which what lay lies unturned -/
def FnAt (c : Nat) (lb : Array Value) (n : Nat) (p : Nat → Bool) (w : World) : Prop :=
  ∀ (W : World) (i : Nat), i < n → Kept w W → Calls Tryd.prog c (#[.int .i64 (i : Int)] ++ lb) W fun e w' => e = .returned (.bool (p i)) ∧ Quiet W w'
def RowOfPost (w : World) (n : Nat) (p : Nat → Bool) (e : Ending) (w' : World) : Prop := e = .returned (.string (rowS n p)) ∧ Kept w w'
set_option maxRecDepth 100000 in
set_option maxHeartbeats 4000000 in
theorem rowOf_any (w : World) (n : Nat) (c : Nat) (lb : Array Value) (p : Nat → Bool) (hn : n ≤ 1000) (eg : ∀ args w, (callFunc c args).run Tryd.prog w = .ok (.enter c args) w) (hC : FnAt c lb n p w) :
    Calls Tryd.prog 62 #[.int .i64 n, .func (.func c) #[] lb] w (RowOfPost w n p) := by
  have HC := Lib.hid hC
  have hmk := mkBs (n : Int) n rfl (by omega)
  have hrow := World.rowIs_made w (.int .u8 0) n 5
  have hK0 : Kept w (w.alloc (.cells (madeCells #[.int .u8 0] n) 5)) := (Kept.refl w).alloc _
  have HB := Lib.hid (fun W r => bytes_back W r n p)
  clear hC
  go_enter Tryd.func62, Tryd.ntmps62
  go_wp2_with fail
  obtain ⟨r, HR⟩ : ∃ r, Hid (r = w.heap.size) := ⟨_, rfl⟩
  rw [← HR.out] at hrow ⊢
  have hrw : w.heap.size ≤ r := by rw [HR.out]; exact Nat.le_refl _
  have hrow2 := hrow.congr (g := fun j => .int .u8 (if j < 0 then (if p j then 45 else 43) else 0)) (fun j _ => rfl)
  generalize w.alloc (.cells (madeCells #[.int .u8 0] n) 5) = W0 at *
  clear hrow hmk
  go_loopg [11] n (fun g s11 wr => ∃ i : Nat, i ≤ n ∧ g = n - i ∧ s11 = .int .i64 i ∧ Kept w wr ∧ wr.rowIs r 5 n (fun j => .int .u8 (if j < i then (if p j then 45 else 43) else 0)))
  case atStart => exact ⟨0, Nat.zero_le _, rfl, rfl, hK0, hrow2⟩
  case round =>
    obtain ⟨i, hi, rfl, rfl, hK, hr⟩ := hrel
    clear hK0 hrow2
    by_cases hlt : i < n
    · have x0 := hr.cell hlt
      have x1 := hr.frozen i
      simp only [Nat.lt_irrefl, if_false] at x0
      have s2 : (i : Int) < (n : Int) := by omega
      have s3 : (0 : Int) ≤ (i : Int) := by omega
      have hset := hr.set i (.int .u8 43)
      have hK1 : Kept w (wr.setCell ⟨r, i, none⟩ (.int .u8 43)) := hK.setCell hrw _
      obtain ⟨b, HBI⟩ : ∃ b, Hid (b = p i) := ⟨_, rfl⟩
      have cS := HC.out (wr.setCell ⟨r, i, none⟩ (.int .u8 43)) i hlt hK1
      rw [← HBI.out] at cS
      have CS := Lib.hid cS
      clear cS
      cases b with
      | false =>
        have hset2 := hset.congr (g := fun j => .int .u8 (if j < i + 1 then (if p j then 45 else 43) else 0)) (fun j _ => by
          by_cases e : j = i
          · subst e; rw [← HBI.out]; simp
          · simp only [e, if_false]
            by_cases e2 : j < i
            · simp [e2, show j < i + 1 by omega]
            · simp [e2, show ¬ j < i + 1 by omega])
        clear hset
        go_wp2_with (go_at_fn c; refine CS.out.mono ?_; rintro e w2 ⟨rfl, hq2⟩)
        go_roundg (n - (i + 1))
        case measure => omega
        case rel => exact ⟨i + 1, by omega, rfl, by go_num, hK1.trans hq2.kept, hq2.kept.row hset2⟩
      | true =>
        have hset1 := hset.congr (g := fun j => .int .u8 (if j = i then 43 else if j < i then (if p j then 45 else 43) else 0)) (fun j _ => by
          by_cases e : j = i
          · simp [e]
          · simp [e])
        clear hset
        go_wp2_with (go_at_fn c; refine CS.out.mono ?_; rintro e w2 ⟨rfl, hq2⟩; have hrr := hq2.kept.row hset1; have y0 := hrr.cell hlt; have y1 := hrr.frozen i; simp only [if_true] at y0)
        have hset2 := (hrr.set i (.int .u8 45)).congr (g := fun j => .int .u8 (if j < i + 1 then (if p j then 45 else 43) else 0)) (fun j _ => by
          by_cases e : j = i
          · subst e; rw [← HBI.out]; simp
          · simp only [e, if_false]
            by_cases e2 : j < i
            · simp [e2, show j < i + 1 by omega]
            · simp [e2, show ¬ j < i + 1 by omega])
        have hK2 : Kept w (w2.setCell ⟨r, i, none⟩ (.int .u8 45)) := (hK1.trans hq2.kept).setCell hrw _
        generalize w2.setCell ⟨r, i, none⟩ (.int .u8 45) = W3 at *
        go_roundg (n - (i + 1))
        case measure => omega
        case rel => exact ⟨i + 1, by omega, rfl, by go_num, hK2, hset2⟩
    · obtain rfl : i = n := by omega
      have hr2 := hr.congr (g := fun j => .int .u8 (if p j then 45 else 43)) (fun j hj => by simp [hj])
      have hb := HB.out wr r hr2
      go_wp2_with fail
      go_ret
      exact ⟨rfl, hK⟩
end Go.Proofs.YthigeafojekclaaDoor
