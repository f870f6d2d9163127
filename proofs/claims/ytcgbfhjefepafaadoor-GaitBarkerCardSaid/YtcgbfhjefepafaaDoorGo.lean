/-
  Package gait: isBarker, Barker.
-/
import Derived.Test.YtcgbfhjefepafaaDoorGm
namespace Go.Proofs.YtcgbfhjefepafaaDoor
open Go.RowKit Go.Deep Go.Shelf
attribute [local go_sem] Oper.semAt_some

/-- all likenesses but the first one are small -/
def barF (f : Nat → Int) (n : Nat) : Bool := allN (fun k => decide (k = 0) || decide (-1 ≤ f k ∧ f k ≤ 1)) n
set_option maxRecDepth 100000 in
set_option maxHeartbeats 4000000 in
theorem isBarker_any (w : World) (s : ByteArray) (n : Nat) (hs : s.size = n) (hn1 : 1 ≤ n) (hn : n ≤ 100) :
    Calls Tryd.prog 69 #[.string s] w fun e w' => e = .returned (.bool (barF (likeS s n) n)) ∧ Kept w w' := by
  have LK := Lib.hid (fun W => likenesses_any W s n hs hn)
  have IW := Lib.hid (fun W x => isWithin_any W x (-1) 1)
  unfold RowPost at LK
  generalize likeS s n = f at *
  by_cases h1 : n = 1
  · subst h1
    have hyes : Hid (barF f 1 = true) := by show _ = _; simp [barF, allN]
    rw [hyes.out]
    go_enter Tryd.func69, Tryd.ntmps69
    go_wp2_with (first | (go_at_call 57; refine (LK.out _).mono ?_; rintro e w1 ⟨r, rfl, hr1, hk1, hr⟩))
    go_loopg [9] 0 (fun g s9 wr => g = 0 ∧ s9 = .int .i64 0 ∧ w1 = wr)
    case atStart => exact ⟨rfl, rfl, rfl⟩
    case round =>
      obtain ⟨rfl, rfl, rfl⟩ := hrel
      go_wp2_with fail
      go_ret
      exact ⟨rfl, hk1⟩
  · have s1 : (1 : Int) ≤ (n : Int) := by omega
    obtain ⟨m, HM⟩ : ∃ m, Hid (m = n - 1) := ⟨_, rfl⟩
    go_enter Tryd.func69, Tryd.ntmps69
    go_wp2_with (first | (go_at_call 57; refine (LK.out _).mono ?_; rintro e w1 ⟨r, rfl, hr1, hk1, hr⟩))
    rw [← HM.out]
    go_loopg [9] m (fun g s9 wr => ∃ i : Nat, i ≤ m ∧ g = m - i ∧ s9 = .int .i64 i ∧ w1 = wr ∧ Hid (∀ k, 0 < k → k < i + 1 → -1 ≤ f k ∧ f k ≤ 1))
    case atStart => exact ⟨0, Nat.zero_le _, rfl, rfl, rfl, fun k h1 h2 => by omega⟩
    case round =>
      obtain ⟨i, hi, rfl, rfl, rfl, hA⟩ := hrel
      by_cases hlt : i < m
      · have hin : i + 1 < n := by have := HM.out; omega
        have t0 := hr.cell hin
        rw [show i + 1 = 1 + i by omega] at t0
        have s2 : (i : Int) < (m : Int) := by omega
        have s3 : (0 : Int) ≤ (i : Int) := by omega
        obtain ⟨x, HX⟩ : ∃ x, Hid (x = f (1 + i)) := ⟨_, rfl⟩
        rw [← HX.out] at t0
        by_cases hx : -1 ≤ x ∧ x ≤ 1
        · have IWx := Lib.hid (fun W => IW.out W x)
          rw [decide_eq_true hx] at IWx
          have hA2 : Hid (∀ k, 0 < k → k < i + 1 + 1 → -1 ≤ f k ∧ f k ≤ 1) := fun k g1 g2 => by
            by_cases e : k = i + 1
            · rw [e, show i + 1 = 1 + i by omega, ← HX.out]; exact hx
            · exact hA.out k g1 (by omega)
          clear hx hA HX
          go_wp2_with (first | (go_at_call 67; refine (IWx.out _).mono ?_; rintro e w2 ⟨rfl, rfl⟩))
          go_roundg (m - (i + 1))
          case measure => omega
          case rel => exact ⟨i + 1, by omega, rfl, by first | rfl | go_num, rfl, hA2.out⟩
        · have IWx := Lib.hid (fun W => IW.out W x)
          rw [decide_eq_false hx] at IWx
          have hno : Hid (barF f n = false) := by
            show _ = _
            unfold barF
            refine allN_false hin ?_
            rw [show i + 1 = 1 + i by omega, ← HX.out]
            simp
            omega
          clear hx hA HX
          go_wp2_with (first | (go_at_call 67; refine (IWx.out _).mono ?_; rintro e w2 ⟨rfl, rfl⟩))
          go_ret
          exact ⟨ret_bool hno.out.symm, hk1⟩
      · obtain rfl : i = m := by omega
        have hyes : Hid (barF f n = true) := by
          show _ = _
          unfold barF
          rw [allN_true]
          intro k hk
          by_cases e : k = 0
          · simp [e]
          · have := hA.out k (by omega) (by have := HM.out; omega)
            simp [this.1, this.2]
        go_wp2_with fail
        go_ret
        exact ⟨ret_bool hyes.out.symm, hk1⟩
def barB (n x : Nat) : Bool := barF (fun k => likeN n (bitP n x) k) n
theorem barF_congr {f g : Nat → Int} {n : Nat} (h : ∀ k, k < n → f k = g k) : barF f n = barF g n := by
  unfold barF
  rw [Bool.eq_iff_iff, allN_true, allN_true]
  constructor <;> (intro a k hk; have := a k hk; simp only [h k hk] at this ⊢; exact this)
/-- the first row of Barker's -/
def bx (n : Nat) : Nat := least (barB n) (2 ^ n)
def BarAns (w : World) (n : Int) (e : Ending) (w' : World) : Prop :=
  Kept w w' ∧ if 1 ≤ n ∧ n ≤ 13 then (if bx n.toNat < 2 ^ n.toNat then e = .returned (.tuple #[.string (rowN n.toNat (bx n.toNat)), .int .i64 0]) else e = .returned (.tuple #[.string ⟨#[]⟩, .int .i64 5])) else e = .returned (.tuple #[.string ⟨#[]⟩, .int .i64 1])
theorem prefix_range {p : List Nat} {x N : Nat} (h : p ++ [x] <+: List.range N) : x < N ∧ ∀ i, i < x → i ∈ p := by
  obtain ⟨t, ht⟩ := h
  have hl : p.length < N := by have := congrArg List.length ht; simp at this; omega
  have hget : ∀ i, i < N → (p ++ [x] ++ t)[i]? = some i := fun i hi => by rw [ht, List.getElem?_range hi]
  have hx : x = p.length := by
    have := hget p.length hl
    rw [List.append_assoc, List.getElem?_append_right (Nat.le_refl _)] at this
    simpa using this
  refine ⟨by omega, fun i hi => ?_⟩
  have := hget i (by omega)
  rw [List.append_assoc, List.getElem?_append_left (by omega)] at this
  exact List.mem_of_getElem? this
def BarIn (w : World) (n : Nat) (e : Ending) (w' : World) : Prop :=
  (if bx n < 2 ^ n then e = .returned (.tuple #[.string (rowN n (bx n)), .int .i64 0]) else e = .returned (.tuple #[.string ⟨#[]⟩, .int .i64 5])) ∧ Below w.heap.size w w'
theorem cell_box {W : World} {B : Nat} {v : Value} {t : TypeId} (h : W.heap[B]? = some (.cells #[v] t (0, 0))) : W.cell? ⟨B, 0, none⟩ = some v ∧ W.frozen? ⟨B, 0, none⟩ = false := by
  constructor <;> simp [World.cell?, World.frozen?, h]
theorem cell_newbox (W : World) (v : Value) (t : TypeId) : (W.alloc (.cells #[v] t)).cell? ⟨W.heap.size, 0, none⟩ = some v ∧ (W.alloc (.cells #[v] t)).frozen? ⟨W.heap.size, 0, none⟩ = false := cell_box (World.alloc_heap_new W _)
theorem cell_alloced {W : World} {a : Addr} {v : Value} (o : Obj) (h : W.cell? a = some v) : (W.alloc o).cell? a = some v := cell_kept h (World.grownBy_alloc W o none) (fun r e => by cases e)
theorem frozen_alloced {W : World} {a : Addr} {v : Value} (o : Obj) (h : W.cell? a = some v) (hf : W.frozen? a = false) : (W.alloc o).frozen? a = false := (frozen_kept h (World.grownBy_alloc W o none) (fun r e => by cases e)).trans hf
theorem kept_others {W W' : World} (h : Kept W W') : KeepsOthers W W' := KeepsOthers.of_grownBy (kept_grown h) (fun j o ej hj => by cases ej)
theorem kept_frozen {W W' : World} (h : Kept W W') {a : Addr} {v : Value} (hc : W.cell? a = some v) (hf : W.frozen? a = false) : W'.frozen? a = false := (frozen_kept hc (kept_grown h) (fun r e => by cases e)).trans hf
set_option maxRecDepth 100000 in
set_option maxHeartbeats 4000000 in
theorem barker_in (w : World) (n : Nat) (hn1 : 1 ≤ n) (hn : n ≤ 13) :
    CallsIn Fence.wide 5 Tryd.prog 27 #[.int .i64 n] w (BarIn w n) := by
  have hdd : ∀ k : Nat, (Fence.wide.depth.isSome = true → 1 ≤ k) := fun k h => by cases h
  have IW := Lib.hid (fun W => isWithin_any W (n : Int) 1 13)
  have hd : decide (1 ≤ (n : Int) ∧ (n : Int) ≤ 13) = true := decide_eq_true (by omega)
  rw [hd] at IW
  have IB := Lib.hid (fun (W : World) (x : Nat) => show Calls Tryd.prog 69 #[.string (rowS n (bitP n x))] W fun e w' => e = .returned (.bool (barB n x)) ∧ Kept W w' by
    have h := isBarker_any W (rowS n (bitP n x)) n (rowS_size _ _) hn1 (by omega)
    rw [barF_congr (g := fun k => likeN n (bitP n x) k) (fun k hk => likeS_row n k _ (by omega))] at h
    exact h)
  refine callsIn_of_wp_marks Tryd.func27 rfl trivial ?_ rfl
  simp only [Tryd.ntmps27, List.size_toArray, List.length_cons, List.length_nil, Nat.reduceAdd, Nat.reduceSub, Array.replicate_succ, Array.replicate_zero, List.push_toArray, List.append_toArray, List.nil_append, List.cons_append]
  clear hd
  gi_wp2_with ((first | refine ⟨trivial, hdd _, ?_⟩ | refine ⟨trivial, ?_⟩ | skip); first | (gi_at_call 67; refine (callsIn_wide.2 (IW.out _)).mono ?_; rintro e w' ⟨rfl, rfl⟩) | (gi_at_call 68; refine (rows_in _ _ _).mono ?_; rintro e w' ⟨rfl, rfl⟩))
  have c0 := cell_newbox w (.string ⟨#[]⟩) 9
  have c1 := cell_newbox (w.alloc (.cells #[.string ⟨#[]⟩] 9)) (.int .i64 0) 24
  have c2 := cell_newbox ((w.alloc (.cells #[.string ⟨#[]⟩] 9)).alloc (.cells #[.int .i64 0] 24)) (.int .i64 n) 3
  simp only [World.size_alloc] at c1 c2
  have hB0 : Below w.heap.size w (((w.alloc (.cells #[.string ⟨#[]⟩] 9)).alloc (.cells #[.int .i64 0] 24)).alloc (.cells #[.int .i64 n] 3)) := (((Below.refl _ w).alloc (Nat.le_refl _) _).alloc (by simp) _).alloc (by simp; omega) _
  have hbx : Hid (bx n = least (barB n) (2 ^ n)) := rfl
  refine wpIn_rangeFunc_ownF (F := Fence.wide) (n := 5) rfl (by decide) (gf := 99) (lb := #[.pointer (some ⟨w.heap.size + 1 + 1, 0, none⟩)]) rfl trivial (enters_of Tryd.func99 (by kernel_rfl) rfl)
    (rows_stops _ n (w.heap.size + 1 + 1) (w.heap.size + 1 + 1 + 1) hn _ (by omega) (by simp) c2.1) belowK_t (belowK_b (by simp)) (Below.refl _ _) (fun _ => rfl)
    (fun pre W => ((∀ x, x ∈ pre → barB n x = false) ∧ (W.cell? ⟨w.heap.size, 0, none⟩ = some (.string ⟨#[]⟩) ∧ W.frozen? ⟨w.heap.size, 0, none⟩ = false) ∧ (W.cell? ⟨w.heap.size + 1, 0, none⟩ = some (.int .i64 0) ∧ W.frozen? ⟨w.heap.size + 1, 0, none⟩ = false)) ∧ Below (w.heap.size + 1 + 1 + 1) (((w.alloc (.cells #[.string ⟨#[]⟩] 9)).alloc (.cells #[.int .i64 0] 24)).alloc (.cells #[.int .i64 n] 3)) W)
    (fun c pre W => (c = .ret ∧ (∃ p x, pre = p ++ [x] ∧ (∀ y, y ∈ p → barB n y = false) ∧ barB n x = true ∧ W.cell? ⟨w.heap.size, 0, none⟩ = some (.string (rowS n (bitP n x)))) ∧ W.cell? ⟨w.heap.size + 1, 0, none⟩ = some (.int .i64 0)) ∧ Below w.heap.size w W)
    (OwnFrom.and (Own.from (fun s A B row hs hg hr => ⟨hs.1, ⟨cell_kept hs.2.1.1 hg hr, (frozen_kept hs.2.1.1 hg hr).trans hs.2.1.2⟩, cell_kept hs.2.2.1 hg hr, (frozen_kept hs.2.2.1 hg hr).trans hs.2.2.2⟩) _) (ownFrom_below (by simp) (by simp)))
    (fun c => OwnFrom.and (Own.from (fun s A B row hs hg hr => ⟨hs.1, by obtain ⟨p, x, h1, h2, h3, h4⟩ := hs.2.1; exact ⟨p, x, h1, h2, h3, cell_kept h4 hg hr⟩, cell_kept hs.2.2 hg hr⟩) _) (ownFrom_below (Nat.le_refl _) (by simp; omega)))
    ⟨⟨by simp, ⟨cell_alloced _ (cell_alloced _ c0.1), frozen_alloced _ (cell_alloced _ c0.1) (frozen_alloced _ c0.1 c0.2)⟩, cell_alloced _ c1.1, frozen_alloced _ c1.1 c1.2⟩, Below.refl _ _⟩
    (fun x => { tmps := #[.int .i64 n, undef, .pointer (some ⟨w.heap.size, 0, none⟩), .pointer (some ⟨w.heap.size + 1, 0, none⟩), .string (rowS n (bitP n x)), .int .i64 n, .bool true, .bool false, .int .i64 n, .func (.func 99) #[] #[.pointer (some ⟨w.heap.size + 1 + 1, 0, none⟩)], .string (rowS n (bitP n x)), undef, undef, undef], defers := [] }) ?assign ?body ?done ?stop
  case assign =>
    intro l x W K hK
    gi_wp2
    exact hK
  case body =>
    rintro l pre x W ⟨⟨hp, ⟨hs, hfs⟩, he, hfe⟩, hB⟩ _
    have IBx := Lib.hid (fun W => IB.out W x)
    obtain ⟨b, HB⟩ : ∃ b, Hid (b = barB n x) := ⟨_, rfl⟩
    rw [← HB.out] at IBx
    have hB0' := hB0
    clear c0 c1 c2 hB0
    cases b with
    | true =>
      gi_wp2_with ((first | refine ⟨trivial, hdd _, ?_⟩ | refine ⟨trivial, ?_⟩ | skip); gi_at_call 69; refine (CallsIn.inRound l (callsIn_wide.2 (IBx.out _))).mono ?_; rintro e w1 ⟨rfl, hk1⟩; have hs1 := hk1.cellSome hs; have hfs1 := kept_frozen hk1 hs hfs; have he1 := hk1.cellSome he; have hfe1 := kept_frozen hk1 he hfe)
      have hB1 : Below w.heap.size w w1 := (hB0'.trans (hB.mono (by omega))).trans ((Kept.since hk1).mono (by have := hB.size; simp at this; omega))
      refine ⟨((kept_others hk1).trans (KeepsOthers.setCell _ _ _)).trans (KeepsOthers.setCell _ _ _), ⟨rfl, ⟨pre, x, rfl, hp, HB.out.symm, ?_⟩, ?_⟩, (hB1.setCell (p := ⟨w.heap.size, 0, none⟩) (Nat.le_refl _) _).setCell (p := ⟨w.heap.size + 1, 0, none⟩) (by simp) _⟩
      · rw [World.cell?_setCell_other _ _ _ _ (by simp)]
        exact World.cell?_setCell_same' _ _ _ (by rw [hs1]; rfl)
      · exact World.cell?_setCell_same' _ _ _ (by rw [World.cell?_setCell_other _ _ _ _ (by simp), he1]; rfl)
    | false =>
      gi_wp2_with ((first | refine ⟨trivial, hdd _, ?_⟩ | refine ⟨trivial, ?_⟩ | skip); gi_at_call 69; refine (CallsIn.inRound l (callsIn_wide.2 (IBx.out _))).mono ?_; rintro e w1 ⟨rfl, hk1⟩; have hs1 := hk1.cellSome hs; have hfs1 := kept_frozen hk1 hs hfs; have he1 := hk1.cellSome he; have hfe1 := kept_frozen hk1 he hfe)
      refine ⟨kept_others hk1, (Kept.since hk1).mono (by have := hB.size; simp at this; omega), ⟨fun y hy => ?_, ⟨hs1, hfs1⟩, he1, hfe1⟩, hB.trans ((Kept.since hk1).mono (by have := hB.size; simp at this; omega))⟩
      rcases List.mem_append.1 hy with h | h
      · exact hp y h
      · simp at h; subst h; exact HB.out.symm
  case done =>
    rintro D ys W hD rfl ⟨⟨hne, ⟨hs, hfs⟩, he, hfe⟩, hB⟩ hK
    have hno : ¬ bx n < 2 ^ n := by
      have : bx n = 2 ^ n := by rw [hbx.out]; exact least_none.2 (fun i hi => hne i (by simpa using hi))
      omega
    have HNO := Lib.hid hno
    clear hno
    gi_wp2
    have hK' := ((KeepsOthers.setCell W ⟨w.heap.size, 0, none⟩ (.string ⟨#[]⟩)).trans (KeepsOthers.setCell _ ⟨w.heap.size + 1, 0, none⟩ (.int .i64 5))).same D _ hK rfl
    refine ⟨by simp, .inl ⟨_, _, rfl, run_takeDeferred hK', ?_⟩⟩
    have z0 : ((W.setCell ⟨w.heap.size, 0, none⟩ (.string ⟨#[]⟩)).setCell ⟨w.heap.size + 1, 0, none⟩ (.int .i64 5)).cell? ⟨w.heap.size, 0, none⟩ = some (.string ⟨#[]⟩) := by
      rw [World.cell?_setCell_other _ _ _ _ (by simp)]
      exact World.cell?_setCell_same' _ _ _ (by rw [hs]; rfl)
    have z1 : ((W.setCell ⟨w.heap.size, 0, none⟩ (.string ⟨#[]⟩)).setCell ⟨w.heap.size + 1, 0, none⟩ (.int .i64 5)).cell? ⟨w.heap.size + 1, 0, none⟩ = some (.int .i64 5) :=
      World.cell?_setCell_same' _ _ _ (by rw [World.cell?_setCell_other _ _ _ _ (by simp), he]; rfl)
    have hc4 := cell_kept z0 (grownBy_putObj' _ D (.deferred none)) (fun r e => by cases e; exact ⟨_, hK', rfl⟩)
    have hc5 := cell_kept z1 (grownBy_putObj' _ D (.deferred none)) (fun r e => by cases e; exact ⟨_, hK', rfl⟩)
    refine ⟨.tuple #[.string ⟨#[]⟩, .int .i64 5], ?_, by rw [if_neg HNO.out], ((((hB0.trans (hB.mono (by omega))).setCell (p := ⟨w.heap.size, 0, none⟩) (Nat.le_refl _) _).setCell (p := ⟨w.heap.size + 1, 0, none⟩) (by simp) _)).trans (belowK_b (w := w) (Nat.le_refl _) _ D _ _ (by simp at hD; omega) hK' rfl rfl)⟩
    simp [results, Tryd.results27, go_sem, hc4, hc5]
  case stop =>
    rintro D c pre W hD hpre ⟨⟨rfl, ⟨p, x, rfl, hp, hx, hs⟩, he⟩, hB⟩ hK
    have hyes : Hid (bx n = x ∧ x < 2 ^ n) := by
      obtain ⟨h1, h2⟩ := prefix_range hpre
      refine ⟨?_, h1⟩
      rw [hbx.out]
      exact least_hit (least_none.2 (fun i hi => hp i (h2 i hi))) hx h1
    gi_wp2
    refine ⟨by simp, .inl ⟨_, _, rfl, run_takeDeferred hK, ?_⟩⟩
    have hc4 := cell_kept hs (grownBy_putObj' _ D (.deferred none)) (fun r e => by cases e; exact ⟨_, hK, rfl⟩)
    have hc5 := cell_kept he (grownBy_putObj' _ D (.deferred none)) (fun r e => by cases e; exact ⟨_, hK, rfl⟩)
    refine ⟨.tuple #[.string (rowS n (bitP n x)), .int .i64 0], ?_, by rw [hyes.out.1, if_pos hyes.out.2]; rfl, hB.trans (belowK_b (w := w) (Nat.le_refl _) W D _ _ (by simp at hD; omega) hK rfl rfl)⟩
    simp [results, Tryd.results27, go_sem, hc4, hc5]
set_option maxRecDepth 100000 in
theorem Barker_any (w : World) (n : Int) : Calls Tryd.prog 27 #[.int .i64 n] w (BarAns w n) := by
  by_cases h1 : 1 ≤ n ∧ n ≤ 13
  · obtain ⟨m, rfl⟩ : ∃ m : Nat, n = m := ⟨n.toNat, by omega⟩
    refine (callsIn_wide.1 (barker_in w m (by omega) (by omega))).mono ?_
    rintro e w' ⟨h, hB⟩
    exact ⟨Kept.below hB, by rw [if_pos h1, Int.toNat_natCast]; exact h⟩
  · have H1 := Lib.hid h1
    have IW := Lib.hid (fun W => isWithin_any W n 1 13)
    rw [decide_eq_false h1] at IW
    have hk := (((Kept.refl w).alloc (.cells #[.string ⟨#[]⟩] 9)).alloc (.cells #[.int .i64 1] 24))
    have z0 := ((Kept.refl (w.alloc (.cells #[.string ⟨#[]⟩] 9))).alloc (.cells #[.int .i64 1] 24)).cellSome (cell_newbox w (.string ⟨#[]⟩) 9).1
    have z1 := (cell_newbox (w.alloc (.cells #[.string ⟨#[]⟩] 9)) (.int .i64 1) 24).1
    rw [World.size_alloc] at z1
    clear h1
    go_enter Tryd.func27, Tryd.ntmps27
    go_wp2_with (first | (go_at_call 67; refine (IW.out _).mono ?_; rintro e w1 ⟨rfl, rfl⟩))
    exact bodyPost_ret (v := .tuple #[.string ⟨#[]⟩, .int .i64 1]) (by simp [results, Tryd.results27, go_sem, z0, z1]) rfl ⟨hk, by rw [if_neg H1.out]⟩
end Go.Proofs.YtcgbfhjefepafaaDoor
