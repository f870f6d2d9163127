/-
  The program's matrices: gcd, pivot, clone.
-/
import Derived.Test.YtlnpipkhofhlnaaC
import Derived.Laws.CopyOwn
import Derived.RegionTactic
import Derived.BigRegion
import Derived.Deep.DeepCutAuto
namespace Go.Proofs.Ytlnpipkhofhlnaa
open Go.RowKit Go.Deep

/-- v reads as a square matrix -/
def MatRead (w : World) (v : Value) (k : Nat) (M : Nat → Nat → Int) : Prop := ∃ vs : Nat → Value, CellsAt w v k vs ∧ ∀ i, i < k → IntsAt w (vs i) k (M i)
theorem MatRead.kept {w w' : World} {v : Value} {k : Nat} {M : Nat → Nat → Int} (h : MatRead w v k M) (kk : Kept w w') : MatRead w' v k M := by
  obtain ⟨vs, h1, h2⟩ := h
  exact ⟨vs, h1.kept kk, fun i hi => (h2 i hi).kept kk⟩
/-- a matrix of blocks of its own -/
structure MatOwn (base : Nat) (w : World) (k b : Nat) (br : Nat → Nat) (M : Nat → Nat → Int) : Prop where
  top : w.rowIs b 97 k (fun i => .slice (some ⟨br i, 0, none⟩) k k)
  row : ∀ i, i < k → w.rowIs (br i) 2 k (fun j => .int .i64 (M i j))
  b0 : base ≤ b
  br0 : ∀ i, i < k → base ≤ br i
  ne : ∀ i, i < k → br i ≠ b
  rr : ∀ i j, i < k → j < k → i ≠ j → br i ≠ br j
theorem MatOwn.read {base : Nat} {w : World} {k b : Nat} {br : Nat → Nat} {M : Nat → Nat → Int} (h : MatOwn base w k b br M) : MatRead w (.slice (some ⟨b, 0, none⟩) k k) k M :=
  ⟨fun i => .slice (some ⟨br i, 0, none⟩) k k, CellsAt.of_row h.top, fun i hi => CellsAt.of_row (h.row i hi)⟩
theorem MatOwn.kept {base : Nat} {w w' : World} {k b : Nat} {br : Nat → Nat} {M : Nat → Nat → Int} (h : MatOwn base w k b br M) (kk : Kept w w') : MatOwn base w' k b br M :=
  ⟨kk.row h.top, fun i hi => kk.row (h.row i hi), h.b0, h.br0, h.ne, h.rr⟩
theorem MatOwn.congr {base : Nat} {w : World} {k b : Nat} {br : Nat → Nat} {M M' : Nat → Nat → Int} (h : MatOwn base w k b br M) (e : ∀ i j, i < k → j < k → M i j = M' i j) : MatOwn base w k b br M' :=
  ⟨h.top, fun i hi => (h.row i hi).congr (fun j hj => by rw [e i j hi hj]), h.b0, h.br0, h.ne, h.rr⟩

theorem Try.info2 : (Try.prog.info? 2).map (fun i => (i.zero, i.size, i.bytes)) = some (some (.int .i64 0), 1, 8) := by kernel_rfl
theorem Try.size2 : (Try.prog.info? 2).map (·.size) = some 1 := by kernel_rfl
theorem mkRow64 (m : Int) (n : Nat) (h : m = n) (hn : n ≤ 1000000) (w : World) :
    (Instr.makeSlice 97 (.int .i64 m) (.int .i64 m)).run Try.prog w = .ok (.slice (some ⟨w.heap.size, 0, none⟩) n n) (w.alloc (.cells (madeCells #[.int .i64 0] n) 2)) := by
  subst h
  exact run_make_row' (P := Try.prog) 97 2 (.int .i64 0) 8 Try.underlying97 Try.info2 rfl .i64 .i64 n (by omega) (by omega) w
theorem mkMat (m : Int) (n : Nat) (h : m = n) (hn : n ≤ 1000000) (w : World) :
    (Instr.makeSlice 82 (.int .i64 m) (.int .i64 m)).run Try.prog w = .ok (.slice (some ⟨w.heap.size, 0, none⟩) n n) (w.alloc (.cells (madeCells #[.slice none 0 0] n) 97)) := by
  subst h
  exact run_make_row' (P := Try.prog) 82 97 (.slice none 0 0) 24 Try.underlying82 (by kernel_rfl) rfl .i64 .i64 n (by omega) (by omega) w

/-- Euclid's rule, as the program has it -/
def gcdG : Nat → Int → Int → Int
  | 0, a, _ => a
  | g + 1, a, b => if b = 0 then a else gcdG g b (a.tmod b)
def gcdI (a b : Int) : Int := gcdG (b.natAbs + 1) a b
theorem gcdG_zero (g : Nat) (a : Int) : gcdG g a 0 = a := by cases g <;> simp [gcdG]
theorem tmod_lt (a : Int) {b : Int} (hb : b ≠ 0) : (a.tmod b).natAbs < b.natAbs := by
  rw [Int.natAbs_tmod]
  exact Nat.mod_lt _ (by omega)

set_option maxHeartbeats 1000000 in
theorem gcd_any (w : World) (a b : Int) (ha : -9223372036854775807 ≤ a ∧ a ≤ 9223372036854775807) (hb : -9223372036854775807 ≤ b ∧ b ≤ 9223372036854775807) :
    Calls Try.prog 45 #[.int .i64 a, .int .i64 b] w fun e w' => e = .returned (.int .i64 (gcdI a b)) ∧ Quiet w w' := by
  unfold gcdI
  go_enter Try.func45, Try.ntmps45
  go_wp2_with fail
  go_loopg [0, 1] (b.natAbs + 1) (fun g x y wr => ∃ u v : Int, x = .int .i64 u ∧ y = .int .i64 v ∧ Hid (gcdG (b.natAbs + 1) a b = gcdG g u v) ∧ v.natAbs < g ∧ (-9223372036854775807 ≤ u ∧ u ≤ 9223372036854775807) ∧ (-9223372036854775807 ≤ v ∧ v ≤ 9223372036854775807) ∧ Quiet w wr)
  case atStart => exact ⟨a, b, rfl, rfl, rfl, by omega, ha, hb, Quiet.refl _⟩
  case round =>
    obtain ⟨u, v, rfl, rfl, hG, hv, hu1, hv1, hq⟩ := hrel
    by_cases hz : v = 0
    · subst hz
      have e0 : ((0 : Int) != 0) = false := rfl
      go_wp2_with fail
      go_ret
      exact ⟨ret_int (by rw [hG.out, gcdG_zero]), hq⟩
    · have e0 : (v != 0) = true := by simpa using hz
      have hlt := tmod_lt u hz
      have hbd : -9223372036854775807 ≤ u.tmod v ∧ u.tmod v ≤ 9223372036854775807 := by omega
      obtain ⟨g, rfl⟩ : ∃ g, gk = g + 1 := ⟨gk - 1, by omega⟩
      have hG2 : Hid (gcdG (b.natAbs + 1) a b = gcdG g v (u.tmod v)) := by rw [hG.out]; show _ = _; simp only [gcdG]; rw [if_neg hz]
      go_wp2_with fail
      go_region
      go_wp2_with fail
      go_roundg g
      case measure => omega
      case rel => exact ⟨v, u.tmod v, rfl, rfl, hG2, by omega, hv1, hbd, (by repeat (first | assumption | exact Quiet.refl _ | apply Quiet.drewN | apply Quiet.drew))⟩

theorem run_copy_full (W : World) (g : Nat) (c : Array Value) (k sb so scap : Nat) (f : Nat → Int) (ty : TypeId) (hg : W.heap[g]? = some (.cells c 2 (0, 0))) (hs : c.size = k) (hsrc : ∀ j, j < k → W.cell? ⟨sb, so + j, none⟩ = some (.int .i64 (f j))) :
    (Builtin.copy_ #[97, 97] ty #[.slice (some ⟨g, 0, none⟩) k k, .slice (some ⟨sb, so, none⟩) k scap]).run Try.prog W = .ok (.int .i64 k) (W.setRow g (intsL f k).toArray) := by
  have hl : (intsL f k).length = k := by simp [intsL]
  have h := run_copy_row (P := Try.prog) W 97 97 ty 2 g 0 k k ⟨sb, so, none⟩ k scap c 2 (intsL f k) Try.underlying97 Try.size2 hg (by rw [hl]; simp) (fun j v hv => by
    obtain ⟨hj, rfl⟩ := intsL_some hv
    rw [add_at]; exact hsrc j hj) (by rw [hl]; omega) intsL_one
  rw [hl, List.take_zero, List.nil_append, Nat.zero_add, List.drop_of_length_le (by simp; omega), List.append_nil] at h
  exact h
theorem row_copied {W : World} {g : Nat} {c : Array Value} {k : Nat} {t : TypeId} {f : Nat → Int} (hg : W.heap[g]? = some (.cells c t (0, 0))) : (W.setRow g (intsL f k).toArray).rowIs g t k (fun j => .int .i64 (f j)) :=
  ⟨_, setRow_heap W g c _ t _ hg, by simp [intsL], fun i hi => by rw [List.getElem?_toArray]; exact intsL_get hi⟩
theorem kept_setRow (W : World) (g : Nat) (cs : Array Value) : KeptX (fun i => i = g) W (W.setRow g cs) :=
  ⟨rfl, rfl, rfl, by simp [World.setRow], fun k _ hk => setRow_other W g k cs hk⟩
def ClonePost (w : World) (k : Nat) (M : Nat → Nat → Int) (e : Ending) (w' : World) : Prop := ∃ b br, e = .returned (.slice (some ⟨b, 0, none⟩) k k) ∧ Kept w w' ∧ MatOwn w.heap.size w' k b br M

set_option maxRecDepth 100000 in
set_option maxHeartbeats 2000000 in
theorem clone_any (w : World) (v : Value) (k : Nat) (M : Nat → Nat → Int) (hM : MatRead w v k M) (hk : k ≤ 1000) :
    Calls Try.prog 69 #[v] w (ClonePost w k M) := by
  obtain ⟨vs, ⟨la, lb, lo, lcap, rfl, hla, hlc⟩, hrows⟩ := hM
  have hmk := fun W => mkMat (k : Int) k rfl (by omega) W
  have hmr := fun W => mkRow64 (k : Int) k rfl (by omega) W
  go_enter Try.func69, Try.ntmps69
  go_wp2_with fail
  have ht0 := World.rowIs_made w (.slice none 0 0) k 97
  have hk0 : Kept w (w.alloc (.cells (madeCells #[.slice none 0 0] k) 97)) := (Kept.refl w).alloc _
  generalize w.alloc (.cells (madeCells #[.slice none 0 0] k) 97) = W0 at *
  go_loopg [10] k (fun g i wr => ∃ (t : Nat) (br : Nat → Nat), t ≤ k ∧ g = k - t ∧ i = .int .i64 t ∧ Kept w wr ∧ wr.rowIs w.heap.size 97 k (fun i => if i < t then .slice (some ⟨br i, 0, none⟩) k k else .slice none 0 0) ∧
    (∀ i, i < t → wr.rowIs (br i) 2 k (fun j => .int .i64 (M i j))) ∧ (∀ i, i < t → w.heap.size < br i) ∧ (∀ i j, i < t → j < t → i ≠ j → br i ≠ br j))
  case atStart => exact ⟨0, fun _ => 0, Nat.zero_le _, rfl, rfl, hk0, ht0.congr (fun i _ => by simp), fun i hi => absurd hi (by omega), fun i hi => absurd hi (by omega), fun i j hi => absurd hi (by omega)⟩
  case round =>
    obtain ⟨t, br, htk, rfl, rfl, hK, hT, hR, hB, hrr⟩ := hrel
    clear hk0 ht0
    by_cases hlt : t < k
    · obtain rfl := hla (by omega)
      obtain ⟨sa, sb, so, scap, hvs, hsa, hsc⟩ := hrows t hlt
      obtain rfl := hsa (by omega)
      have x1 := hK.cellSome (hlc t hlt)
      rw [hvs] at x1
      have hT1 := hT.cell hlt
      rw [if_neg (by omega)] at hT1
      have t1a : ∀ o, (wr.alloc o).cell? ⟨w.heap.size, t, none⟩ = some (.slice none 0 0) := fun o => ((Kept.refl wr).alloc o).cellSome hT1
      have t2a : ∀ o, (wr.alloc o).frozen? ⟨w.heap.size, t, none⟩ = false := fun o => (hT.alloc o).frozen t
      have ht0 : (0 : Int) ≤ (t : Int) := by omega
      have ht1 : (t : Int) < (k : Int) := by omega
      go_upto_region 6 with fail
      have hnew := (World.rowIs_made wr (.int .i64 0) k 2).setOther (a := ⟨w.heap.size, t, none⟩) (show wr.heap.size ≠ w.heap.size by have := hT.lt; omega) (.slice (some ⟨wr.heap.size, 0, none⟩) k k)
      have hT1 := ((hT.alloc (.cells (madeCells #[.int .i64 0] k) 2)).set t (.slice (some ⟨wr.heap.size, 0, none⟩) k k)).congr (g := fun i => if i < t + 1 then .slice (some ⟨(if i = t then wr.heap.size else br i), 0, none⟩) k k else .slice none 0 0) (fun i _ => by
        by_cases e : i = t
        · subst e; simp
        · simp only [if_neg e]
          by_cases h : i < t
          · rw [if_pos h, if_pos (by omega)]
          · rw [if_neg h, if_neg (by omega)])
      have hR1 : ∀ i, i < t → ((wr.alloc (.cells (madeCells #[.int .i64 0] k) 2)).setCell ⟨w.heap.size, t, none⟩ (.slice (some ⟨wr.heap.size, 0, none⟩) k k)).rowIs (br i) 2 k (fun j => .int .i64 (M i j)) := fun i hi => ((hR i hi).alloc _).setOther (show br i ≠ w.heap.size by have := hB i hi; omega) _
      have hK1 : Kept w ((wr.alloc (.cells (madeCells #[.int .i64 0] k) 2)).setCell ⟨w.heap.size, t, none⟩ (.slice (some ⟨wr.heap.size, 0, none⟩) k k)) := (hK.alloc _).setCell (Nat.le_refl _) _
      have hlr : ∀ i, i < t → br i < wr.heap.size := fun i hi => (hR i hi).lt
      have hwr : w.heap.size < wr.heap.size := hT.lt
      obtain ⟨g, HG⟩ : ∃ g, Hid (g = wr.heap.size) := ⟨_, rfl⟩
      rw [← HG.out] at hnew hT1 hR1 hK1 hlr hwr ⊢
      generalize (wr.alloc (.cells (madeCells #[.int .i64 0] k) 2)).setCell ⟨w.heap.size, t, none⟩ (.slice (some ⟨g, 0, none⟩) k k) = W1 at *
      clear HG t1a t2a hT hR
      have x2 := hK1.cellSome (hlc t hlt)
      rw [hvs] at x2
      have hT2 := hT1.cell hlt
      rw [if_pos (by omega), if_pos rfl] at hT2
      obtain ⟨c, hc, hcs, _⟩ := hnew
      have hcopy := run_copy_full W1.drew g c k sb so scap (M t) 3 hc hcs (fun j hj => hK1.cellSome (hsc j hj))
      have hHC := Lib.hid hc
      clear hc hcs
      go_region
      go_wp2_with fail
      have hN2 := row_copied (W := W1.drew) (k := k) (f := M t) hHC.out
      have hX2 := kept_setRow W1.drew g (intsL (M t) k).toArray
      go_roundg (k - (t + 1))
      case measure => omega
      case rel =>
        have hX3 : KeptX (fun i => i = g) W1 (W1.drew.setRow g (intsL (M t) k).toArray) := KeptX.trans ((KeptX.refl _ W1).drew) hX2
        refine ⟨t + 1, fun i => if i = t then g else br i, by omega, rfl, by go_num, Kept.step hK1 hX3 (fun i hi => by omega), hX3.row hT1 (by omega), fun i hi => ?_, fun i hi => ?_, fun i j hi hj hij => ?_⟩
        · by_cases e : i = t
          · subst e; simp only [if_true]; exact hN2
          · simp only [if_neg e]; exact hX3.row (hR1 i (by omega)) (by have := hlr i (by omega); omega)
        · by_cases e : i = t
          · simp only [if_pos e]; exact hwr
          · simp only [if_neg e]; exact hB i (by omega)
        · by_cases e : i = t
          · by_cases e2 : j = t
            · omega
            · simp only [if_pos e, if_neg e2]; have := hlr j (by omega); omega
          · by_cases e2 : j = t
            · simp only [if_neg e, if_pos e2]; have := hlr i (by omega); omega
            · simp only [if_neg e, if_neg e2]; exact hrr i j (by omega) (by omega) hij
    · obtain rfl : t = k := by omega
      go_wp2_with fail
      go_ret
      exact ⟨w.heap.size, br, rfl, hK, hT.congr (fun i hi => by rw [if_pos hi]), hR, Nat.le_refl _, fun i hi => Nat.le_of_lt (hB i hi), fun i hi => by have := hB i hi; omega, hrr⟩
end Go.Proofs.Ytlnpipkhofhlnaa
