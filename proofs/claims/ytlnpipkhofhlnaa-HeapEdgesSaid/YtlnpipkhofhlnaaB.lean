/-
  The program's yards: what each of their methods that only read returns.
-/
import Derived.Test.YtlnpipkhofhlnaaChecked
import Derived.Test.YtlnpipkhofhlnaaRep
import Derived.Outline
import Derived.Deep.QuietTactic
import Derived.BigQuiet
import Derived.Lib.Hide
import Derived.Deep.RegionHeld3
namespace Go.Proofs.Ytlnpipkhofhlnaa
open Go.RowKit Go.Deep

/-- v reads as a yard of n vertices and m edges, of degrees D, joined by J; its blocks are bd, bj and br. -/
def YardV (n m bd bj : Nat) : Value := .agg #[.int .i64 n, .int .i64 m, .slice (some ⟨bd, 0, none⟩) n n, .slice (some ⟨bj, 0, none⟩) n n]
structure YardAt (w : World) (n bd bj : Nat) (br : Nat → Nat) (D : Nat → Nat) (J : Nat → Nat → Nat) : Prop where
  deg : w.rowIs bd 3 n (fun i => .int .i64 (D i))
  top : w.rowIs bj 25 n (fun i => .slice (some ⟨br i, 0, none⟩) n n)
  row : ∀ i, i < n → w.rowIs (br i) 3 n (fun j => .int .i64 (J i j))
theorem YardAt.kept {w w' : World} {n bd bj : Nat} {br D : Nat → Nat} {J : Nat → Nat → Nat} (h : YardAt w n bd bj br D J) (k : Kept w w') : YardAt w' n bd bj br D J :=
  ⟨k.row h.deg, k.row h.top, fun i hi => k.row (h.row i hi)⟩
theorem YardAt.keptX {S : Nat → Prop} {w w' : World} {n bd bj : Nat} {br D : Nat → Nat} {J : Nat → Nat → Nat} (h : YardAt w n bd bj br D J) (k : KeptX S w w') (h1 : ¬ S bd) (h2 : ¬ S bj) (h3 : ∀ i, i < n → ¬ S (br i)) : YardAt w' n bd bj br D J :=
  ⟨k.row h.deg h1, k.row h.top h2, fun i hi => k.row (h.row i hi) (h3 i hi)⟩
/-- the yard in a box -/
structure YBox (w : World) (B n m bd bj : Nat) : Prop where
  c0 : w.cell? ⟨B, 0, none⟩ = some (.int .i64 n)
  c1 : w.cell? ⟨B, 1, none⟩ = some (.int .i64 m)
  c2 : w.cell? ⟨B, 2, none⟩ = some (.slice (some ⟨bd, 0, none⟩) n n)
  c3 : w.cell? ⟨B, 3, none⟩ = some (.slice (some ⟨bj, 0, none⟩) n n)
theorem YBox.kept {w w' : World} {B n m bd bj : Nat} (h : YBox w B n m bd bj) (k : Kept w w') : YBox w' B n m bd bj :=
  ⟨k.cellSome h.c0, k.cellSome h.c1, k.cellSome h.c2, k.cellSome h.c3⟩
theorem YBox.new (w : World) (n m bd bj : Nat) (t : TypeId) : YBox (w.alloc (.cells #[.int .i64 n, .int .i64 m, .slice (some ⟨bd, 0, none⟩) n n, .slice (some ⟨bj, 0, none⟩) n n] t)) w.heap.size n m bd bj := by
  refine ⟨?_, ?_, ?_, ?_⟩ <;> (unfold World.cell?; dsimp only; rw [blk_alloc_new]; rfl)

theorem YBox.set4 {w : World} {B n m bd bj b : Nat} (h : YBox w B n m bd bj) (hb : B ≠ b) (i : Nat) (v : Value) : YBox (w.setCell ⟨b, i, none⟩ v) B n m bd bj := by
  refine ⟨?_, ?_, ?_, ?_⟩ <;> rw [World.cell?_setCell_other _ _ _ _ (by intro e; exact hb (congrArg Addr.block e).symm)]
  · exact h.c0
  · exact h.c1
  · exact h.c2
  · exact h.c3
def unb (n : Nat) (J : Nat → Nat → Nat) (b : Nat → Bool) (v : Nat) : Nat := sumN (fun u => if b u then 0 else J v u) n

set_option maxHeartbeats 1000000 in
theorem unburnt_any (w : World) (n m bd bj : Nat) (br D : Nat → Nat) (J : Nat → Nat → Nat) (v : Nat) (bv : Value) (b : Nat → Bool) (hY : YardAt w n bd bj br D J) (hn : n ≤ 8) (hJ : ∀ i j, i < n → j < n → J i j ≤ 40) (hv : v < n) (hb : BoolsAt w bv n b) :
    Calls Try.prog 77 #[YardV n m bd bj, .int .i64 v, bv] w fun e w' => e = .returned (.int .i64 (unb n J b v)) ∧ Kept w w' := by
  obtain ⟨a, bb, o, cap, rfl, ha, hc⟩ := hb
  obtain rfl := ha (by omega)
  unfold YardV unb
  have hbx := YBox.new w n m bd bj 78
  go_enter Try.func77, Try.ntmps77
  go_wp2
  go_loopg [7, 11] n (fun g s i wr => ∃ k : Nat, k ≤ n ∧ g = n - k ∧ i = .int .i64 k ∧ s = .int .i64 (sumN (fun u => if b u then 0 else J v u) k) ∧ Kept w wr ∧ YBox wr w.heap.size n m bd bj)
  case atStart => exact ⟨0, Nat.zero_le _, rfl, rfl, rfl, (Kept.refl _).alloc _, hbx⟩
  case round =>
    obtain ⟨k, hk, rfl, rfl, rfl, hK, hB⟩ := hrel
    by_cases hlt : k < n
    · have h1 := hK.cellSome (hc k hlt)
      have h2 := (hK.row hY.top).cell hv
      have h3 := (hK.row (hY.row v hv)).cell hlt
      have h4 := hB.c3
      have hs := sumN_le (fun u => if b u then 0 else J v u) 40 k (fun i hi => by have := hJ v i hv (by omega); show (if b i then 0 else J v i) ≤ 40; split <;> omega)
      have hj := hJ v k hv hlt
      clear hc hJ hbx
      cases e1 : b k
      all_goals
        go_wp2
        go_roundg (n - (k+1))
        case measure => omega
        case rel => exact ⟨k + 1, by omega, rfl, by go_num, by (simp only [sumN, e1]; go_num), hK, hB⟩
    · go_wp2
      go_ret
      exact ⟨ret_int (by rw [show k = n by omega]), hK⟩

/-- does vertex v catch fire -/
def hot (n : Nat) (J : Nat → Nat → Nat) (h : Nat → Int) (b : Nat → Bool) (v : Nat) : Bool := !b v && decide ((unb n J b v : Int) ≤ h (v - 1))
def catchV (n : Nat) (J : Nat → Nat → Nat) (h : Nat → Int) (b : Nat → Bool) : Nat := if least (hot n J h b) n < n then least (hot n J h b) n else 0

theorem unb_le (n : Nat) (J : Nat → Nat → Nat) (b : Nat → Bool) (v : Nat) (hn : n ≤ 8) (hv : v < n) (hJ : ∀ i j, i < n → j < n → J i j ≤ 40) : unb n J b v ≤ 320 := by
  have := sumN_le (fun u => if b u then 0 else J v u) 40 n (fun i hi => by have := hJ v i hv hi; show (if b i then 0 else J v i) ≤ 40; split <;> omega)
  unfold unb; omega

set_option maxHeartbeats 2000000 in
theorem catches_any (w : World) (n m bd bj : Nat) (br D : Nat → Nat) (J : Nat → Nat → Nat) (hv bv : Value) (hp : Nat → Int) (b : Nat → Bool) (hY : YardAt w n bd bj br D J) (hn : n ≤ 8) (hJ : ∀ i j, i < n → j < n → J i j ≤ 40)
    (hb0 : b 0 = true) (hh : IntsAt w hv (n - 1) hp) (hb : BoolsAt w bv n b) :
    Calls Try.prog 73 #[YardV n m bd bj, hv, bv] w fun e w' => e = .returned (.int .i64 (catchV n J hp b)) ∧ Kept w w' := by
  have hbb := hb
  obtain ⟨a, bb, o, cap, rfl, ha, hc⟩ := hb
  obtain ⟨a2, bb2, o2, cap2, rfl, ha2, hc2⟩ := hh
  unfold YardV
  have hbx := YBox.new w n m bd bj 78
  go_enter Try.func73, Try.ntmps73
  go_wp2
  go_loopg [10] n (fun g i wr => ∃ k : Nat, k ≤ n ∧ g = n - k ∧ i = .int .i64 k ∧ least (hot n J hp b) k = k ∧ Kept w wr ∧ YBox wr w.heap.size n m bd bj)
  case atStart => exact ⟨0, Nat.zero_le _, rfl, rfl, rfl, (Kept.refl _).alloc _, hbx⟩
  case round =>
    obtain ⟨k, hk, rfl, rfl, hl, hK, hB⟩ := hrel
    have HL := Lib.hid hl
    clear hl
    by_cases hlt : k < n
    · obtain rfl := ha (by omega)
      have h1 := hK.cellSome (hc k hlt)
      obtain ⟨c0, c1, c2, c3⟩ := hB
      have hbk := hbb.kept hK
      have hYk := hY.kept hK
      clear hc hbx hbb
      cases e1 : b k
      · have hk0 : 1 ≤ k := by
          rcases Nat.eq_zero_or_pos k with h | h
          · subst h; rw [hb0] at e1; cases e1
          · exact h
        obtain rfl := ha2 (by omega)
        have h2 := hK.cellSome (hc2 (k - 1) (by omega))
        have h0' := unb_le n J b k hn hlt hJ
        rw [e1] at h1
        have E1 := Lib.hid e1
        clear hc2 e1 hb0
        have s1 : IntKind.i64.wrap ((k : Int) - 1) = (k : Int) - 1 := IntWalk.i64_in _ (by omega)
        have s2 : ((k : Int) - 1).toNat = k - 1 := by omega
        have s3 : (1 : Int) ≤ k := by omega
        have s4 : (k : Int) - 1 < ((n - 1 : Nat) : Int) := by omega
        by_cases e2 : (unb n J b k : Int) ≤ hp (k - 1)
        · have hit : catchV n J hp b = k := by
            have h3 := least_hit HL.out (by simp [hot, E1.out, e2]) hlt
            unfold catchV; rw [h3, if_pos hlt]
          have HIT := Lib.hid hit
          clear hit
          go_wp2_with fail
          go_region_held3 (fun w' => w'.cell? ⟨w.heap.size, 0, none⟩ = some (.int .i64 n) ∧ w'.cell? ⟨w.heap.size, 1, none⟩ = some (.int .i64 m) ∧ w'.cell? ⟨w.heap.size, 2, none⟩ = some (.slice (some ⟨bd, 0, none⟩) n n) ∧ w'.cell? ⟨w.heap.size, 3, none⟩ = some (.slice (some ⟨bj, 0, none⟩) n n) ∧ w'.cell? ⟨bb, o + k, none⟩ = some (.bool false) ∧ w'.cell? ⟨bb2, o2 + (k - 1), none⟩ = some (.int .i64 (hp (k - 1))) ∧ Kept wr w')
            (exact keep6 c0 c1 c2 c3 h1 h2 (by repeat (first | assumption | exact Kept.refl _ | apply Kept.drew | apply Kept.drewN | apply Kept.alloc | refine Kept.trans ?_ (by assumption))))
            (first | (go_at_call 77; refine (unburnt_any _ n m bd bj br D J k _ b ?_ hn hJ hlt ?_).mono ?_; (exact hYk.kept (by repeat (first | assumption | exact Kept.refl _ | apply Kept.drew | apply Kept.drewN | apply Kept.alloc | refine Kept.trans ?_ (by assumption)))); (exact hbk.kept (by repeat (first | assumption | exact Kept.refl _ | apply Kept.drew | apply Kept.drewN | apply Kept.alloc | refine Kept.trans ?_ (by assumption)))); rintro e w' ⟨rfl, hk1⟩))
          go_wp2
          go_ret
          exact ⟨ret_int (by rw [HIT.out]), (by repeat (first | assumption | exact Kept.refl _ | apply Kept.drew | apply Kept.drewN | apply Kept.alloc | refine Kept.trans ?_ (by assumption)))⟩
        · have e2' : hp (k - 1) < (unb n J b k : Int) := by omega
          go_wp2_with fail
          go_region_held3 (fun w' => w'.cell? ⟨w.heap.size, 0, none⟩ = some (.int .i64 n) ∧ w'.cell? ⟨w.heap.size, 1, none⟩ = some (.int .i64 m) ∧ w'.cell? ⟨w.heap.size, 2, none⟩ = some (.slice (some ⟨bd, 0, none⟩) n n) ∧ w'.cell? ⟨w.heap.size, 3, none⟩ = some (.slice (some ⟨bj, 0, none⟩) n n) ∧ w'.cell? ⟨bb, o + k, none⟩ = some (.bool false) ∧ w'.cell? ⟨bb2, o2 + (k - 1), none⟩ = some (.int .i64 (hp (k - 1))) ∧ Kept wr w')
            (exact keep6 c0 c1 c2 c3 h1 h2 (by repeat (first | assumption | exact Kept.refl _ | apply Kept.drew | apply Kept.drewN | apply Kept.alloc | refine Kept.trans ?_ (by assumption))))
            (first | (go_at_call 77; refine (unburnt_any _ n m bd bj br D J k _ b ?_ hn hJ hlt ?_).mono ?_; (exact hYk.kept (by repeat (first | assumption | exact Kept.refl _ | apply Kept.drew | apply Kept.drewN | apply Kept.alloc | refine Kept.trans ?_ (by assumption)))); (exact hbk.kept (by repeat (first | assumption | exact Kept.refl _ | apply Kept.drew | apply Kept.drewN | apply Kept.alloc | refine Kept.trans ?_ (by assumption)))); rintro e w' ⟨rfl, hk1⟩))
          go_wp2
          go_roundg (n - (k+1))
          case measure => omega
          case rel => exact ⟨k + 1, by omega, rfl, by go_num, least_step HL.out (by simp [hot, E1.out]; omega), (by repeat (first | assumption | exact Kept.refl _ | apply Kept.drew | apply Kept.drewN | apply Kept.alloc | refine Kept.trans ?_ (by assumption))), YBox.kept ⟨c0, c1, c2, c3⟩ (by repeat (first | assumption | exact Kept.refl _ | apply Kept.drew | apply Kept.drewN | apply Kept.alloc | refine Kept.trans ?_ (by assumption)))⟩
      · go_wp2_with fail
        go_quiet (fail)
        go_wp2
        go_roundg (n - (k+1))
        case measure => omega
        case rel => exact ⟨k + 1, by omega, rfl, by go_num, least_step HL.out (by simp [hot, e1]), hK.drewN _, ⟨c0, c1, c2, c3⟩⟩
    · go_wp2
      go_ret
      exact ⟨ret_int (by have e : least (hot n J hp b) n = n := (by have := HL.out; rwa [show k = n by omega] at this); unfold catchV; rw [e]; simp), hK⟩
end Go.Proofs.Ytlnpipkhofhlnaa
