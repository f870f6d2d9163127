/-
  How many walks there are: the table of the numbers, row by row, whatever the sums are.
-/
import Derived.Test.YtomnjcjipdnnfaaSa
namespace Go.Proofs.Ytomnjcjipdnnfaa
open Go.RowKit Go.Deep

theorem Try.infoNum : (Try.prog.info? 55).map (fun i => (i.zero, i.size, i.bytes)) = some (some (.string ⟨#[]⟩), 1, 16) := by kernel_rfl
theorem mkNums (n : Nat) (hn : n ≤ 1000000) (w : World) : (Instr.makeSlice 117 (.int .i64 n) (.int .i64 n)).run Try.prog w = .ok (.slice (some ⟨w.heap.size, 0, none⟩) n n) (w.alloc (.cells (madeCells #[.string ⟨#[]⟩] n) 55)) :=
  run_make_row' (P := Try.prog) 117 55 (.string ⟨#[]⟩) 16 Try.underlying117 Try.infoNum rfl .i64 .i64 n (by omega) (by omega) w
theorem kp3 {w w' : World} {a1 a2 a3 : Addr} {v1 v2 v3 : Value} (h1 : w.cell? a1 = some v1) (h2 : w.cell? a2 = some v2) (h3 : w.cell? a3 = some v3) (hk : Kept w w') : w'.cell? a1 = some v1 ∧ w'.cell? a2 = some v2 ∧ w'.cell? a3 = some v3 := ⟨hk.cellSome h1, hk.cellSome h2, hk.cellSome h3⟩
theorem kp3s {w w' : World} {a1 a2 a3 p : Addr} {v1 v2 v3 v : Value} (h1 : w.cell? a1 = some v1) (h2 : w.cell? a2 = some v2) (h3 : w.cell? a3 = some v3) (n1 : p.block ≠ a1.block) (n2 : p ≠ a2) (n3 : p.block ≠ a3.block) (hk : Kept w w') :
    (w'.setCell p v).cell? a1 = some v1 ∧ (w'.setCell p v).cell? a2 = some v2 ∧ (w'.setCell p v).cell? a3 = some v3 :=
  ⟨(World.cell?_setCell_far _ _ _ _ n1).trans (hk.cellSome h1), (World.cell?_setCell_other _ _ _ _ n2).trans (hk.cellSome h2), (World.cell?_setCell_far _ _ _ _ n3).trans (hk.cellSome h3)⟩
/-- a row of numbers of which the first k are there -/
def numRow (T : Nat → ByteArray) (k : Nat) : Nat → Value := fun t => .string (if t < k then T t else ⟨#[]⟩)
theorem numRow_put {w : World} {b n k : Nat} {T : Nat → ByteArray} (h : w.rowIs b 55 n (numRow T k)) {x : ByteArray} (hx : x = T k) : (w.setCell ⟨b, k, none⟩ (.string x)).rowIs b 55 n (numRow T (k + 1)) :=
  (h.set k _).congr (fun t _ => by
    unfold numRow
    by_cases e : t = k
    · subst e; rw [if_pos rfl, if_pos (by omega), hx]
    · rw [if_neg e]
      by_cases e2 : t < k
      · rw [if_pos e2, if_pos (by omega)]
      · rw [if_neg e2, if_neg (by omega)])
theorem numRow_all {w : World} {b n : Nat} {T : Nat → ByteArray} (h : w.rowIs b 55 n (numRow T n)) : w.rowIs b 55 n (fun t => .string (T t)) :=
  h.congr (fun t ht => by unfold numRow; rw [if_pos ht])
set_option maxRecDepth 100000 in
set_option maxHeartbeats 4000000 in
theorem stepsN (w : World) (m n q p : Nat) (T X : Nat → Nat → ByteArray) (hq : m = q + 1) (hp : n = p + 1) (hm2 : m ≤ 1000000) (hn2 : n ≤ 1000000) (h0 : ∀ j, T 0 j = ⟨#[49]⟩) (h1 : ∀ i, T i 0 = ⟨#[49]⟩)
    (hP1 : ∀ (i j : Nat) (W : World), i + 1 < m → j + 1 < n → Calls Try.prog 80 #[.string (T i (j + 1)), .string (T (i + 1) j)] W fun e w' => e = .returned (.string (X i j)) ∧ Kept W w')
    (hP2 : ∀ (i j : Nat) (W : World), i + 1 < m → j + 1 < n → Calls Try.prog 80 #[.string (X i j), .string (T i j)] W fun e w' => e = .returned (.string (T (i + 1) (j + 1))) ∧ Kept W w') :
    Calls Try.prog 61 #[.int .i64 m, .int .i64 n] w fun e w' => e = .returned (.string (T q p)) ∧ Kept w w' := by
  have HP1 := Lib.hid hP1
  have HP2 := Lib.hid hP2
  have H0 := Lib.hid h0
  have H1 := Lib.hid h1
  clear hP1 hP2 h0 h1
  have hmk := mkNums n hn2
  have s0 : IntKind.i64.wrap ((m : Int) - 1) = (q : Int) := by rw [show (m : Int) - 1 = (q : Int) by omega]; exact IntWalk.i64_in _ (by omega)
  have s1 : IntKind.i64.wrap ((n : Int) - 1) = (p : Int) := by rw [show (n : Int) - 1 = (p : Int) by omega]; exact IntWalk.i64_in _ (by omega)
  have hqa : q < m := by omega
  have hqb : m ≤ q + 1 := by omega
  have hpa : p < n := by omega
  have hpb : n ≤ p + 1 := by omega
  clear hq hp
  go_enter Try.func61, Try.ntmps61
  have hr := World.rowIs_made w (.string ⟨#[]⟩) n 55
  have hK : Kept w (w.alloc (.cells (madeCells #[.string ⟨#[]⟩] n) 55)) := (Kept.refl w).alloc _
  go_wp2_with fail
  generalize w.alloc (.cells (madeCells #[.string ⟨#[]⟩] n) 55) = W0 at *
  obtain ⟨rb0, HRB⟩ : ∃ rb, Hid (rb = w.heap.size) := ⟨_, rfl⟩
  rw [← HRB.out] at hr ⊢
  have hrb : w.heap.size ≤ rb0 := by rw [HRB.out]; omega
  go_loopg [13] n (fun gg s13 wr => ∃ k : Nat, k ≤ n ∧ gg = n - k ∧ s13 = .int .i64 k ∧ Kept w wr ∧ wr.rowIs rb0 55 n (numRow (T 0) k))
  case atStart => exact ⟨0, Nat.zero_le _, rfl, rfl, hK, hr.congr (fun t _ => by unfold numRow; rw [if_neg (by omega)])⟩
  case round =>
    obtain ⟨k, hk, rfl, rfl, hK, hr⟩ := hrel
    by_cases hlt : k < n
    · have c0 := hr.cell hlt
      have c1 := hr.frozen k
      have hK' := hK.setCell (p := ⟨rb0, k, none⟩) hrb (.string ⟨#[49]⟩)
      have hr' := numRow_put hr (H0.out k).symm
      go_wp2_with fail
      go_roundg (n - (k + 1))
      case measure => omega
      case rel => exact ⟨k + 1, by omega, rfl, by go_num, hK', hr'⟩
    · obtain rfl : k = n := by omega
      have hr := numRow_all hr
      go_wp2_with fail
      go_loopg [5, 22] q (fun gg s5 s22 wr => ∃ i rb : Nat, i ≤ q ∧ gg = q - i ∧ s5 = .slice (some ⟨rb, 0, none⟩) k k ∧ s22 = .int .i64 i ∧ w.heap.size ≤ rb ∧ Kept w wr ∧ wr.rowIs rb 55 k (fun t => .string (T i t)))
      case atStart => exact ⟨0, rb0, Nat.zero_le _, rfl, rfl, rfl, hrb, hK, hr⟩
      case round =>
        obtain ⟨i, rb, hi, rfl, rfl, rfl, hrbb, hK, hr⟩ := hrel
        by_cases hlt : i < q
        · have e0 := (World.rowIs_made wr (.string ⟨#[]⟩) k 55).cell (show 0 < k by omega)
          have e1 := (World.rowIs_made wr (.string ⟨#[]⟩) k 55).frozen 0
          have e2 : 0 < k := by omega
          have hn : (wr.alloc (.cells ((madeCells #[.string ⟨#[]⟩] k).setIfInBounds 0 (.string ⟨#[49]⟩)) 55)).rowIs wr.heap.size 55 k (numRow (T (i + 1)) 1) := (row_made_set wr (.string ⟨#[]⟩) (.string ⟨#[49]⟩) k 0 55).congr (fun t _ => by
            unfold numRow
            by_cases e : t = 0
            · subst e; rw [if_pos rfl, if_pos (by omega), H1.out]
            · rw [if_neg e, if_neg (by omega)])
          have hlr : rb < wr.heap.size := hr.lt
          have hls : w.heap.size ≤ wr.heap.size := Kept.size hK
          have hr2 := hr.alloc (.cells ((madeCells #[.string ⟨#[]⟩] k).setIfInBounds 0 (.string ⟨#[49]⟩)) 55)
          have hK2 := hK.alloc (.cells ((madeCells #[.string ⟨#[]⟩] k).setIfInBounds 0 (.string ⟨#[49]⟩)) 55)
          clear hr hK
          go_wp2_with fail
          clear e0 e1
          obtain ⟨nb, HNB⟩ : ∃ nb, Hid (nb = wr.heap.size) := ⟨_, rfl⟩
          rw [← HNB.out] at hn hlr hls ⊢
          generalize wr.alloc (.cells ((madeCells #[.string ⟨#[]⟩] k).setIfInBounds 0 (.string ⟨#[49]⟩)) 55) = W1 at *
          clear HNB
          have hne : nb ≠ rb := by omega
          go_loopg [8] p (fun gg s8 wr => ∃ c : Nat, c + 1 ≤ k ∧ gg = p - c ∧ s8 = .int .i64 ((c + 1 : Nat) : Int) ∧ Kept w wr ∧ wr.rowIs rb 55 k (fun t => .string (T i t)) ∧ wr.rowIs nb 55 k (numRow (T (i + 1)) (c + 1)))
          case atStart => exact ⟨0, by omega, (Nat.sub_zero _).symm, rfl, hK2, hr2, hn⟩
          case round =>
            obtain ⟨c, hc, rfl, rfl, hK, hr, hn⟩ := hrel
            clear hK2 hr2
            obtain ⟨j, hj⟩ : ∃ j, j = c + 1 := ⟨_, rfl⟩
            rw [← hj] at hn hc ⊢
            by_cases hlj : j < k
            · obtain ⟨a1, HA1⟩ : ∃ a, Hid (a = T i j) := ⟨_, rfl⟩
              obtain ⟨a2, HA2⟩ : ∃ a, Hid (a = T (i + 1) c) := ⟨_, rfl⟩
              obtain ⟨a3, HA3⟩ : ∃ a, Hid (a = T i c) := ⟨_, rfl⟩
              obtain ⟨x, HX⟩ : ∃ a, Hid (a = X i c) := ⟨_, rfl⟩
              obtain ⟨y, HY⟩ : ∃ a, Hid (a = T (i + 1) j) := ⟨_, rfl⟩
              have P1 := Lib.hid (fun W => HP1.out i c W (by omega) (by omega))
              have P2 := Lib.hid (fun W => HP2.out i c W (by omega) (by omega))
              rw [← hj, ← HA1.out, ← HA2.out, ← HX.out] at P1
              rw [← hj, ← HA3.out, ← HX.out, ← HY.out] at P2
              have P1' := Lib.hid (fun (W : World) (u v : ByteArray) (hu : u = a1) (hv : v = a2) => (show Calls Try.prog 80 #[.string u, .string v] W fun e w' => e = .returned (.string x) ∧ Kept W w' by subst hu; subst hv; exact P1.out W))
              have P2' := Lib.hid (fun (W : World) (u v : ByteArray) (hu : u = x) (hv : v = a3) => (show Calls Try.prog 80 #[.string u, .string v] W fun e w' => e = .returned (.string y) ∧ Kept W w' by subst hu; subst hv; exact P2.out W))
              have hja : c < j := by omega
              have hjb : j ≤ c + 1 := by omega
              clear hj
              have t1 : wr.cell? ⟨rb, j, none⟩ = some (.string a1) := by rw [HA1.out]; exact hr.cell hlj
              have t2 : wr.cell? ⟨nb, c, none⟩ = some (.string a2) := by
                rw [HA2.out]
                have := hn.cell (show c < k by omega)
                unfold numRow at this
                rw [if_pos (by omega)] at this; exact this
              have t3 : wr.cell? ⟨rb, c, none⟩ = some (.string a3) := by rw [HA3.out]; exact hr.cell (by omega)
              have s2 : IntKind.i64.wrap ((j : Int) - 1) = (c : Int) := by rw [show (j : Int) - 1 = (c : Int) by omega]; exact IntWalk.i64_in _ (by omega)
              have s3 : IntKind.i64.wrap ((j : Int) + 1) = (j : Int) + 1 := IntWalk.i64_in _ (by omega)
              have s4 : (0 : Int) ≤ (j : Int) := by omega
              have s5 : (j : Int) < (k : Int) := by omega
              have s6 : (0 : Int) ≤ (c : Int) := by omega
              have s7 : (c : Int) < (k : Int) := by omega
              have HKS := Lib.hid (fun (W' : World) (hk : Kept wr W') (v : Value) => kp3s (p := ⟨nb, j, none⟩) (v := v) t1 t2 t3 hne (by simp <;> omega) hne hk)
              have HY2 : Hid (y = T (i + 1) j) := HY
              clear HA1 HA2 HA3 HX P1 P2
              go_wp2_with fail
              go_region_held3 (fun w' => w'.cell? ⟨rb, j, none⟩ = some (.string a1) ∧ w'.cell? ⟨nb, c, none⟩ = some (.string a2) ∧ w'.cell? ⟨rb, c, none⟩ = some (.string a3))
                (first | exact HKS.out _ hKc _ | exact kp3 t1 t2 t3 (by repeat (first | assumption | exact Kept.refl _ | apply Kept.drew | apply Kept.drewN | apply Kept.alloc | refine Kept.trans ?_ (by assumption))))
                (first | (go_at_call 80; refine (P1'.out _ _ _ (by rfl) (by rfl)).mono ?_; rintro e wa ⟨rfl, hka⟩) | (go_at_call 80; refine (P2'.out _ _ _ (by rfl) (by rfl)).mono ?_; rintro e wb ⟨rfl, hkb⟩; have hKc : Kept wr wb := (by repeat (first | assumption | exact Kept.refl _ | apply Kept.drew | apply Kept.drewN | apply Kept.alloc | refine Kept.trans ?_ (by assumption))); have z0 := (hKc.row hn).cell hlj; have z1 := (hKc.row hn).frozen j))
              have hr3 := (hKc.row hr).setOther (a := ⟨nb, j, none⟩) (Ne.symm hne) (.string y)
              have hn3 := numRow_put (hKc.row hn) HY2.out
              have hK3 := (hK.trans hKc).setCell (p := ⟨nb, j, none⟩) hls (.string y)
              clear t1 t2 t3 HKS z0 z1 hka hkb hr hn hK
              go_wp2_with fail
              go_roundg (p - j)
              case measure => omega
              case rel => exact ⟨j, by omega, rfl, by go_num, hK3, hr3, hn3⟩
            · obtain rfl : j = k := by omega
              have hja : c < j := by omega
              have hjb : j ≤ c + 1 := by omega
              clear hj
              have hn := numRow_all hn
              have s3 : IntKind.i64.wrap ((i : Int) + 1) = (i : Int) + 1 := IntWalk.i64_in _ (by omega)
              go_wp2_with fail
              go_roundg (q - (i + 1))
              case measure => omega
              case rel => exact ⟨i + 1, nb, by omega, rfl, rfl, by go_num, hls, hK, hn⟩
        · obtain rfl : i = q := by omega
          have t1 : wr.cell? ⟨rb, p, none⟩ = some (.string (T i p)) := hr.cell (by omega)
          have s4 : (0 : Int) ≤ (p : Int) := by omega
          have s5 : (p : Int) < (k : Int) := by omega
          go_wp2_with fail
          go_ret
          exact ⟨rfl, hK⟩
end Go.Proofs.Ytomnjcjipdnnfaa
