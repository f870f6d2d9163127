/-
  Package herd: has, after, all, isWithin, isZero, divisor; how many horses a set has.
  Package herd: horses, small.
-/
import Derived.Test.YtlnlddnjalfamaaGreatDoorHa
import Derived.Test.YtlnlddnjalfamaaGreatDoorTa
import Derived.Lib.BitFns
import Derived.Deep.QuietTactic
import Derived.BigQuiet
import Derived.Laws.CopyOwn
import Derived.Laws.OwnMore
import Derived.RegionTactic
import Derived.BigRegion
import Derived.Deep.DeepCutAuto
namespace Go.Proofs.YtlnlddnjalfamaaGreatDoor
open Go.RowKit Go.Deep

theorem nat_beq (q k : Nat) : ((q : Int) == (k : Int)) = (q == k) := by
  by_cases e : q = k
  · subst e; rw [beq_self_eq_true, beq_self_eq_true]
  · have h : ¬ (q : Int) = (k : Int) := by omega
    rw [beq_false_of_ne e, beq_false_of_ne h]
set_option maxRecDepth 100000 in
theorem has_any (w : World) (s i : Nat) (hs : s < 65536) (hi : i ≤ 15) : Calls Tryz.prog 73 #[.int .u16 s, .int .i64 i] w fun e w' => e = .returned (.bool (s.testBit i)) ∧ w = w' := by
  have hb : Hid (s.testBit i = ((s / 2 ^ i % 2 : Nat) == 1)) := bit_div s i
  have hq : s / 2 ^ i < 65536 := Nat.lt_of_le_of_lt (Nat.div_le_self _ _) hs
  have h1 := and1_16 (s / 2 ^ i) hq
  have e0 : ((s : Int) / 2 ^ i) = ((s / 2 ^ i : Nat) : Int) := by simp
  have e1 : bits .and .u16 ((s : Int) / 2 ^ i) 1 = ((s / 2 ^ i % 2 : Nat) : Int) := by rw [e0, h1]
  obtain ⟨q, HQ⟩ : ∃ q, Hid (q = s / 2 ^ i % 2) := ⟨_, rfl⟩
  rw [← HQ.out] at e1 hb
  clear e0 h1 hq HQ
  go_enter Tryz.func73, Tryz.ntmps73
  go_wp2_with fail
  go_ret
  refine ⟨ret_bool ?_, rfl⟩
  rw [hb.out]
  exact (nat_beq q 1)
theorem ret_u16 {a b : Int} (h : a = b) : Ending.returned (.int .u16 a) = .returned (.int .u16 b) := by rw [h]
theorem ret_u64 {a b : Int} (h : a = b) : Ending.returned (.int .u64 a) = .returned (.int .u64 b) := by rw [h]
theorem two_pow_int (i : Nat) : (2 : Int) ^ i = ((2 ^ i : Nat) : Int) := by simp
theorem two_cases {i : Nat} (h : i ≤ 14) : 2 ^ (i + 1) = 2 * 2 ^ i ∧ 2 ^ i ≤ 16384 ∧ 1 ≤ 2 ^ i := by
  have h1 : 2 ^ i ≤ 2 ^ 14 := Nat.pow_le_pow_right (by omega) h
  have h2 : 0 < 2 ^ i := Nat.two_pow_pos i
  exact ⟨by rw [Nat.pow_succ]; omega, by omega, by omega⟩
set_option maxRecDepth 100000 in
theorem after_any (w : World) (s i : Nat) (hs : s < 65536) (hi : i ≤ 14) : Calls Tryz.prog 98 #[.int .u16 s, .int .i64 i] w fun e w' => e = .returned (.int .u16 ((aft s i : Nat) : Int)) ∧ w = w' := by
  obtain ⟨h1, h2, h3⟩ := two_cases hi
  obtain ⟨p, HP⟩ : ∃ p : Nat, Hid (p = 2 ^ i) := ⟨2 ^ i, rfl⟩
  have e0 : (2 : Int) ^ i = (p : Int) := by rw [HP.out]; simp
  have hb : Hid (bits .andNot .u16 (s : Int) (2 * (p : Int) - 1) = ((aft s i : Nat) : Int)) := by
    show _ = _
    rw [show 2 * (p : Int) - 1 = ((allH (i + 1) : Nat) : Int) by unfold allH; rw [h1, ← HP.out]; rw [← HP.out] at h3; omega]
    exact andNot16 s (allH (i + 1)) hs (allH_lt (by omega))
  rw [← HP.out] at h2 h3
  clear h1 HP
  go_enter Tryz.func98, Tryz.ntmps98
  go_wp2_with fail
  go_ret
  exact ⟨ret_u16 hb.out, rfl⟩
set_option maxRecDepth 100000 in
theorem all_any (w : World) (a : Option Addr) (n cap : Nat) (hn : n ≤ 14) : Calls Tryz.prog 77 #[.slice a n cap] w fun e w' => e = .returned (.int .u16 ((allH n : Nat) : Int)) ∧ w = w' := by
  obtain ⟨h1, h2, h3⟩ := two_cases hn
  obtain ⟨p, HP⟩ : ∃ p : Nat, Hid (p = 2 ^ n) := ⟨2 ^ n, rfl⟩
  have e0 : (2 : Int) ^ n = (p : Int) := by rw [HP.out]; simp
  have hv : Hid ((p : Int) - 1 = ((allH n : Nat) : Int)) := by
    show _ = _
    unfold allH
    rw [← HP.out] at h3 ⊢
    omega
  rw [← HP.out] at h2 h3
  clear h1 HP
  go_enter Tryz.func77, Tryz.ntmps77
  go_wp2_with fail
  go_ret
  exact ⟨ret_u16 hv.out, rfl⟩
set_option maxRecDepth 100000 in
theorem isWithin_any (w : World) (x m : Int) : Calls Tryz.prog 66 #[.int .i64 x, .int .i64 m] w fun e w' => e = .returned (.bool (decide (1 ≤ x ∧ x ≤ m))) ∧ w = w' := by
  by_cases h1 : 1 ≤ x
  · go_enter Tryz.func66, Tryz.ntmps66
    go_wp2_with fail
    go_ret
    exact ⟨ret_bool (by by_cases e : x ≤ m <;> simp [h1, e]), rfl⟩
  · go_enter Tryz.func66, Tryz.ntmps66
    go_wp2_with fail
    go_ret
    exact ⟨ret_bool (by simp; omega), rfl⟩
set_option maxRecDepth 100000 in
theorem isZero_any (w : World) (v : Value) (x : Int) (h : NatAt w v x) : Calls Tryz.prog 88 #[v] w fun e w' => e = .returned (.bool (decide (x = 0))) ∧ w = w' := by
  obtain ⟨n, D, ⟨a, cap, rfl, _⟩, hL, rfl, hn⟩ := h
  have h0 : Hid (valN D n = 0 ↔ n = 0) := lean_zeroN hL
  clear hL
  go_enter Tryz.func88, Tryz.ntmps88
  go_wp2_with fail
  go_ret
  refine ⟨ret_bool ?_, rfl⟩
  rw [show ((n : Int) == 0) = (n == 0) from nat_beq n 0]
  by_cases e : n = 0
  · rw [decide_eq_true (h0.out.2 e)]; simp [e]
  · rw [decide_eq_false (fun h => e (h0.out.1 h))]; simp [e]
theorem pop8_cnt : ∀ n : Fin 256, Lib.pop8 (n.val : Int) = ((cnt (fun i => n.val.testBit i) 8 : Nat) : Int) := by decide +kernel
theorem cnt_shift (p q : Nat → Bool) (m k : Nat) (h : ∀ i, i < k → p (m + i) = q i) : cnt p (m + k) = cnt p m + cnt q k := by
  induction k with
  | zero => rfl
  | succ k ih =>
    rw [show m + (k + 1) = m + k + 1 by omega]
    simp only [cnt]
    rw [ih (fun i hi => h i (by omega)), h k (by omega)]
    omega
theorem cnt_eq (p q : Nat → Bool) (k : Nat) (h : ∀ i, i < k → p i = q i) : cnt p k = cnt q k := by
  induction k with
  | zero => rfl
  | succ k ih =>
    simp only [cnt]
    rw [ih (fun i hi => h i (by omega)), h k (by omega)]
theorem size16_split (q r : Nat) (hr : r < 256) : size16 (256 * q + r) = cnt (fun i => r.testBit i) 8 + cnt (fun i => q.testBit i) 8 := by
  unfold size16
  rw [show 16 = 8 + 8 from rfl, cnt_shift (q := fun i => q.testBit i) (h := fun i hi => by
    rw [show 256 = 2 ^ 8 from rfl, Nat.testBit_two_pow_mul_add _ hr, if_neg (by omega)]
    congr 1
    omega)]
  congr 1
  exact cnt_eq _ _ 8 fun i hi => by
    rw [show 256 = 2 ^ 8 from rfl, Nat.testBit_two_pow_mul_add _ hr, if_pos hi]
set_option maxRecDepth 100000 in
theorem pop16_any (w : World) (s : Nat) (hs : s < 65536) : Calls Tryz.prog 74 #[.int .u16 s] w fun e w' => e = .returned (.int .i64 ((size16 s : Nat) : Int)) ∧ Quiet w w' := by
  obtain ⟨q, HQ⟩ : ∃ q : Nat, Hid (q = s / 256) := ⟨_, rfl⟩
  obtain ⟨r, HR⟩ : ∃ r : Nat, Hid (r = s % 256) := ⟨_, rfl⟩
  have hq : q < 256 := by rw [HQ.out]; omega
  have hr : r < 256 := by rw [HR.out]; omega
  have e0 : (s : Int) / 256 = (q : Int) := by rw [HQ.out]; omega
  have e1 : bits .and .u16 (s : Int) 255 = (r : Int) := by
    rw [show (255 : Int) = ((255 : Nat) : Int) from rfl, and16 s 255 hs (by omega), HR.out, show 255 = 2 ^ 8 - 1 from rfl, Nat.and_two_pow_sub_one_eq_mod]
  have hs2 : s = 256 * q + r := by rw [HQ.out, HR.out]; omega
  have hsz : Hid (size16 s = cnt (fun i => r.testBit i) 8 + cnt (fun i => q.testBit i) 8) := by
    show _ = _
    rw [hs2]
    exact size16_split q r hr
  have hq8 := pop8_cnt ⟨q, hq⟩
  have hr8 := pop8_cnt ⟨r, hr⟩
  have cq := cnt_le (fun i => q.testBit i) 8
  have cr := cnt_le (fun i => r.testBit i) 8
  simp only at hq8 hr8
  obtain ⟨x, HX⟩ : ∃ x, Hid (x = cnt (fun i => q.testBit i) 8) := ⟨_, rfl⟩
  obtain ⟨y, HY⟩ : ∃ y, Hid (y = cnt (fun i => r.testBit i) 8) := ⟨_, rfl⟩
  rw [← HX.out] at hq8 cq hsz
  rw [← HY.out] at hr8 cr hsz
  have i0 := fun W => Lib.run_index_pop8tab (P := Tryz.prog) W 9 .u16 (q : Int) Tryz.underlying9 (by omega) (by omega)
  have i1 := fun W => Lib.run_index_pop8tab (P := Tryz.prog) W 9 .u16 (r : Int) Tryz.underlying9 (by omega) (by omega)
  rw [hq8] at i0
  rw [hr8] at i1
  have w1 : IntKind.u8.wrap ((x : Int) + y) = (x : Int) + y := IntWalk.u8_in _ (by omega)
  clear hs2 HQ HR hq8 hr8 HX HY
  go_enter Tryz.func74, Tryz.ntmps74
  go_wp2_with fail
  go_quiet (fail)
  go_wp2_with fail
  go_ret
  exact ⟨ret_int (by rw [hsz.out]; omega), (Quiet.refl w).drewN _⟩
theorem size16_le (s : Nat) : size16 s ≤ 16 := cnt_le _ _
set_option maxRecDepth 100000 in
theorem size_any (w : World) (s : Nat) (hs : s < 65536) : Calls Tryz.prog 44 #[.int .u16 s] w fun e w' => e = .returned (.int .i64 ((size16 s : Nat) : Int)) ∧ Quiet w w' := by
  have P := Lib.hid (fun W => pop16_any W s hs)
  go_enter Tryz.func44, Tryz.ntmps44
  go_wp2_with (first | (go_at_call 74; refine (P.out _).mono ?_; rintro e w1 ⟨rfl, hq⟩))
  go_ret
  exact ⟨rfl, hq⟩
set_option maxRecDepth 100000 in
theorem divisor_any (w : World) (x y : Nat) (hx : x < 1000000000000000000) (hy : y < 1000000000000000000) : Calls Tryz.prog 105 #[.int .u64 x, .int .u64 y] w fun e w' => e = .returned (.int .u64 ((Nat.gcd y x : Nat) : Int)) ∧ Quiet w w' := by
  go_enter Tryz.func105, Tryz.ntmps105
  go_wp2_with fail
  go_loopg [0, 1] (y + 1) (fun g s0 s1 wr => ∃ a b : Nat, g = b + 1 ∧ s0 = .int .u64 a ∧ s1 = .int .u64 b ∧ Quiet w wr ∧ a < 1000000000000000000 ∧ b < 1000000000000000000 ∧ Hid (Nat.gcd b a = Nat.gcd y x))
  case atStart => exact ⟨x, y, rfl, rfl, rfl, Quiet.refl w, hx, hy, rfl⟩
  case round =>
    obtain ⟨a, b, rfl, rfl, rfl, hQ, ha, hb, hg⟩ := hrel
    by_cases h0 : b = 0
    · subst h0
      go_wp2_with fail
      go_ret
      exact ⟨ret_u64 (by rw [← hg.out, Nat.gcd_zero_left]), hQ⟩
    · have n0 : ¬ (b : Int) = 0 := by omega
      have n1 : ((b : Int) != 0) = true := by simp; omega
      obtain ⟨r, HR⟩ : ∃ r : Nat, Hid (r = a % b) := ⟨_, rfl⟩
      have hr : r < b := by rw [HR.out]; exact Nat.mod_lt _ (by omega)
      have e1 : Int.tmod (a : Int) (b : Int) = (r : Int) := by rw [HR.out]; exact (Int.ofNat_tmod a b).symm
      have hg2 : Hid (Nat.gcd r b = Nat.gcd y x) := by rw [HR.out, ← hg.out]; exact (Nat.gcd_rec b a).symm
      clear HR hg
      go_wp2_with fail
      go_quiet (fail)
      go_wp2_with fail
      go_roundg (r + 1)
      case measure => omega
      case rel => exact ⟨b, r, rfl, rfl, rfl, hQ.drewN _, hb, by omega, hg2.out⟩
end Go.Proofs.YtlnlddnjalfamaaGreatDoor
namespace Go.Proofs.YtlnlddnjalfamaaGreatDoor
open Go.RowKit Go.Deep

theorem Tryz.info3 : (Tryz.prog.info? 3).map (fun i => (i.zero, i.size, i.bytes)) = some (some (.int .i64 0), 1, 8) := by kernel_rfl
def nats (l : List Nat) : List Value := l.map fun (v : Nat) => Value.int .i64 (v : Int)
theorem own_shape {w : World} {base e size : Nat} {v : Value} {n : Nat} {xs : List Value} (h : w.ownsRow base e size v n xs) : ∃ a cap, v = .slice a n cap := by
  rcases h.2 with ⟨rfl, rfl⟩ | ⟨g, cap, cur, rfl, _⟩
  · exact ⟨none, 0, rfl⟩
  · exact ⟨_, cap, rfl⟩
theorem nats_get {l : List Nat} {i : Nat} (h : i < l.length) : (nats l)[i]? = some (.int .i64 ((l.getD i 0 : Nat) : Int)) := by
  simp [nats, h, List.getD]
/-- v is this list of numbers -/
def NatsAt (w : World) (v : Value) (l : List Nat) : Prop := IntsAt w v l.length (fun i => ((l.getD i 0 : Nat) : Int))
theorem NatsAt.kept {w w' : World} {v : Value} {l : List Nat} (h : NatsAt w v l) (k : Kept w w') : NatsAt w' v l := CellsAt.kept h k
theorem NatsAt.of_own {w : World} {base : Nat} {v : Value} {l : List Nat} (h : w.ownsRow base 3 1 v l.length (nats l)) : NatsAt w v l :=
  (CellsAt.of_own h).congr fun i hi => by rw [List.getD_eq_getElem?_getD, nats_get hi]; rfl
def HorsesPost (w : World) (l : List Nat) (e : Ending) (w' : World) : Prop := ∃ v, e = .returned v ∧ w'.ownsRow w.heap.size 3 1 v l.length (nats l) ∧ Kept w w'
set_option maxRecDepth 100000 in
set_option maxHeartbeats 4000000 in
theorem horses_any (w : World) (s : Nat) (hs : s < 65536) : Calls Tryz.prog 43 #[.int .u16 s] w (HorsesPost w (horsesL s 9)) := by
  obtain ⟨i0, hi, hz0, hz1, hz2⟩ := info_parts Tryz.info3
  have HA := Lib.hid (fun (W : World) (j : Nat) (hj : j ≤ 15) => has_any W s j hs hj)
  have hlen : ∀ k, (horsesL s k).length ≤ k := fun k => by rw [horsesL_len]; exact cnt_le _ _
  have HL := Lib.hid hlen
  clear hlen
  go_enter Tryz.func43, Tryz.ntmps43
  go_wp2_with fail
  go_loopg [3, 5] 9 (fun g s3 s5 wr => ∃ j : Nat, j ≤ 9 ∧ g = 9 - j ∧ s5 = .int .i64 j ∧ Kept w wr ∧ wr.ownsRow w.heap.size 3 1 s3 (horsesL s j).length (nats (horsesL s j)))
  case atStart => exact ⟨0, by omega, rfl, rfl, Kept.refl w, World.ownsRow_nil _ _ _ _⟩
  case round =>
    obtain ⟨j, hj, rfl, rfl, hK, hO⟩ := hrel
    by_cases hlt : j < 9
    · have hn : (j : Int) < 9 := by omega
      have HB := Lib.hid (fun W => HA.out W j (by omega))
      have hs2 := Lib.hid (horsesL_succ s j)
      have hl := HL.out j
      have hsz := hK.size
      obtain ⟨tb, HTB⟩ : ∃ tb, Hid (tb = s.testBit j) := ⟨_, rfl⟩
      rw [← HTB.out] at HB hs2
      cases tb with
      | true =>
        obtain ⟨va, vcap, rfl⟩ := own_shape hO
        go_wp2_with (first | (go_at_call 73; refine (HB.out _).mono ?_; rintro e w1 ⟨rfl, rfl⟩) | (at_builtin; refine wpList_append_own _ rfl _ _ 27 rfl w.heap.size 3 i0 (.int .i64 0) 1 8 Tryz.underlying27 hi hz0 hz1 hz2 rfl (by decide) _ _ _ rfl (hO.alloc _) ⟨_, 0, none⟩ 1 1 [.int .i64 j] rfl rfl ?c1 ?c2 ?c3 ?c4 ?c5 ?_))
        case c1 => exact cell_one_new _ _ _
        case c2 => simp [Value.oneCell']
        case c3 => unfold maxLen; omega
        case c4 => omega
        case c5 => simp; omega
        intro ov' w2 hO3 hgr _
        have hK2 : Kept w w2 := (hK.alloc _).grew hgr (hO.alloc _) (Nat.le_refl _)
        have hO4 : w2.ownsRow w.heap.size 3 1 ov' (horsesL s (j + 1)).length (nats (horsesL s (j + 1))) := by
          have e : horsesL s (j + 1) = horsesL s j ++ [j] := by rw [hs2.out]; rfl
          rw [e, show nats (horsesL s j ++ [j]) = nats (horsesL s j) ++ [.int .i64 (j : Int)] by simp [nats], show (horsesL s j ++ [j]).length = (horsesL s j).length + 1 by simp]; exact hO3
        clear hO3 hgr hO
        go_wp2_with fail
        go_roundg (9 - (j + 1))
        case measure => omega
        case rel => exact ⟨j + 1, by omega, rfl, by go_num, hK2, hO4⟩
      | false =>
        have e : horsesL s (j + 1) = horsesL s j := by rw [hs2.out]; simp
        go_wp2_with (first | (go_at_call 73; refine (HB.out _).mono ?_; rintro e w1 ⟨rfl, rfl⟩))
        go_roundg (9 - (j + 1))
        case measure => omega
        case rel => exact ⟨j + 1, by omega, rfl, by go_num, hK, by rw [e]; exact hO⟩
    · obtain rfl : j = 9 := by omega
      go_wp2_with fail
      go_ret
      exact ⟨_, rfl, hO, hK⟩
/-- elements of a natural number -/
def us (D : Nat → Int) (k : Nat) : List Value := (List.range k).map fun i => .int .u64 (D i)
theorem us_succ (D : Nat → Int) (k : Nat) : us D (k + 1) = us D k ++ [.int .u64 (D k)] := by simp [us, List.range_succ]
theorem us_congr {D E : Nat → Int} {k : Nat} (h : ∀ i, i < k → D i = E i) : us D k = us E k := by
  unfold us
  apply List.map_congr_left
  intro i hi
  rw [h i (by simpa using hi)]
theorem us_get {D : Nat → Int} {k i : Nat} (h : i < k) : (us D k)[i]? = some (.int .u64 (D i)) := by simp [us, h]
theorem su_of_own {w : World} {base : Nat} {v : Value} {k : Nat} {D : Nat → Int} (h : w.ownsRow base 69 1 v k (us D k)) : SuAt w v k D := by
  have hc : CellsAt w v k (fun i => .int .u64 (D i)) := (CellsAt.of_own h).congr fun i hi => by rw [List.getD_eq_getElem?_getD, us_get hi]; rfl
  rcases h.2 with ⟨rfl, rfl⟩ | ⟨g, cap, cur, rfl, _, _, h4, h5, _⟩
  · exact ⟨none, 0, rfl, Nat.le_refl _, fun _ => rfl, Nat.zero_le _, hc⟩
  · exact ⟨_, cap, rfl, h4, (fun h => by cases h), h5, hc⟩
theorem Tryz.infoU8 : (Tryz.prog.info? 69).map (fun i => (i.zero, i.size, i.bytes)) = some (some (.int .u64 0), 1, 8) := by kernel_rfl
/-- elements so far, and what is left of x -/
structure SmallN (x : Int) (D : Nat → Int) (k : Nat) (y : Int) : Prop where
  dig : DigN D k
  val : valN D k + y * 1000000 ^ k = x
  top : 0 < k → D (k - 1) ≠ 0 ∨ 0 < y
theorem SmallN.step {x y : Int} {D : Nat → Int} {k : Nat} (h : SmallN x D k y) (hy : 0 < y) : SmallN x (fun i => if i = k then y % 1000000 else D i) (k + 1) (y / 1000000) where
  dig := fun i hi => by
    by_cases e : i = k
    · simp only [e, if_true]; omega
    · simp only [e, if_false]; exact h.dig i (by omega)
  val := by
    have g1 : valN (fun i => if i = k then y % 1000000 else D i) k = valN D k := valN_congr (fun j hj => by simp only [show ¬ j = k by omega, if_false])
    simp only [valN, g1, if_true, pw_succN]
    have h1 := Int.emod_add_mul_ediv y 1000000
    have h2 := h.val
    generalize y % 1000000 = r at *
    generalize y / 1000000 = q at *
    have : y = r + 1000000 * q := by omega
    subst this
    grind
  top := fun _ => by
    simp only [Nat.add_sub_cancel, if_true]
    omega
set_option maxRecDepth 100000 in
set_option maxHeartbeats 4000000 in
theorem small_any (w : World) (x : Nat) (hx : x < 18446744073709551616) : Calls Tryz.prog 82 #[.int .u64 x] w (NatPost w x) := by
  obtain ⟨i0, hi, hz0, hz1, hz2⟩ := info_parts Tryz.infoU8
  go_enter Tryz.func82, Tryz.ntmps82
  go_wp2_with fail
  go_loopg [0, 3] (x + 1) (fun g s0 s3 wr => ∃ (y k : Nat) (D : Nat → Int), g = y + 1 ∧ s0 = .int .u64 y ∧ y < 18446744073709551616 ∧ k ≤ 20 ∧ Hid (y * 1000000 ^ k ≤ x) ∧ Kept w wr ∧ wr.ownsRow w.heap.size 69 1 s3 k (us D k) ∧ Hid (SmallN x D k y))
  case atStart => exact ⟨x, 0, fun _ => 0, rfl, rfl, hx, by omega, by show _ ≤ _; simp, Kept.refl w, World.ownsRow_nil _ _ _ _, ⟨fun i h => absurd h (by omega), by simp [valN], fun h => absurd h (by omega)⟩⟩
  case round =>
    obtain ⟨y, k, D, rfl, rfl, hy, hk, hle, hK, hO, hS⟩ := hrel
    have hsz := hK.size
    by_cases h0 : 0 < y
    · have n0 : (0 : Int) < (y : Int) := by omega
      have hS2 : Hid (SmallN x (fun i => if i = k then (y : Int) % 1000000 else D i) (k + 1) ((y : Int) / 1000000)) := hS.out.step (by omega)
      have hk2 : k + 1 ≤ 20 := by
        rcases Nat.lt_or_ge k 4 with h | h
        · omega
        · exfalso
          have h1 : 1000000 ^ 4 ≤ 1000000 ^ k := Nat.pow_le_pow_right (by omega) h
          have h2 : 1 * 1000000 ^ k ≤ y * 1000000 ^ k := Nat.mul_le_mul_right _ h0
          have h3 := hle.out
          have h4 : (1000000 : Nat) ^ 4 = 1000000000000000000000000 := by decide
          omega
      have hle2 : Hid (y / 1000000 * 1000000 ^ (k + 1) ≤ x) := by
        show _ ≤ _
        rw [Nat.pow_succ]
        have h1 : y / 1000000 * 1000000 ≤ y := Nat.div_mul_le_self _ _
        have h2 : y / 1000000 * 1000000 * 1000000 ^ k ≤ y * 1000000 ^ k := Nat.mul_le_mul_right _ h1
        have h3 := hle.out
        have h4 : y / 1000000 * (1000000 ^ k * 1000000) = y / 1000000 * 1000000 * 1000000 ^ k := by grind
        omega
      have eq : (y : Int) / 1000000 = ((y / 1000000 : Nat) : Int) := by omega
      have hlt : y / 1000000 < y := by omega
      obtain ⟨q, HQ⟩ : ∃ q : Nat, Hid (q = y / 1000000) := ⟨_, rfl⟩
      rw [eq] at hS2
      rw [← HQ.out] at hS2 hle2 eq hlt
      have t1 : Int.tdiv (y : Int) 1000000 = (q : Int) := by rw [Int.tdiv_eq_ediv_of_nonneg (by omega)]; exact eq
      have t2 : Int.tmod (y : Int) 1000000 = (y : Int) % 1000000 := Int.tmod_eq_emod_of_nonneg (by omega)
      have w1 : IntKind.u64.wrap (q : Int) = q := IntWalk.u64_in _ (by omega)
      obtain ⟨va, vcap, rfl⟩ := own_shape hO
      clear hS hle HQ
      go_wp2_with (first | (at_builtin; refine wpList_append_own _ rfl _ _ 130 rfl w.heap.size 69 i0 (.int .u64 0) 1 8 Tryz.underlying130 hi hz0 hz1 hz2 rfl (by decide) _ _ _ rfl (hO.alloc _) ⟨_, 0, none⟩ 1 1 [.int .u64 ((y : Int) % 1000000)] rfl rfl ?c1 ?c2 ?c3 ?c4 ?c5 ?_))
      case c1 => exact cell_one_new _ _ _
      case c2 => simp [Value.oneCell']
      case c3 => unfold maxLen; omega
      case c4 => omega
      case c5 => simp; omega
      intro ov' w2 hO3 hgr _
      have hK2 : Kept w w2 := (hK.alloc _).grew hgr (hO.alloc _) (Nat.le_refl _)
      have hO4 : w2.ownsRow w.heap.size 69 1 ov' (k + 1) (us (fun i => if i = k then (y : Int) % 1000000 else D i) (k + 1)) := by
        rw [us_succ, us_congr (E := D) (fun i hi => by simp only [show ¬ i = k by omega, if_false])]
        simpa using hO3
      clear hO3 hgr hO
      go_wp2_with fail
      go_roundg (q + 1)
      case measure => omega
      case rel => exact ⟨q, k + 1, _, rfl, by first | rfl | go_num, by omega, hk2, hle2.out, hK2, hO4, hS2.out⟩
    · obtain rfl : y = 0 := by omega
      go_wp2_with fail
      go_ret
      refine ⟨_, rfl, ⟨k, D, su_of_own hO, ⟨hS.out.dig, fun h => (hS.out.top h).elim id (fun h => absurd h (by omega))⟩, ?_, by omega⟩, hK⟩
      have := hS.out.val
      simp at this
      omega
end Go.Proofs.YtlnlddnjalfamaaGreatDoor
