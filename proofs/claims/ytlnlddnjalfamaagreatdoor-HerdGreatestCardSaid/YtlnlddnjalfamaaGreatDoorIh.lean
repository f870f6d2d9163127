/-
  The library's Grow of nothing; Concat of a slice with itself.
  Package herd: worth.
-/
import Derived.Test.YtlnlddnjalfamaaGreatDoorIe
import Derived.Lib.AppendZerosOnto
import Derived.Lib.SliceRun
import Derived.Test.YtlnlddnjalfamaaGreatDoorIg
import Derived.Test.YtlnlddnjalfamaaGreatDoorHm
import Derived.Test.YtlnlddnjalfamaaGreatDoorHn
namespace Go.Proofs.YtlnlddnjalfamaaGreatDoor
open Go.RowKit Go.Deep

def GrowNilPost (w : World) (e : Ending) (w' : World) : Prop := ∃ g c, e = .returned (.slice (some ⟨g, 0, none⟩) 0 c) ∧ Kept w w' ∧ w'.ownsRow w.heap.size 69 1 (.slice (some ⟨g, 0, none⟩) 0 c) 0 []
set_option maxRecDepth 100000 in
set_option maxHeartbeats 4000000 in
theorem Grow_nil (w : World) (n : Nat) (h0 : 0 < n) (hn : n ≤ 100) : Calls Tryz.prog 109 #[.slice none 0 0, .int .i64 n] w (GrowNilPost w) := by
  obtain ⟨i0, hi0, hz0, hz1, hz2⟩ := info_parts Tryz.infoU8
  have hrz : ∀ ty, (Builtin.append_ #[99, 3] ty #[.slice none 0 0, .int .i64 (n : Int)]).run Tryz.prog w = .ok (.slice (some ⟨w.heap.size, 0, none⟩) n (grownCap w n 0 69)) (w.drew.alloc (.cells (#[] ++ Builtin.zeroCells (Value.int .u64 0).cells n ++ Builtin.zeroCells (Value.int .u64 0).cells (grownCap w n 0 69 - n)) 69)) := fun ty => by
    have h := Lib.run_append_grow_zeros w 99 3 ty 69 i0 (.int .u64 0) .i64 .i64 Tryz.underlying99 Tryz.underlying3 hi0 hz0 none 0 0 [] (run_firstCells_none w.drew i0.size 0 0 0) n h0 (by omega) (by omega) (by omega) (by rw [hz2]; omega) (growslice_fits (by omega) (by rw [hz2]; omega))
    rw [Nat.zero_add] at h
    exact h
  have s1 : ¬ (n : Int) < 0 := by omega
  have s2 : (n : Int) > 0 := by omega
  have hc1 := grownCap_ge w n 0 69
  have hc2 := grownCap_le_maxLen w n 0 69 (by unfold maxLen; omega)
  obtain ⟨G, hG⟩ : ∃ G, G = grownCap w n 0 69 := ⟨_, rfl⟩
  rw [← hG] at hrz hc1 hc2
  clear hG
  have hc3 : G ≤ 9223372036854775807 := by unfold maxLen at hc2; omega
  have hKw : Kept w (w.alloc (.cells (Builtin.zeroCells #[.int .u64 0] n ++ Builtin.zeroCells #[.int .u64 0] (G - n)) 69)).drew := ((Kept.refl w).alloc _).drew
  have hOw0 : (w.alloc (.cells (Builtin.zeroCells #[.int .u64 0] n ++ Builtin.zeroCells #[.int .u64 0] (G - n)) 69)).ownsRow w.heap.size 69 1 (.slice (some ⟨w.heap.size, 0, none⟩) 0 G) 0 [] :=
    World.ownsRow_made w _ G (Nat.le_refl _) hc2 (by simp [Builtin.zeroCells]; omega)
  have hOw := own_keptY hOw0 (Kept.drew (Kept.refl _)) (fun _ _ _ _ _ h => h)
  clear hc2
  go_enter Tryz.func109, Tryz.ntmps109
  go_wp2_with (at_builtin; refine Lib.wpList_append_run _ rfl _ _ _ _ rfl _ _ rfl rfl _ _ (hrz _) ?_)
  all_goals
    go_ret
    exact ⟨_, _, rfl, hKw, hOw⟩
theorem us_append (D E : Nat → Int) (a b : Nat) : us D a ++ us E b = us (fun t => if t < a then D t else E (t - a)) (a + b) := by
  induction b with
  | zero => simp [us]; intro t ht h; omega
  | succ b ih =>
    rw [us_succ, ← List.append_assoc, ih, show a + (b + 1) = a + b + 1 by omega, us_succ, if_neg (by omega), show a + b - a = b by omega]
/-- the factors twice -/
def twiceF (F : Nat → Nat) (n : Nat) : Nat → Nat := fun t => F (t % n)
theorem us_step (F : Nat → Nat) (n i : Nat) : us (fun t => ((twiceF F n t : Nat) : Int)) (i * n) ++ us (fun t => ((F t : Nat) : Int)) n = us (fun t => ((twiceF F n t : Nat) : Int)) (i * n + n) := by
  rw [us_append]
  exact us_congr fun t ht => by
    (try dsimp only)
    by_cases h : t < i * n
    · rw [if_pos h]
    · rw [if_neg h]
      unfold twiceF
      have e : t % n = t - i * n := by
        have h2 : t = n * i + (t - i * n) := by rw [Nat.mul_comm n i]; omega
        rw [h2, Nat.mul_add_mod, Nat.mod_eq_of_lt (by rw [Nat.mul_comm n i] at h2; omega)]
        rw [Nat.mul_comm n i]
        omega
      rw [e]
theorem us_cells {w : World} {gf n : Nat} {F : Nat → Nat} (h : ∀ t, t < n → w.cell? ⟨gf, t, none⟩ = some (.int .u64 ((F t : Nat) : Int))) : ∀ (j : Nat) (u : Value), (us (fun t => ((F t : Nat) : Int)) n)[j]? = some u → w.cell? ((⟨gf, 0, none⟩ : Addr).add j) = some u := fun j u hj => by
  have hlt : j < n := by
    rcases Nat.lt_or_ge j n with h1 | h1
    · exact h1
    · rw [List.getElem?_eq_none (by simp [us]; omega)] at hj; cases hj
  rw [us_get hlt] at hj
  cases hj
  rw [add_at, Nat.zero_add]
  exact h j hlt
set_option maxRecDepth 100000 in
set_option maxHeartbeats 4000000 in
theorem Concat_two (w : World) (bl ol cl : Nat) (gf n : Nat) (F : Nat → Nat) (hn : 0 < n) (hn9 : n ≤ 9)
    (hl : ∀ i, i < 2 → w.cell? ⟨bl, ol + i, none⟩ = some (.slice (some ⟨gf, 0, none⟩) n n))
    (hF : ∀ t, t < n → w.cell? ⟨gf, t, none⟩ = some (.int .u64 ((F t : Nat) : Int))) :
    Calls Tryz.prog 87 #[.slice (some ⟨bl, ol, none⟩) 2 cl] w fun e w' => ∃ v, e = .returned v ∧ Kept w w' ∧ CellsAt w' v (n + n) (fun t => .int .u64 ((twiceF F n t : Nat) : Int)) := by
  obtain ⟨i0, hi0, hz0, hz1, hz2⟩ := info_parts Tryz.infoU8
  have GR := Lib.hid (fun W => Grow_nil W (n + n) (by omega) (by omega))
  have HL := Lib.hid hl
  have HF := Lib.hid hF
  clear hl hF
  go_enter Tryz.func87, Tryz.ntmps87
  go_wp2_with fail
  go_loopg [3, 11] 2 (fun mm s3 s11 wr => ∃ i : Nat, i ≤ 2 ∧ mm = 2 - i ∧ s11 = .int .i64 i ∧ s3 = .int .i64 ((i * n : Nat) : Int) ∧ w = wr)
  case atStart => exact ⟨0, by omega, rfl, by first | rfl | go_num, by simp, rfl⟩
  case round =>
    obtain ⟨i, hi, rfl, rfl, rfl, rfl⟩ := hrel
    by_cases hlt : i < 2
    · have s1 : (i : Int) < 2 := by omega
      have s2 : (0 : Int) ≤ (i : Int) := by omega
      have t1 := HL.out i hlt
      obtain ⟨m, hm⟩ : ∃ m, m = i * n := ⟨_, rfl⟩
      have hm9 : m ≤ 9 := by
        rw [hm]
        have : i * n ≤ 1 * 9 := Nat.mul_le_mul (by omega) hn9
        omega
      have hnx : Hid ((((i + 1) * n : Nat) : Int) = (m : Int) + (n : Int)) := by show _ = _; rw [hm, Nat.add_mul]; simp
      rw [← hm]
      clear hm
      have s4 : ¬ (m : Int) + (n : Int) < 0 := by omega
      go_wp2_with fail
      go_roundg (2 - (i + 1))
      case measure => omega
      case rel => exact ⟨i + 1, by omega, rfl, by first | rfl | go_num, by rw [hnx.out], rfl⟩
    · obtain rfl : i = 2 := by omega
      have e2 : ((2 * n : Nat) : Int) = ((n + n : Nat) : Int) := by omega
      rw [e2]
      go_wp2_with (first | (go_at_call 109; refine (GR.out _).mono ?_; rintro e w1 ⟨g1, c1, rfl, hk1, hO1⟩))
      go_loopg [6, 27] 2 (fun mm s6 s27 wr => ∃ i : Nat, i ≤ 2 ∧ mm = 2 - i ∧ s27 = .int .i64 i ∧ Kept w wr ∧ w.heap.size ≤ wr.heap.size ∧ wr.ownsRow w.heap.size 69 1 s6 (i * n) (us (fun t => ((twiceF F n t : Nat) : Int)) (i * n)))
      case atStart => exact ⟨0, by omega, rfl, by first | rfl | go_num, hk1, hk1.size, by rw [Nat.zero_mul]; exact hO1⟩
      case round =>
        clear hk1 hO1
        obtain ⟨i, hi, rfl, rfl, hK, hsz, hO⟩ := hrel
        obtain ⟨sa, sc, rfl⟩ := own_shape hO
        by_cases hlt : i < 2
        · have s1 : (i : Int) < 2 := by omega
          have s2 : (0 : Int) ≤ (i : Int) := by omega
          have t1 := hK.cellSome (HL.out i hlt)
          have hm9 : i * n ≤ 9 := by
            have : i * n ≤ 1 * 9 := Nat.mul_le_mul (by omega) hn9
            omega
          have HC := us_cells (fun t ht => hK.cellSome (HF.out t ht))
          have HST := Lib.hid (us_step F n i)
          have hmm : Hid ((i + 1) * n = i * n + n) := Nat.succ_mul i n
          go_wp2_with (first | (at_builtin; refine wpList_append_own _ rfl _ _ 99 rfl w.heap.size 69 i0 (.int .u64 0) 1 8 Tryz.underlying99 hi0 hz0 hz1 hz2 rfl (by decide) _ _ _ rfl hO ⟨gf, 0, none⟩ n n (us (fun t => ((F t : Nat) : Int)) n) rfl ?c1 HC ?c2 ?c3 ?c4 ?c5 ?_))
          case c1 => simp [us]
          case c2 => intro u hu; simp [us] at hu; obtain ⟨t, _, rfl⟩ := hu; simp [Value.oneCell']
          case c3 => unfold maxLen; omega
          case c4 => omega
          case c5 => exact hsz
          intro v' w2 hO3 hgr _
          have hK2 : Kept w w2 := hK.grown hgr (fun k hk => (hO.lt k hk).1)
          have hsz2 : w.heap.size ≤ w2.heap.size := Nat.le_trans hsz hgr.size
          have hO4 : w2.ownsRow w.heap.size 69 1 v' ((i + 1) * n) (us (fun t => ((twiceF F n t : Nat) : Int)) ((i + 1) * n)) := by rw [hmm.out, ← HST.out]; exact hO3
          clear hO hO3 hgr hK HC hsz
          go_wp2_with fail
          go_roundg (2 - (i + 1))
          case measure => omega
          case rel => exact ⟨i + 1, by omega, rfl, by first | rfl | go_num, hK2, hsz2, hO4⟩
        · obtain rfl : i = 2 := by omega
          have HOO : Hid (CellsAt wr (.slice sa (2 * n) sc) (n + n) (fun t => .int .u64 ((twiceF F n t : Nat) : Int))) := by
            show CellsAt _ _ _ _
            have h := CellsAt.of_own hO
            have e : 2 * n = n + n := by omega
            rw [e] at h ⊢
            exact h.congr fun t ht => by rw [List.getD_eq_getElem?_getD, us_get ht]; rfl
          clear hO
          have s1 : ¬ ((2 : Nat) : Int) < 2 := by omega
          go_wp2_with fail
          go_ret
          exact ⟨_, rfl, hK, HOO.out⟩
end Go.Proofs.YtlnlddnjalfamaaGreatDoor
namespace Go.Proofs.YtlnlddnjalfamaaGreatDoor
open Go.RowKit Go.Deep

/-- what the first j pairs are worth -/
def worZ (Z : Nat → Int) (l : List (Nat × Nat)) : Nat → Int
  | 0 => 0
  | j + 1 => worZ Z l j + Z (l.getD j (0, 0)).1 * Z (l.getD j (0, 0)).2
set_option maxRecDepth 100000 in
set_option maxHeartbeats 8000000 in
theorem worth_any (w : World) (g N n cap gf k : Nat) (hv : Value) (Z : Nat → Int) (H F : Nat → Nat) (x : Nat) (hk0 : 0 < k) (hk9 : k ≤ 9) (hn : n ≤ 9) (hP : PartsAt w g N n Z) (hS : SetsAt w hv n H) (hH : ∀ t, t < n → H t < 65536)
    (hF : CellsAt w (.slice (some ⟨gf, 0, none⟩) k k) k (fun t => .int .u64 ((F t : Nat) : Int)))
    (hL : ∀ j, j < (pairsH H n).length → ((pairsH H n).getD j (0, 0)).1 < n ∧ ((pairsH H n).getD j (0, 0)).2 < n)
    (hB1 : ∀ p q, p < n → q < n → Z p * Z q < bigU) (hB2 : ∀ j, j ≤ (pairsH H n).length → worZ Z (pairsH H n) j < bigU) (hx : worZ Z (pairsH H n) (pairsH H n).length = (x : Int))
    (hF1 : ∀ i, i < k + k → 0 < twiceF F k i ∧ twiceF F k i ≤ 1000000000000)
    (hq : ∀ j, j ≤ k + k → (((qTB x (twiceF F k) j).2 : Nat) : Int) < bigU) (h1 : (qTB x (twiceF F k) (k + k)).1 < 100) (h2 : (qTB x (twiceF F k) (k + k)).2 < 100) :
    Calls Tryz.prog 54 #[.agg #[(.slice (some ⟨g, 0, none⟩) n cap), (.slice (some ⟨gf, 0, none⟩) k k)], hv] w fun e w' => e = .returned (.string (fracS (qTB x (twiceF F k) (k + k)).1 (qTB x (twiceF F k) (k + k)).2)) ∧ Kept w w' := by
  obtain ⟨L, HL⟩ : ∃ L, Hid (L = pairsH H n) := ⟨_, rfl⟩
  have PA := Lib.hid (fun W (hk : Kept w W) => pairs_any W hv n H (CellsAt.kept hS hk) hH (by omega))
  have d0 : (w.alloc (.cells #[(.slice (some ⟨g, 0, none⟩) n cap), (.slice (some ⟨gf, 0, none⟩) k k)] 101)).cell? ⟨w.heap.size, 0, none⟩ = some (.slice (some ⟨g, 0, none⟩) n cap) := by unfold World.cell?; dsimp only; rw [blk_alloc_new]; rfl
  have d1 : (w.alloc (.cells #[(.slice (some ⟨g, 0, none⟩) n cap), (.slice (some ⟨gf, 0, none⟩) k k)] 101)).cell? ⟨w.heap.size, 1, none⟩ = some (.slice (some ⟨gf, 0, none⟩) k k) := by unfold World.cell?; dsimp only; rw [blk_alloc_new]; rfl
  have hkW : Kept w (w.alloc (.cells #[(.slice (some ⟨g, 0, none⟩) n cap), (.slice (some ⟨gf, 0, none⟩) k k)] 101)) := (Kept.refl w).alloc _
  have hLb : L.length ≤ 81 := by have := pairsH_len H n; rw [HL.out]; omega
  rw [← HL.out] at hL hB2 hx PA
  have HLL := Lib.hid hL
  have HB1A := Lib.hid hB1
  have HB2A := Lib.hid hB2
  have HX := Lib.hid hx
  have HQ := Lib.hid (fun (W : World) vt vf (a : NatAt W vt x) b => quotient_digit W vt vf x (k + k) (twiceF F k) a b hF1 (by omega) hq h1 h2)
  generalize fracS (qTB x (twiceF F k) (k + k)).1 (qTB x (twiceF F k) (k + k)).2 = RS at *
  clear hL hB1 hB2 hx hF1 hq h1 h2 hS hH
  go_enter Tryz.func54, Tryz.ntmps54
  go_wp2_with fail
  generalize w.alloc (.cells #[(.slice (some ⟨g, 0, none⟩) n cap), (.slice (some ⟨gf, 0, none⟩) k k)] 101) = W at *
  obtain ⟨z2, HZ2⟩ : ∃ z, Hid (z = w.heap.size) := ⟨_, rfl⟩
  rw [← HZ2.out] at d0 d1 ⊢
  clear HZ2
  go_wp2_with fail
  refine (PA.out _ hkW).mono ?_
  rintro e w2 ⟨vl, rfl, hO, hk2⟩
  obtain ⟨la, lc, rfl⟩ := own_shape hO
  obtain ⟨la', lb, lo, lcap, e, hla, hlc⟩ := PrsAt.of_own hO
  cases e
  have HLC := Lib.hid hlc
  have dd0 := hk2.cellSome d0
  have dd1 := hk2.cellSome d1
  have hPP := hP.kept (hkW.trans hk2)
  have hFF := CellsAt.kept hF (hkW.trans hk2)
  have hKw2 := hkW.trans hk2
  clear hO hlc d0 d1 hk2 hkW hP hF PA
  go_wp2_with fail
  go_loopg [5, 11] L.length (fun mm s5 s11 wr => ∃ j : Nat, j ≤ L.length ∧ mm = L.length - j ∧ s11 = .int .i64 j ∧ Kept w2 wr ∧ NatAt wr s5 (worZ Z L j))
  case atStart => exact ⟨0, Nat.zero_le _, rfl, by first | rfl | go_num, Kept.refl _, NatAt.nil _⟩
  case round =>
    obtain ⟨j, hj, rfl, rfl, hK, hN⟩ := hrel
    by_cases hlt : j < L.length
    · obtain rfl := hla (by omega)
      have s1 : (j : Int) < (L.length : Int) := by omega
      have s2 : (0 : Int) ≤ (j : Int) := by omega
      have hj1 := Lib.hid (show j + 1 ≤ L.length from hlt)
      have hj2 := Lib.hid (show L.length - (j + 1) < L.length - j by omega)
      obtain ⟨tp, tq⟩ := HLC.out j hlt
      have tp := hK.cellSome tp
      have tq := hK.cellSome tq
      obtain ⟨hp, hq⟩ := HLL.out j hlt
      have HW : Hid (worZ Z L (j + 1) = worZ Z L j + Z (L.getD j (0, 0)).1 * Z (L.getD j (0, 0)).2) := rfl
      have HB2 := HB2A.out (j + 1) (by omega)
      have HB1 := Lib.hid (HB1A.out _ _ hp hq)
      rw [HW.out] at HB2
      obtain ⟨p, HPd⟩ : ∃ p, Hid (p = (L.getD j (0, 0)).1) := ⟨_, rfl⟩
      obtain ⟨q, HQd⟩ : ∃ q, Hid (q = (L.getD j (0, 0)).2) := ⟨_, rfl⟩
      rw [← HPd.out] at tp hp HW HB1 HB2
      rw [← HQd.out] at tq hq HW HB1 HB2
      have HB2 := Lib.hid HB2
      clear HPd HQd
      have b0 : (p : Int) < (n : Int) := by omega
      have b1 : (q : Int) < (n : Int) := by omega
      have b2 : (0 : Int) ≤ (p : Int) := by omega
      have b3 : (0 : Int) ≤ (q : Int) := by omega
      obtain ⟨PP, hR, hnN, hZ⟩ := hPP.kept hK
      have t0 := hR.cell (show p < N by omega)
      have t1 := hR.cell (show q < N by omega)
      have zp := hZ p hp
      have zq := hZ q hq
      obtain ⟨a1, k1, c1, e1⟩ := natAt_slice zp
      obtain ⟨a2, k2, c2, e2⟩ := natAt_slice zq
      rw [e1] at t0 zp
      rw [e2] at t1 zq
      have d0 := hK.cellSome dd0
      obtain ⟨sa, sk, sc, rfl⟩ := natAt_slice hN
      have hkB : Kept wr (wr.alloc (.cells #[.int .i64 ((p : Nat) : Int), .int .i64 ((q : Nat) : Int)] 94)) := (Kept.refl wr).alloc _
      have x0 : (wr.alloc (.cells #[.int .i64 ((p : Nat) : Int), .int .i64 ((q : Nat) : Int)] 94)).cell? ⟨wr.heap.size, 0, none⟩ = some (.int .i64 ((p : Nat) : Int)) := by unfold World.cell?; dsimp only; rw [blk_alloc_new]; rfl
      have x1 : (wr.alloc (.cells #[.int .i64 ((p : Nat) : Int), .int .i64 ((q : Nat) : Int)] 94)).cell? ⟨wr.heap.size, 1, none⟩ = some (.int .i64 ((q : Nat) : Int)) := by unfold World.cell?; dsimp only; rw [blk_alloc_new]; rfl
      have t0' := hkB.cellSome t0
      have t1' := hkB.cellSome t1
      have d0' := hkB.cellSome d0
      have ZP := Lib.hid (zp.kept hkB)
      have ZQ := Lib.hid (zq.kept hkB)
      have ZS := Lib.hid (hN.kept hkB)
      clear e1 e2 zp zq hN hR hZ
      go_upto_region 5 with fail
      have hK7 := hK.trans hkB
      generalize (wr.alloc (.cells #[.int .i64 ((p : Nat) : Int), .int .i64 ((q : Nat) : Int)] 94)) = W7 at *
      obtain ⟨z7, HZ7⟩ : ∃ z, Hid (z = wr.heap.size) := ⟨_, rfl⟩
      rw [← HZ7.out] at x0 x1 ⊢
      clear HZ7 t0 t1 d0 hkB hK
      have t0 := t0'
      have t1 := t1'
      have d0 := d0'
      clear t0' t1' d0'
      refine wp_region_held_drew (S := (fun w' => w'.cell? ⟨z2, 0, none⟩ = some (.slice (some ⟨g, 0, none⟩) n cap) ∧ w'.cell? ⟨z7, 0, none⟩ = some (.int .i64 ((p : Nat) : Int)) ∧ w'.cell? ⟨z7, 1, none⟩ = some (.int .i64 ((q : Nat) : Int)) ∧ w'.cell? ⟨g, p, none⟩ = some (.slice a1 k1 c1) ∧ w'.cell? ⟨g, q, none⟩ = some (.slice a2 k2 c2))) (by kernel_rfl) ?_ (fun hHeld => ?_)
      · (try dsimp only)
        exact ⟨Kept.cellSome (w := W7) (by repeat (first | assumption | exact Kept.refl _ | apply Kept.drew | apply Kept.drewN | apply Kept.alloc | refine Kept.trans ?_ (by assumption))) d0, Kept.cellSome (w := W7) (by repeat (first | assumption | exact Kept.refl _ | apply Kept.drew | apply Kept.drewN | apply Kept.alloc | refine Kept.trans ?_ (by assumption))) x0, Kept.cellSome (w := W7) (by repeat (first | assumption | exact Kept.refl _ | apply Kept.drew | apply Kept.drewN | apply Kept.alloc | refine Kept.trans ?_ (by assumption))) x1, Kept.cellSome (w := W7) (by repeat (first | assumption | exact Kept.refl _ | apply Kept.drew | apply Kept.drewN | apply Kept.alloc | refine Kept.trans ?_ (by assumption))) t0, Kept.cellSome (w := W7) (by repeat (first | assumption | exact Kept.refl _ | apply Kept.drew | apply Kept.drewN | apply Kept.alloc | refine Kept.trans ?_ (by assumption))) t1⟩
      refine wpAnyH_take (i := 0) (oi := { dst := some 15, op := Go.Op.move (Go.Operand.tmp 5), type := 130, pos := "load.go:90", after := #[], guard := none }) (v := ?v1) rfl (by kernel_rfl) (by kernel_rfl) (by kernel_rfl) (fun _ _ _ h => h) (Or.inl ⟨by rfl, ?hy1⟩) (by assumption) ?rs1
      case hy1 =>
        intro w hSw
        (try dsimp only at hSw)
        go_simp
        try with_reducible rfl
      (try simp only [Act.put, List.setIfInBounds_toArray, List.set_cons_zero, List.set_cons_succ])
      refine wpAnyH_take (i := 1) (oi := { dst := some 16, op := Go.Op.fieldAddr 101 (Go.Operand.tmp 2) 0, type := 0, pos := "load.go:90", after := #[], guard := none }) (v := ?v2) rfl (by kernel_rfl) (by kernel_rfl) (by kernel_rfl) (fun _ _ _ h => h) (Or.inl ⟨by rfl, ?hy2⟩) (by assumption) ?rs2
      case hy2 =>
        intro w hSw
        (try dsimp only at hSw)
        go_simp
        try with_reducible rfl
      (try simp only [Act.put, List.setIfInBounds_toArray, List.set_cons_zero, List.set_cons_succ])
      refine wpAnyH_take (i := 2) (oi := { dst := some 17, op := Go.Op.load 98 (Go.Operand.tmp 16), type := 98, pos := "load.go:90", after := #[{ on := 1, ground := Go.Ground.data }], guard := none }) (v := ?v3) rfl (by kernel_rfl) (by kernel_rfl) (by kernel_rfl) (fun _ _ _ h => h) (Or.inl ⟨by rfl, ?hy3⟩) (by assumption) ?rs3
      case hy3 =>
        intro w hSw
        (try dsimp only at hSw)
        go_simp
        try with_reducible rfl
      (try simp only [Act.put, List.setIfInBounds_toArray, List.set_cons_zero, List.set_cons_succ])
      refine wpAnyH_take (i := 3) (oi := { dst := some 18, op := Go.Op.fieldAddr 94 (Go.Operand.tmp 7) 0, type := 0, pos := "load.go:90", after := #[], guard := none }) (v := ?v4) rfl (by kernel_rfl) (by kernel_rfl) (by kernel_rfl) (fun _ _ _ h => h) (Or.inl ⟨by rfl, ?hy4⟩) (by assumption) ?rs4
      case hy4 =>
        intro w hSw
        (try dsimp only at hSw)
        go_simp
        try with_reducible rfl
      (try simp only [Act.put, List.setIfInBounds_toArray, List.set_cons_zero, List.set_cons_succ])
      refine wpAnyH_take (i := 4) (oi := { dst := some 19, op := Go.Op.load 3 (Go.Operand.tmp 18), type := 3, pos := "load.go:90", after := #[{ on := 3, ground := Go.Ground.data }], guard := none }) (v := ?v5) rfl (by kernel_rfl) (by kernel_rfl) (by kernel_rfl) (fun _ _ _ h => h) (Or.inl ⟨by rfl, ?hy5⟩) (by assumption) ?rs5
      case hy5 =>
        intro w hSw
        (try dsimp only at hSw)
        go_simp
        try with_reducible rfl
      (try simp only [Act.put, List.setIfInBounds_toArray, List.set_cons_zero, List.set_cons_succ])
      refine wpAnyH_take (i := 5) (oi := { dst := some 20, op := Go.Op.indexAddr 98 (Go.Operand.tmp 17) (Go.Operand.tmp 19), type := 0, pos := "load.go:90", after := #[{ on := 2, ground := Go.Ground.data }, { on := 4, ground := Go.Ground.data }], guard := none }) (v := ?v6) rfl (by kernel_rfl) (by kernel_rfl) (by kernel_rfl) (fun _ _ _ h => h) (Or.inl ⟨by rfl, ?hy6⟩) (by assumption) ?rs6
      case hy6 =>
        intro w hSw
        (try dsimp only at hSw)
        go_simp
        try with_reducible rfl
      (try simp only [Act.put, List.setIfInBounds_toArray, List.set_cons_zero, List.set_cons_succ])
      refine wpAnyH_take (i := 6) (oi := { dst := some 21, op := Go.Op.load 130 (Go.Operand.tmp 20), type := 130, pos := "load.go:90", after := #[{ on := 5, ground := Go.Ground.data }], guard := none }) (v := ?v7) rfl (by kernel_rfl) (by kernel_rfl) (by kernel_rfl) (fun _ _ _ h => h) (Or.inl ⟨by rfl, ?hy7⟩) (by assumption) ?rs7
      case hy7 =>
        intro w hSw
        (try dsimp only at hSw)
        go_simp
        try with_reducible rfl
      (try simp only [Act.put, List.setIfInBounds_toArray, List.set_cons_zero, List.set_cons_succ])
      refine wpAnyH_take (i := 7) (oi := { dst := some 22, op := Go.Op.fieldAddr 101 (Go.Operand.tmp 2) 0, type := 0, pos := "load.go:90", after := #[], guard := none }) (v := ?v8) rfl (by kernel_rfl) (by kernel_rfl) (by kernel_rfl) (fun _ _ _ h => h) (Or.inl ⟨by rfl, ?hy8⟩) (by assumption) ?rs8
      case hy8 =>
        intro w hSw
        (try dsimp only at hSw)
        go_simp
        try with_reducible rfl
      (try simp only [Act.put, List.setIfInBounds_toArray, List.set_cons_zero, List.set_cons_succ])
      refine wpAnyH_take (i := 8) (oi := { dst := some 23, op := Go.Op.load 98 (Go.Operand.tmp 22), type := 98, pos := "load.go:90", after := #[{ on := 7, ground := Go.Ground.data }], guard := none }) (v := ?v9) rfl (by kernel_rfl) (by kernel_rfl) (by kernel_rfl) (fun _ _ _ h => h) (Or.inl ⟨by rfl, ?hy9⟩) (by assumption) ?rs9
      case hy9 =>
        intro w hSw
        (try dsimp only at hSw)
        go_simp
        try with_reducible rfl
      (try simp only [Act.put, List.setIfInBounds_toArray, List.set_cons_zero, List.set_cons_succ])
      refine wpAnyH_take (i := 9) (oi := { dst := some 24, op := Go.Op.fieldAddr 94 (Go.Operand.tmp 7) 1, type := 0, pos := "load.go:90", after := #[], guard := none }) (v := ?v10) rfl (by kernel_rfl) (by kernel_rfl) (by kernel_rfl) (fun _ _ _ h => h) (Or.inl ⟨by rfl, ?hy10⟩) (by assumption) ?rs10
      case hy10 =>
        intro w hSw
        (try dsimp only at hSw)
        go_simp
        try with_reducible rfl
      (try simp only [Act.put, List.setIfInBounds_toArray, List.set_cons_zero, List.set_cons_succ])
      refine wpAnyH_take (i := 10) (oi := { dst := some 25, op := Go.Op.load 3 (Go.Operand.tmp 24), type := 3, pos := "load.go:90", after := #[{ on := 9, ground := Go.Ground.data }], guard := none }) (v := ?v11) rfl (by kernel_rfl) (by kernel_rfl) (by kernel_rfl) (fun _ _ _ h => h) (Or.inl ⟨by rfl, ?hy11⟩) (by assumption) ?rs11
      case hy11 =>
        intro w hSw
        (try dsimp only at hSw)
        go_simp
        try with_reducible rfl
      (try simp only [Act.put, List.setIfInBounds_toArray, List.set_cons_zero, List.set_cons_succ])
      refine wpAnyH_take (i := 11) (oi := { dst := some 26, op := Go.Op.indexAddr 98 (Go.Operand.tmp 23) (Go.Operand.tmp 25), type := 0, pos := "load.go:90", after := #[{ on := 8, ground := Go.Ground.data }, { on := 10, ground := Go.Ground.data }], guard := none }) (v := ?v12) rfl (by kernel_rfl) (by kernel_rfl) (by kernel_rfl) (fun _ _ _ h => h) (Or.inl ⟨by rfl, ?hy12⟩) (by assumption) ?rs12
      case hy12 =>
        intro w hSw
        (try dsimp only at hSw)
        go_simp
        try with_reducible rfl
      (try simp only [Act.put, List.setIfInBounds_toArray, List.set_cons_zero, List.set_cons_succ])
      refine wpAnyH_take (i := 12) (oi := { dst := some 27, op := Go.Op.load 130 (Go.Operand.tmp 26), type := 130, pos := "load.go:90", after := #[{ on := 11, ground := Go.Ground.data }], guard := none }) (v := ?v13) rfl (by kernel_rfl) (by kernel_rfl) (by kernel_rfl) (fun _ _ _ h => h) (Or.inl ⟨by rfl, ?hy13⟩) (by assumption) ?rs13
      case hy13 =>
        intro w hSw
        (try dsimp only at hSw)
        go_simp
        try with_reducible rfl
      (try simp only [Act.put, List.setIfInBounds_toArray, List.set_cons_zero, List.set_cons_succ])
      refine wpAnyH_ready (rs := [13]) (by kernel_rfl) (by simp) ?_
      refine AllReadyH.cons (o := { dst := some 28, op := Go.Op.call { callee := Go.Callee.value (Go.Operand.func 81), args := #[Go.Operand.tmp 21, Go.Operand.tmp 27], argTypes := #[130, 130] }, type := 130, pos := "load.go:90", after := #[{ on := 6, ground := Go.Ground.data }, { on := 12, ground := Go.Ground.data }], guard := none }) rfl (fun K2 hK2 => ?_) AllReadyH.nil
      go_simp
      (go_at_call 81; refine (times_any _ _ _ _ _ (ZP.out.kept (by repeat (first | assumption | exact Kept.refl _ | apply Kept.drew | apply Kept.drewN | apply Kept.alloc | refine Kept.trans ?_ (by assumption)))) (ZQ.out.kept (by repeat (first | assumption | exact Kept.refl _ | apply Kept.drew | apply Kept.drewN | apply Kept.alloc | refine Kept.trans ?_ (by assumption)))) HB1.out).mono ?_; rintro e u1 ⟨v1, rfl, hN1, hu1⟩; obtain ⟨pa, pk, pc, rfl⟩ := natAt_slice hN1)
      (try go_wp2_with fail)
      refine hK2.out _ _ ?_ (fun hHeld => ?_)
      · (try dsimp only)
        exact ⟨Kept.cellSome (w := W7) (by repeat (first | assumption | exact Kept.refl _ | apply Kept.drew | apply Kept.drewN | apply Kept.alloc | refine Kept.trans ?_ (by assumption))) d0, Kept.cellSome (w := W7) (by repeat (first | assumption | exact Kept.refl _ | apply Kept.drew | apply Kept.drewN | apply Kept.alloc | refine Kept.trans ?_ (by assumption))) x0, Kept.cellSome (w := W7) (by repeat (first | assumption | exact Kept.refl _ | apply Kept.drew | apply Kept.drewN | apply Kept.alloc | refine Kept.trans ?_ (by assumption))) x1, Kept.cellSome (w := W7) (by repeat (first | assumption | exact Kept.refl _ | apply Kept.drew | apply Kept.drewN | apply Kept.alloc | refine Kept.trans ?_ (by assumption))) t0, Kept.cellSome (w := W7) (by repeat (first | assumption | exact Kept.refl _ | apply Kept.drew | apply Kept.drewN | apply Kept.alloc | refine Kept.trans ?_ (by assumption))) t1⟩
      clear hK2 K2
      (try simp only [Act.put, List.setIfInBounds_toArray, List.set_cons_zero, List.set_cons_succ])
      refine wpAnyH_ready (rs := [14]) (by kernel_rfl) (by simp) ?_
      refine AllReadyH.cons (o := { dst := some 29, op := Go.Op.call { callee := Go.Callee.value (Go.Operand.func 85), args := #[Go.Operand.tmp 15, Go.Operand.tmp 28], argTypes := #[130, 130] }, type := 130, pos := "load.go:90", after := #[{ on := 0, ground := Go.Ground.data }, { on := 13, ground := Go.Ground.data }, { on := 13, ground := Go.Ground.chain }], guard := none }) rfl (fun K2 hK2 => ?_) AllReadyH.nil
      go_simp
      (go_at_call 85; refine (plus_any _ _ _ _ _ (ZS.out.kept (by repeat (first | assumption | exact Kept.refl _ | apply Kept.drew | apply Kept.drewN | apply Kept.alloc | refine Kept.trans ?_ (by assumption)))) (hN1.kept (by repeat (first | assumption | exact Kept.refl _ | apply Kept.drew | apply Kept.drewN | apply Kept.alloc | refine Kept.trans ?_ (by assumption)))) HB2.out).mono ?_; rintro e u2 ⟨v2, rfl, hN2, hu2⟩; obtain ⟨qa, qk, qc, rfl⟩ := natAt_slice hN2)
      (try go_wp2_with fail)
      refine hK2.out _ _ ?_ (fun hHeld => ?_)
      · (try dsimp only)
        exact ⟨Kept.cellSome (w := W7) (by repeat (first | assumption | exact Kept.refl _ | apply Kept.drew | apply Kept.drewN | apply Kept.alloc | refine Kept.trans ?_ (by assumption))) d0, Kept.cellSome (w := W7) (by repeat (first | assumption | exact Kept.refl _ | apply Kept.drew | apply Kept.drewN | apply Kept.alloc | refine Kept.trans ?_ (by assumption))) x0, Kept.cellSome (w := W7) (by repeat (first | assumption | exact Kept.refl _ | apply Kept.drew | apply Kept.drewN | apply Kept.alloc | refine Kept.trans ?_ (by assumption))) x1, Kept.cellSome (w := W7) (by repeat (first | assumption | exact Kept.refl _ | apply Kept.drew | apply Kept.drewN | apply Kept.alloc | refine Kept.trans ?_ (by assumption))) t0, Kept.cellSome (w := W7) (by repeat (first | assumption | exact Kept.refl _ | apply Kept.drew | apply Kept.drewN | apply Kept.alloc | refine Kept.trans ?_ (by assumption))) t1⟩
      clear hK2 K2
      (try simp only [Act.put, List.setIfInBounds_toArray, List.set_cons_zero, List.set_cons_succ])
      refine wpAnyH_take (i := 15) (oi := { dst := some 5, op := Go.Op.assign (Go.Operand.tmp 29), type := 130, pos := "load.go:90", after := #[{ on := 14, ground := Go.Ground.data }, { on := 14, ground := Go.Ground.chain }, { on := 0, ground := Go.Ground.phase }, { on := 1, ground := Go.Ground.phase }, { on := 2, ground := Go.Ground.phase }, { on := 3, ground := Go.Ground.phase }, { on := 4, ground := Go.Ground.phase }, { on := 5, ground := Go.Ground.phase }, { on := 6, ground := Go.Ground.phase }, { on := 7, ground := Go.Ground.phase }, { on := 8, ground := Go.Ground.phase }, { on := 9, ground := Go.Ground.phase }, { on := 10, ground := Go.Ground.phase }, { on := 11, ground := Go.Ground.phase }, { on := 12, ground := Go.Ground.phase }, { on := 13, ground := Go.Ground.phase }, { on := 14, ground := Go.Ground.phase }], guard := none }) (v := ?v14) rfl (by kernel_rfl) (by kernel_rfl) (by kernel_rfl) (fun _ _ _ h => h) (Or.inl ⟨by rfl, ?hy14⟩) (by assumption) ?rs14
      case hy14 =>
        intro w hSw
        (try dsimp only at hSw)
        go_simp
        try with_reducible rfl
      (try simp only [Act.put, List.setIfInBounds_toArray, List.set_cons_zero, List.set_cons_succ])
      refine wpAnyH_done (by kernel_rfl) ?_ _
      have hKN : Kept w2 u2 := hK7.trans (show Kept W7 u2 from (by repeat (first | assumption | exact Kept.refl _ | apply Kept.drew | apply Kept.drewN | apply Kept.alloc | refine Kept.trans ?_ (by assumption))))
      have hNN : NatAt u2 (.slice qa qk qc) (worZ Z L (j + 1)) := by rw [HW.out]; exact hN2
      clear t0 t1 d0 x0 x1 hN1 hN2 hu1 hu2 hHeld hK7 ZP ZQ ZS HW
      go_wp2_with fail
      go_roundg (L.length - (j + 1))
      case measure => exact hj2.out
      case rel => exact ⟨j + 1, hj1.out, rfl, by first | rfl | go_num, hKN, hNN⟩
    · obtain rfl : j = L.length := by omega
      have s1 : ¬ (L.length : Int) < (L.length : Int) := by omega
      have d0 := hK.cellSome dd0
      have d1 := hK.cellSome dd1
      have hFw := CellsAt.kept hFF hK
      have hNx := hN
      rw [HX.out] at hNx
      obtain ⟨sa, sk, sc, rfl⟩ := natAt_slice hNx
      have hkA : Kept wr (wr.alloc (.cells #[(.slice (some ⟨gf, 0, none⟩) k k), (.slice (some ⟨gf, 0, none⟩) k k)] 99)) := (Kept.refl wr).alloc _
      have hl : ∀ i, i < 2 → (wr.alloc (.cells #[(.slice (some ⟨gf, 0, none⟩) k k), (.slice (some ⟨gf, 0, none⟩) k k)] 99)).cell? ⟨wr.heap.size, 0 + i, none⟩ = some (.slice (some ⟨gf, 0, none⟩) k k) := fun i hi => by
        have : i = 0 ∨ i = 1 := by omega
        rcases this with rfl | rfl <;> (unfold World.cell?; dsimp only; rw [blk_alloc_new]; rfl)
      have CC := Lib.hid (Concat_two (wr.alloc (.cells #[(.slice (some ⟨gf, 0, none⟩) k k), (.slice (some ⟨gf, 0, none⟩) k k)] 99)) wr.heap.size 0 2 gf k F hk0 hk9 hl (fun t ht => hkA.cellSome (CellsAt.at0 hFw t ht)))
      clear hl hFF hPP HLL HB1A HB2A hN
      go_wp2_with (first
        | (go_at_call 87; refine CC.out.mono ?_; rintro e w5 ⟨v5, rfl, hk5, hC5⟩; obtain ⟨xa, xb, xo, xc, rfl, _, _⟩ := id hC5)
        | (go_at_call 86; refine (HQ.out _ _ _ (hNx.kept (hkA.trans hk5)) hC5).mono ?_; rintro e w6 ⟨rfl, hk6⟩))
      go_ret
      exact ⟨rfl, (((hKw2.trans hK).trans hkA).trans hk5).trans hk6⟩
end Go.Proofs.YtlnlddnjalfamaaGreatDoor
