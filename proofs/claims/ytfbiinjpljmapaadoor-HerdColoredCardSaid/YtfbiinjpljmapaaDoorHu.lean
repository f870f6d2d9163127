/-
  Package herd: shift.
-/
import Derived.Test.YtfbiinjpljmapaaDoorHs
import Derived.Test.YtfbiinjpljmapaaDoorHc
namespace Go.Proofs.YtfbiinjpljmapaaDoor
open Go.RowKit Go.Deep

theorem CellsAt.at0 {w : World} {g n cap : Nat} {f : Nat → Value} (h : CellsAt w (.slice (some ⟨g, 0, none⟩) n cap) n f) (i : Nat) (hi : i < n) : w.cell? ⟨g, i, none⟩ = some (f i) := by
  obtain ⟨a, b, o, c, e, ha, hc⟩ := h
  injection e with e1 e2 e3
  have := ha (by omega)
  rw [← e1] at this
  injection this with this
  injection this with t1 t2
  subst t1
  subst t2
  have := hc i hi
  rwa [Nat.zero_add] at this
set_option maxRecDepth 100000 in
set_option maxHeartbeats 8000000 in
theorem shift_any (w : World) (g N n cap : Nat) (fa : Option Addr) (fl fc : Nat) (gh caph : Nat) (Z : Nat → Int) (H : Nat → Nat) (M : Int) (hP : PartsAt w g N n Z) (hS : SetsAt w (.slice (some ⟨gh, 0, none⟩) n caph) n H) (hH : ∀ t, t < n → H t < 65536) (hbit : ∀ t, t < n → ∀ b, (H t).testBit b = true → b < n) (hn : n ≤ 9)
    (hG : GoodZ Z n M) (hM : 10 * M < bigU) (hM0 : 0 ≤ M) :
    Calls Tryd.prog 57 #[.agg #[.slice (some ⟨g, 0, none⟩) n cap, .slice fa fl fc], .slice (some ⟨gh, 0, none⟩) n caph] w fun e w' => e = .returned (.tuple #[]) ∧ KeptX (fun k => k = g) w w' ∧ IntKept w w' ∧ PartsAt w' g N n (shiftZ H n Z n) := by
  obtain ⟨P0, hR0, hnN, hZ0⟩ := id hP
  have hgl : g < w.heap.size := hR0.lt
  have d0 : (w.alloc (.cells #[.slice (some ⟨g, 0, none⟩) n cap, .slice fa fl fc] 92)).cell? ⟨w.heap.size, 0, none⟩ = some (.slice (some ⟨g, 0, none⟩) n cap) := by unfold World.cell?; dsimp only; rw [blk_alloc_new]; rfl
  have d1 : (w.alloc (.cells #[.slice (some ⟨g, 0, none⟩) n cap, .slice fa fl fc] 92)).cell? ⟨w.heap.size, 1, none⟩ = some (.slice fa fl fc) := by unfold World.cell?; dsimp only; rw [blk_alloc_new]; rfl
  have hk0 : Kept w (w.alloc (.cells #[.slice (some ⟨g, 0, none⟩) n cap, .slice fa fl fc] 92)) := (Kept.refl w).alloc _
  have hP1 := hP.kept hk0
  have hS1 := CellsAt.kept hS hk0
  have HG := Lib.hid hG
  have HH := Lib.hid hH
  have HB := Lib.hid hbit
  clear hP hS hR0 hZ0 hG hH hbit
  go_enter Tryd.func57, Tryd.ntmps57
  go_wp2_with fail
  generalize w.alloc (.cells #[.slice (some ⟨g, 0, none⟩) n cap, .slice fa fl fc] 92) = W at *
  obtain ⟨z0, HZ0⟩ : ∃ z, Hid (z = w.heap.size) := ⟨_, rfl⟩
  rw [← HZ0.out] at d0 d1 ⊢
  have hzg : ¬ z0 = g := by rw [HZ0.out]; omega
  clear HZ0
  have SETS := Lib.hid (fun (wr : World) (k : IntKept W wr) => CellsAt.keptI hS1 (fun i _ => ⟨_, _, rfl⟩) k)
  have DD := Lib.hid (fun (wr : World) (k : KeptX (fun k => k = g) W wr) => And.intro (KeptX.cellSome k d0 (show ¬ z0 = g from hzg)) (KeptX.cellSome k d1 (show ¬ z0 = g from hzg)))
  have HK0 := Lib.hid hk0
  have HKI := Lib.hid (Kept.ints hk0)
  clear hS1 d0 d1 hk0
  go_loopg [8] n (fun mm s8 wr => ∃ i : Nat, i ≤ n ∧ mm = n - i ∧ s8 = .int .i64 i ∧ KeptX (fun k => k = g) W wr ∧ IntKept W wr ∧ PartsAt wr g N n (shiftZ H n Z i))
  case atStart => exact ⟨0, Nat.zero_le _, rfl, by first | rfl | go_num, KeptX.refl _ _, IntKept.refl _, hP1⟩
  case round =>
    clear hP1
    obtain ⟨i, hi, rfl, rfl, hK, hKi, hPa⟩ := hrel
    by_cases hlt : i < n
    · have s1 : (i : Int) < (n : Int) := by omega
      have s2 : (0 : Int) ≤ (i : Int) := by omega
      have hGi := Lib.hid (HG.out.shift H i hi)
      obtain ⟨Zi, HZi⟩ : ∃ Zi, Hid (Zi = shiftZ H n Z i) := ⟨_, rfl⟩
      have HZn : Hid (shiftZ H n Z (i + 1) = rowZ H i Zi (n - (i + 1))) := by show _ = _; rw [HZi.out]; rfl
      rw [← HZi.out] at hPa hGi
      clear HZi
      go_wp2_with fail
      go_loopg [5] (n - (i + 1)) (fun mm s5 wi => ∃ k : Nat, i + 1 + k ≤ n ∧ mm = n - (i + 1) - k ∧ s5 = .int .i64 ((i : Int) + 1 + (k : Int)) ∧ KeptX (fun k => k = g) W wi ∧ IntKept W wi ∧ PartsAt wi g N n (rowZ H i Zi k))
      case atStart => exact ⟨0, by omega, rfl, by first | rfl | go_num, hK, hKi, hPa⟩
      case round =>
        clear hK hKi hPa
        obtain ⟨k, hk, rfl, rfl, hK, hKi, hPa⟩ := hrel
        obtain ⟨j, hj⟩ : ∃ j, j = i + 1 + k := ⟨_, rfl⟩
        have ej : (i : Int) + 1 + (k : Int) = (j : Int) := by omega
        rw [ej]
        by_cases hlt2 : j < n
        · have s3 : (j : Int) < (n : Int) := by omega
          have s4 : (0 : Int) ≤ (j : Int) := by omega
          have hGc := Lib.hid (hGi.out.row H k hk)
          have HZk : Hid (rowZ H i Zi (k + 1) = stepZ H (rowZ H i Zi k) i j) := by show _ = _; rw [hj]; rfl
          obtain ⟨Zc, HZc⟩ : ∃ Zc, Hid (Zc = rowZ H i Zi k) := ⟨_, rfl⟩
          rw [← HZc.out] at hGc HZk hPa
          have hkn : Hid (i + 1 + (k + 1) ≤ n) := by show _ ≤ _; omega
          have hm1 : Hid (n - (i + 1) - (k + 1) < n - (i + 1) - k) := by show _ < _; omega
          have hj1 : Hid ((j : Int) + 1 = (i : Int) + 1 + ((k + 1 : Nat) : Int)) := by show _ = _; omega
          have hPh := Lib.hid hPa
          obtain ⟨P, hR, _, hZ⟩ := hPa
          have ti := hR.cell (show i < N by omega)
          have tj := hR.cell (show j < N by omega)
          have zi := hZ i (by omega)
          have zj := hZ j (by omega)
          have hsi := CellsAt.at0 (SETS.out wr hKi) i hlt
          have hd := DD.out wr hK
          obtain ⟨dd0, dd1⟩ := hd
          obtain ⟨a1, k1, c1, e1⟩ := natAt_slice zi
          obtain ⟨a2, k2, c2, e2⟩ := natAt_slice zj
          rw [e1] at ti zi
          rw [e2] at tj zj
          have HA := Lib.hid (fun W => has_any W (H i) j (HH.out i hlt) (by omega))
          have IZi := Lib.hid (isZero_any wr _ _ zi)
          have IZj := Lib.hid (isZero_any wr _ _ zj)
          have UN := Lib.hid (unite_any wr g N n cap fa fl fc _ i j Zc H M hPh.out (SETS.out wr hKi) hlt hlt2 HH.out HB.out hn hGc.out hM hM0)
          obtain ⟨hI, HHI⟩ : ∃ hI, Hid (hI = H i) := ⟨_, rfl⟩
          rw [← HHI.out] at hsi HA
          clear e1 e2 zi zj hR hZ HZc hj ej
          by_cases hb : hI.testBit j = true
          · have e9 : Hid (stepZ H Zc i j = Zc) := by show _ = _; unfold stepZ; rw [← HHI.out, if_pos hb]
            simp only [hb] at HA
            clear HHI hb IZi IZj UN
            go_wp2_with (first | (go_at_call 65; refine (HA.out _).mono ?_; rintro e w2 ⟨rfl, rfl⟩))
            go_roundg (n - (i + 1) - (k + 1))
            case measure => exact hm1.out
            case rel => exact ⟨k + 1, hkn.out, rfl, by rw [← hj1.out], hK, hKi, by rw [HZk.out, e9.out]; exact hPh.out⟩
          · have hb2 : hI.testBit j = false := by simpa using hb
            by_cases h0 : Zc i = 0
            · have e9 : Hid (stepZ H Zc i j = Zc) := by show _ = _; unfold stepZ; rw [← HHI.out, if_neg hb, if_pos h0]
              simp only [hb2] at HA
              simp only [decide_eq_true h0] at IZi
              clear HHI hb hb2 h0 UN IZj
              go_wp2_with (first | (go_at_call 65; refine (HA.out _).mono ?_; rintro e w2 ⟨rfl, rfl⟩) | (go_at_call 75; refine IZi.out.mono ?_; clear IZi; rintro e w3 ⟨rfl, rfl⟩))
              go_roundg (n - (i + 1) - (k + 1))
              case measure => exact hm1.out
              case rel => exact ⟨k + 1, hkn.out, rfl, by rw [← hj1.out], hK, hKi, by rw [HZk.out, e9.out]; exact hPh.out⟩
            · by_cases h1 : Zc j = 0
              · have e9 : Hid (stepZ H Zc i j = Zc) := by show _ = _; unfold stepZ; rw [← HHI.out, if_neg hb, if_neg h0, if_pos h1]
                simp only [hb2] at HA
                simp only [decide_eq_false h0] at IZi
                simp only [decide_eq_true h1] at IZj
                clear HHI hb hb2 h0 h1 UN
                go_wp2_with (first | (go_at_call 65; refine (HA.out _).mono ?_; rintro e w2 ⟨rfl, rfl⟩) | (go_at_call 75; refine IZi.out.mono ?_; clear IZi; rintro e w3 ⟨rfl, rfl⟩) | (go_at_call 75; refine IZj.out.mono ?_; rintro e w4 ⟨rfl, rfl⟩))
                go_roundg (n - (i + 1) - (k + 1))
                case measure => exact hm1.out
                case rel => exact ⟨k + 1, hkn.out, rfl, by rw [← hj1.out], hK, hKi, by rw [HZk.out, e9.out]; exact hPh.out⟩
              · have e9 : Hid (stepZ H Zc i j = uniteZ Zc H i j) := by show _ = _; unfold stepZ; rw [← HHI.out, if_neg hb, if_neg h0, if_neg h1]
                simp only [hb2] at HA
                simp only [decide_eq_false h0] at IZi
                simp only [decide_eq_false h1] at IZj
                clear HHI hb hb2 h0 h1
                go_wp2_with (first | (go_at_call 65; refine (HA.out _).mono ?_; rintro e w2 ⟨rfl, rfl⟩) | (go_at_call 75; refine IZi.out.mono ?_; clear IZi; rintro e w3 ⟨rfl, rfl⟩) | (go_at_call 75; refine IZj.out.mono ?_; rintro e w4 ⟨rfl, rfl⟩) | (go_at_call 76; refine UN.out.mono ?_; rintro e w5 ⟨rfl, hX5, hI5, hP5⟩))
                go_roundg (n - (i + 1) - (k + 1))
                case measure => exact hm1.out
                case rel => exact ⟨k + 1, hkn.out, rfl, by rw [← hj1.out], hK.trans hX5, hKi.trans hI5, by rw [HZk.out, e9.out]; exact hP5⟩
        · have hkj : i + 1 + k = n := by omega
          have s3 : ¬ (j : Int) < (n : Int) := by omega
          have HZl : Hid (rowZ H i Zi k = shiftZ H n Z (i + 1)) := by show _ = _; rw [HZn.out, show n - (i + 1) = k by omega]
          have HPl : Hid (PartsAt wr g N n (shiftZ H n Z (i + 1))) := by show PartsAt _ _ _ _ _; rw [← HZl.out]; exact hPa
          clear hPa HZl hj ej hkj
          go_wp2_with fail
          go_roundg (n - (i + 1))
          case measure => omega
          case rel => exact ⟨i + 1, by omega, rfl, by first | rfl | go_num, hK, hKi, HPl.out⟩
    · obtain rfl : i = n := by omega
      have s1 : ¬ (i : Int) < (i : Int) := by omega
      go_wp2_with fail
      go_end0
      exact ⟨rfl, KeptX.weaken (KeptX.trans (HK0.out.weaken (fun _ h => h.elim)) hK) (fun _ h => h), HKI.out.trans hKi, hPa⟩
end Go.Proofs.YtfbiinjpljmapaaDoor
