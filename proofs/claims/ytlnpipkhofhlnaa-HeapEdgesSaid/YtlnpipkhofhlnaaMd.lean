/-
  The laws' made and bars: a yard and heaps out of arbitrary numbers.
-/
import Derived.Test.YtlnpipkhofhlnaaGd
import Derived.Test.YtlnpipkhofhlnaaLd
import Derived.Test.YtlnpipkhofhlnaaLe
namespace Go.Proofs.Ytlnpipkhofhlnaa
open Go.RowKit Go.Deep

/-- v reads as n bytes -/
def BytesAt (w : World) (v : Value) (n : Nat) (f : Nat → Nat) : Prop := CellsAt w v n (fun i => .int .u8 (f i))
/-- v reads as n arrays of two bytes -/
def Bytes2At (w : World) (v : Value) (n : Nat) (X Y : Nat → Nat) : Prop :=
  ∃ (a : Option Addr) (b o cap : Nat), v = .slice a n cap ∧ (0 < n → a = some ⟨b, o, none⟩) ∧ ∀ i, i < n → w.cell? ⟨b, o + i * 2, none⟩ = some (.int .u8 (X i)) ∧ w.cell? ⟨b, o + i * 2 + 1, none⟩ = some (.int .u8 (Y i))
theorem Bytes2At.kept {w w' : World} {v : Value} {n : Nat} {X Y : Nat → Nat} (h : Bytes2At w v n X Y) (k : Kept w w') : Bytes2At w' v n X Y := by
  obtain ⟨a, b, o, cap, e, ha, hc⟩ := h
  exact ⟨a, b, o, cap, e, ha, fun i hi => ⟨k.cellSome (hc i hi).1, k.cellSome (hc i hi).2⟩⟩
theorem pairs_snoc (A B : Nat → Int) (m : Nat) (x y : Int) : pairs (snoc A m x) (snoc B m y) (m + 1) = pairs A B m ++ [.int .i64 x, .int .i64 y] := by
  apply List.ext_getElem?
  intro j
  by_cases h1 : j < m * 2
  · rw [List.getElem?_append_left (by rw [pairs_len]; exact h1), pairs_at (by omega), pairs_at h1]
    by_cases e : j % 2 = 0
    · rw [if_pos e, if_pos e, snoc_lt (by omega)]
    · rw [if_neg e, if_neg e, snoc_lt (by omega)]
  · rw [List.getElem?_append_right (by rw [pairs_len]; omega), pairs_len]
    by_cases h2 : j < (m + 1) * 2
    · rw [pairs_at h2]
      by_cases e : j % 2 = 0
      · rw [if_pos e, show j / 2 = m by omega, snoc_at, show j - m * 2 = 0 by omega]; rfl
      · rw [if_neg e, show j / 2 = m by omega, snoc_at, show j - m * 2 = 1 by omega]; rfl
    · rw [List.getElem?_eq_none (by rw [pairs_len]; omega), List.getElem?_eq_none (by simp; omega)]
def MadePost (w : World) (most : Nat) (e : Ending) (w' : World) : Prop :=
  ∃ (k m : Nat) (a : Option Addr) (cap : Nat) (A B : Nat → Int), e = .returned (.tuple #[.int .i64 k, .slice a m cap]) ∧ PairsAt w' (.slice a m cap) m A B ∧ Kept w w' ∧ 2 ≤ k ∧ k ≤ most ∧ m ≤ 19 ∧ goodB k A B m = true

set_option maxRecDepth 100000 in
set_option maxHeartbeats 4000000 in
theorem made_any (w : World) (xa : Option Addr) (q qcap nn most : Nat) (X Y : Nat → Nat) (hx : Bytes2At w (.slice xa q qcap) q X Y) (hX : ∀ i, X i < 256) (hY : ∀ i, Y i < 256) (hq : q ≤ maxLen) (hnn : nn < 256) (hm2 : 2 ≤ most) (hm8 : most ≤ 8) :
    Calls Try.prog 24 #[.slice xa q qcap, .int .u8 nn, .int .i64 most] w (MadePost w most) := by
  obtain ⟨xa', xb, xo, xcap, e, hxa, hxc⟩ := hx
  cases e
  unfold maxLen at hq
  obtain ⟨i1, hi, hz0, hz1, hz2⟩ := info_parts Try.infoPair
  have d1 : (0 : Int) < (most : Int) - 1 := by omega
  have d2 : ((nn : Int)) % ((most : Int) - 1) = ((nn % (most - 1) : Nat) : Int) := by rw [Int.natCast_emod]; congr 1; omega
  have hO0 := own_zeroT w w.heap.size 71 2 (Nat.le_refl _)
  have hK0 : Kept w (w.alloc (.cells #[] 71)) := (Kept.refl w).alloc _
  obtain ⟨k, hk⟩ : ∃ k : Nat, k = nn % (most - 1) + 2 := ⟨_, rfl⟩
  have hk2 : 2 ≤ k := by omega
  have hkm : k ≤ most := by have := Nat.mod_lt nn (show most - 1 > 0 by omega); omega
  have hkw : IntKind.i64.wrap ((nn : Int) % ((most : Int) - 1) + 2) = (k : Int) := by rw [d2, hk]; exact IntWalk.i64_in _ (by omega)
  have HXC := Lib.hid hxc
  have HX := Lib.hid hX
  have HY := Lib.hid hY
  clear d2 hk hxc hX hY
  go_enter Try.func24, Try.ntmps24
  go_wp2_with fail
  have hmi := MadeI.start k (fun _ => 0) (fun _ => 0)
  have hsz0 : w.heap.size ≤ (w.alloc (.cells #[] 71)).heap.size := by simp
  have hO1 : (w.alloc (.cells #[] 71)).ownsRow w.heap.size 71 2 (.slice (some ⟨w.heap.size, 0, none⟩) 0 0) 0 (pairs (fun _ => 0) (fun _ => 0) 0) := hO0
  clear hkw hO0 d1
  generalize w.alloc (.cells #[] 71) = W0 at *
  go_loopg [9, 10] (k - 1) (fun g lv s10 wr => ∃ (t : Nat) (A B : Nat → Int), t + 1 ≤ k ∧ g = k - 1 - t ∧ s10 = .int .i64 ((t : Int) + 1) ∧ Hid (MadeI k (t + 1) A B t) ∧ Kept w wr ∧ wr.ownsRow w.heap.size 71 2 lv t (pairs A B t) ∧ w.heap.size ≤ wr.heap.size)
  case atStart => exact ⟨0, _, _, by omega, by omega, rfl, hmi, hK0, hO1, hsz0⟩
  case round =>
    obtain ⟨t, A, B, htk, rfl, rfl, hM, hK, hO, hsz⟩ := hrel
    clear hmi hK0 hO1 hsz0
    obtain ⟨oa, ocap, rfl⟩ := own_shape hO
    have s3 : (0 : Int) ≤ (t : Int) := by omega
    by_cases hlt : t + 1 < k
    · by_cases hvq : t < q
      · obtain rfl := hxa (by omega)
        have t1 := hK.cellSome (HXC.out t hvq).1
        have b1 := HX.out t
        have s4 : (t : Int) < (q : Int) := by omega
        obtain ⟨u, hu⟩ : ∃ u : Nat, u = X t % (t + 1) := ⟨_, rfl⟩
        have hul : u < t + 1 := by rw [hu]; exact Nat.mod_lt _ (by omega)
        have e1 : ((X t : Nat) : Int) % ((t : Int) + 1) = (u : Int) := by rw [hu, Int.natCast_emod]; rfl
        clear hu
        obtain ⟨xx, HXX⟩ : ∃ xx, Hid (xx = X t) := ⟨_, rfl⟩
        rw [← HXX.out] at t1 b1 e1
        have hM2 := hM.out.grow hul hlt (by omega)
        have HM2 := Lib.hid hM2
        clear hM2 hM
        go_wp2_with (first | (at_builtin; refine wpList_append_own _ rfl _ _ 22 rfl w.heap.size 71 i1 (.agg #[.int .i64 0, .int .i64 0]) 2 16 Try.underlying22 hi hz0 hz1 hz2 rfl (by decide) _ _ _ rfl (hO.alloc _) ⟨wr.heap.size, 0, none⟩ 1 1 [.int .i64 u, .int .i64 ((t : Int) + 1)] rfl rfl ?c1 ?c2 ?c3 ?c4 ?c5 ?_))
        case c2 => simp [Value.oneCell']
        case c3 => unfold maxLen; omega
        case c4 => omega
        case c5 => first | omega | (simp; omega)
        intro v' w2 hO3 hgr _
        have hX2 := grew_X hgr (hO.alloc (.cells #[.int .i64 u, .int .i64 ((t : Int) + 1)] 71))
        have hK2 : Kept w w2 := (hK.alloc _).step hX2 (fun i hi => hi)
        have hs2 : w.heap.size ≤ w2.heap.size := Kept.size hK2
        have hO4 : w2.ownsRow w.heap.size 71 2 v' (t + 1) (pairs (snoc A t u) (snoc B t ((t : Int) + 1)) (t + 1)) := by rw [pairs_snoc]; exact hO3
        clear hO3 hX2 hgr hK hO hsz
        go_wp2_with fail
        go_roundg (k - 1 - (t + 1))
        case measure => omega
        case rel => exact ⟨t + 1, _, _, by omega, rfl, by go_num, HM2.out, hK2, hO4, hs2⟩
      · have s4 : ¬ (t : Int) < (q : Int) := by omega
        have hM2 := hM.out.grow (a := 0) (by omega) hlt (by omega)
        have HM2 := Lib.hid hM2
        clear hM2 hM
        go_wp2_with (first | (at_builtin; refine wpList_append_own _ rfl _ _ 22 rfl w.heap.size 71 i1 (.agg #[.int .i64 0, .int .i64 0]) 2 16 Try.underlying22 hi hz0 hz1 hz2 rfl (by decide) _ _ _ rfl (hO.alloc _) ⟨wr.heap.size, 0, none⟩ 1 1 [.int .i64 0, .int .i64 ((t : Int) + 1)] rfl rfl ?dd1 ?dd2 ?dd3 ?dd4 ?dd5 ?_))
        case dd2 => simp [Value.oneCell']
        case dd3 => unfold maxLen; omega
        case dd4 => omega
        case dd5 => first | omega | (simp; omega)
        intro v' w2 hO3 hgr _
        have hX2 := grew_X hgr (hO.alloc (.cells #[.int .i64 0, .int .i64 ((t : Int) + 1)] 71))
        have hK2 : Kept w w2 := (hK.alloc _).step hX2 (fun i hi => hi)
        have hs2 : w.heap.size ≤ w2.heap.size := Kept.size hK2
        have hO4 : w2.ownsRow w.heap.size 71 2 v' (t + 1) (pairs (snoc A t 0) (snoc B t ((t : Int) + 1)) (t + 1)) := by rw [pairs_snoc]; exact hO3
        clear hO3 hX2 hgr hK hO hsz
        go_wp2_with fail
        go_roundg (k - 1 - (t + 1))
        case measure => omega
        case rel => exact ⟨t + 1, _, _, by omega, rfl, by go_num, HM2.out, hK2, hO4, hs2⟩
    · obtain rfl : k = t + 1 := by omega
      have hM' : MadeI (t + 1) (t + 1) A B t := hM.out
      have HM := Lib.hid hM'
      clear hM hM'
      go_wp2_with fail
      clear s3 hlt
      go_loopg [9, 12] (19 - t) (fun g lv s12 wr => ∃ (m : Nat) (A B : Nat → Int), m ≤ 19 ∧ g = 19 - m ∧ s12 = .int .i64 m ∧ Hid (MadeI (t + 1) (t + 1) A B m) ∧ Kept w wr ∧ wr.ownsRow w.heap.size 71 2 lv m (pairs A B m) ∧ w.heap.size ≤ wr.heap.size)
      case atStart => exact ⟨t, A, B, by omega, rfl, rfl, HM, hK, hO, hsz⟩
      case round =>
        clear hK hO hsz HM
        obtain ⟨m, A, B, hm19, rfl, rfl, hM, hK, hO, hsz⟩ := hrel
        obtain ⟨oa, ocap, rfl⟩ := own_shape hO
        by_cases hmq : m < q ∧ m < 19
        · obtain ⟨hmq, hm⟩ := hmq
          obtain rfl := hxa (by omega)
          obtain ⟨r1, r2⟩ := HXC.out m hmq
          have t1 := hK.cellSome r1
          have t2 := hK.cellSome r2
          have b1 := HX.out m
          have b2 := HY.out m
          have s4 : (m : Int) < (q : Int) := by omega
          have s5 : (m : Int) < 19 := by omega
          have s6 : (0 : Int) ≤ (m : Int) := by omega
          obtain ⟨u, hu⟩ : ∃ u : Nat, u = X m % (t + 1) := ⟨_, rfl⟩
          have hul : u < t + 1 := by rw [hu]; exact Nat.mod_lt _ (by omega)
          obtain ⟨z, hz⟩ : ∃ z : Nat, z = Y m % t := ⟨_, rfl⟩
          have hzl : z < t := by rw [hz]; exact Nat.mod_lt _ (by omega)
          obtain ⟨h1, h2⟩ := turn_ne (a := u) (z := z) hul (by omega : z + 1 < t + 1)
          obtain ⟨v, hv⟩ : ∃ v : Nat, v = (u + 1 + z) % (t + 1) := ⟨_, rfl⟩
          rw [← hv] at h1 h2
          have e1 : ((X m : Nat) : Int) % ((t : Int) + 1) = (u : Int) := by rw [hu, Int.natCast_emod]; rfl
          have e2 : ((Y m : Nat) : Int) % (t : Int) = (z : Int) := by rw [hz, Int.natCast_emod]
          have e3 : ((u : Int) + 1 + (z : Int)) % ((t : Int) + 1) = (v : Int) := by rw [hv, Int.natCast_emod]; rfl
          have hM2 := hM.out.more hul h1 h2
          have HM2 := Lib.hid hM2
          have b3 : (0 : Int) < (t : Int) := by omega
          obtain ⟨xx, HXX⟩ : ∃ xx, Hid (xx = X m) := ⟨_, rfl⟩
          obtain ⟨yy, HYY⟩ : ∃ yy, Hid (yy = Y m) := ⟨_, rfl⟩
          rw [← HXX.out] at t1 b1 e1
          rw [← HYY.out] at t2 b2 e2
          clear hu hz hv h2 hM2 hM r1 r2
          go_wp2_with (first | (at_builtin; refine wpList_append_own _ rfl _ _ 22 rfl w.heap.size 71 i1 (.agg #[.int .i64 0, .int .i64 0]) 2 16 Try.underlying22 hi hz0 hz1 hz2 rfl (by decide) _ _ _ rfl (hO.alloc _) ⟨wr.heap.size, 0, none⟩ 1 1 [.int .i64 u, .int .i64 v] rfl rfl ?ee1 ?ee2 ?ee3 ?ee4 ?ee5 ?_))
          case ee2 => simp [Value.oneCell']
          case ee3 => unfold maxLen; omega
          case ee4 => omega
          case ee5 => first | omega | (simp; omega)
          intro v' w2 hO3 hgr _
          have hX2 := grew_X hgr (hO.alloc (.cells #[.int .i64 u, .int .i64 v] 71))
          have hK2 : Kept w w2 := (hK.alloc _).step hX2 (fun i hi => hi)
          have hs2 : w.heap.size ≤ w2.heap.size := Kept.size hK2
          have hO4 : w2.ownsRow w.heap.size 71 2 v' (m + 1) (pairs (snoc A m u) (snoc B m v) (m + 1)) := by rw [pairs_snoc]; exact hO3
          clear hO3 hX2 hgr hK hO hsz e1 e2 e3 t1 t2
          go_wp2_with fail
          go_roundg (19 - (m + 1))
          case measure => omega
          case rel => exact ⟨m + 1, _, _, by omega, rfl, by go_num, HM2.out, hK2, hO4, hs2⟩
        · have hgood := hM.out.good (by omega) (by omega) (by omega)
          have HG := Lib.hid hgood
          clear hgood hM
          have hP : PairsAt wr (.slice oa m ocap) m A B := by
            by_cases h0 : m = 0
            · subst h0
              exact ⟨_, 0, 0, _, rfl, fun h => absurd h (by omega), fun i hi => absurd hi (by omega)⟩
            · obtain ⟨g, c, hf, _⟩ := hO.form (by omega)
              cases hf
              exact pairs_own hO
          by_cases hmq2 : m < q
          · have s4 : (m : Int) < (q : Int) := by omega
            have s5 : ¬ (m : Int) < 19 := by omega
            go_wp2_with fail
            go_ret2
            exact ⟨t + 1, m, oa, ocap, A, B, rfl, hP, hK, by omega, by omega, hm19, HG.out⟩
          · have s4 : ¬ (m : Int) < (q : Int) := by omega
            go_wp2_with fail
            go_ret2
            exact ⟨t + 1, m, oa, ocap, A, B, rfl, hP, hK, by omega, by omega, hm19, HG.out⟩
end Go.Proofs.Ytlnpipkhofhlnaa
