/-
  Burn, as the package exports it.
  And: The reference's Burn.
-/
import Derived.Test.YtlnpipkhofhlnaaU
import Derived.Test.YtlnpipkhofhlnaaJ
namespace Go.Proofs.Ytlnpipkhofhlnaa
open Go.RowKit Go.Deep

def BurnFn (w : World) (n : Int) (A B : Nat → Int) (m l : Nat) (hp : Nat → Int) (e : Ending) (w' : World) : Prop :=
  Kept w w' ∧ (code1 n A B m 0 l hp ≠ 0 → e = .returned (.tuple #[.slice none 0 0, .bool false, .int .i64 (code1 n A B m 0 l hp)])) ∧
  (code1 n A B m 0 l hp = 0 → stableB (degN A B m) hp n.toNat = false → e = .returned (.tuple #[.slice none 0 0, .bool false, .int .i64 6])) ∧
  (code1 n A B m 0 l hp = 0 → stableB (degN A B m) hp n.toNat = true → ∃ ov, e = .returned (.tuple #[ov, .bool (decide ((burnAll n.toNat (btwN A B m) hp).length = n.toNat - 1)), .int .i64 0]) ∧ ∃ base, w.heap.size ≤ base ∧ w'.ownsRow base 3 1 ov (burnAll n.toNat (btwN A B m) hp).length (nats (burnAll n.toNat (btwN A B m) hp)))

set_option maxRecDepth 100000 in
set_option maxHeartbeats 1000000 in
theorem Burn_any (w : World) (n : Int) (ev hv : Value) (A B : Nat → Int) (m l : Nat) (hp : Nat → Int) (hE : PairsAt w ev m A B) (hH : IntsAt w hv l hp) (hm : m ≤ 1000000) :
    Calls Try.prog 26 #[.int .i64 n, ev, hv] w (BurnFn w n A B m l hp) := by
  obtain ⟨ea, eb, eo, ecap, rfl, hea, hec⟩ := hE
  have hE' : PairsAt w (.slice ea m ecap) m A B := ⟨ea, eb, eo, ecap, rfl, hea, hec⟩
  have hH' := hH
  obtain ⟨a, b, o, cap, rfl, ha, hc⟩ := hH
  have hl1 := list1 hH' 25
  have hk0 : Kept w (w.alloc (.cells #[.slice a l cap] 25)) := (Kept.refl w).alloc _
  clear hec hc hea ha
  go_enter Try.func26, Try.ntmps26
  go_wp2_with fail
  refine (yardOf_any _ n _ _ A B m 0 1 (fun _ => l) (fun _ => hp) (hE'.kept hk0) hl1 hm (by omega)).mono ?_
  rintro e w1 ⟨hk1, hpost⟩
  have hK1 := hk0.trans hk1
  cases hg : goodB n A B m
  · rw [hg, if_neg (by simp)] at hpost
    have hcode : Hid (code1 n A B m 0 l hp = 1) := code1_arg hg
    subst hpost
    clear hg hl1
    unfold zeroYard
    go_wp2_with fail
    go_ret3
    exact ⟨hK1.alloc _, (fun _ => by rw [hcode.out]; rfl), (fun h => by rw [hcode.out] at h; cases h), (fun h => by rw [hcode.out] at h; cases h)⟩
  · rw [hg, if_pos rfl] at hpost
    obtain ⟨ok, ⟨p, hpk⟩, hm20, _⟩ := good_ok hg
    obtain ⟨N, rfl⟩ : ∃ N : Nat, n = (N : Int) := ⟨n.toNat, by have := ok.n2; omega⟩
    unfold BurnFn
    simp only [Int.toNat_natCast] at ok hpk hpost ⊢
    cases hh : holdsB N 0 l hp
    · rw [if_neg (by simp [allN, hh])] at hpost
      have hcode : Hid (code1 (N : Int) A B m 0 l hp = 2) := code1_form hg hh
      subst hpost
      clear hg hl1 hh
      unfold zeroYard
      go_wp2_with fail
      go_ret3
      exact ⟨hK1.alloc _, (fun _ => by rw [hcode.out]; rfl), (fun h => by rw [hcode.out] at h; cases h), (fun h => by rw [hcode.out] at h; cases h)⟩
    · rw [if_pos (by simp [allN, hh])] at hpost
      have hcode : Hid (code1 (N : Int) A B m 0 l hp = 0) := code1_ok hg hh
      obtain ⟨bd, bj, br, rfl, hO⟩ := hpost
      obtain ⟨hl, hr⟩ := holds_range hh
      have hn2 := ok.n2
      have hn8 := ok.n8
      have hJ40 : ∀ i j, i < N → j < N → btwN A B m i j ≤ 40 := ok.J40
      have HL := Lib.hid hl
      have hH1 : IntsAt w1 (.slice a l cap) (N - 1) hp := by have := hH'.kept hK1; rw [HL.out] at this ⊢; exact this
      clear hg hl1 hh hl
      unfold YardV
      go_wp2_with fail
      have hkA := hK1.alloc (.cells #[.int .i64 N, .int .i64 m, .slice (some ⟨bd, 0, none⟩) N N, .slice (some ⟨bj, 0, none⟩) N N] 78)
      have hYA := hO.yard.kept ((Kept.refl w1).alloc (.cells #[.int .i64 N, .int .i64 m, .slice (some ⟨bd, 0, none⟩) N N, .slice (some ⟨bj, 0, none⟩) N N] 78))
      have hHA := hH1.kept ((Kept.refl w1).alloc (.cells #[.int .i64 N, .int .i64 m, .slice (some ⟨bd, 0, none⟩) N N, .slice (some ⟨bj, 0, none⟩) N N] 78))
      obtain ⟨c0, c1, c2, c3⟩ := YBox.new w1 N m bd bj 78
      obtain ⟨g, HGG⟩ : ∃ g, Hid (g = w1.heap.size) := ⟨_, rfl⟩
      rw [← HGG.out] at c0 c1 c2 c3 ⊢
      generalize w1.alloc (.cells #[.int .i64 N, .int .i64 m, .slice (some ⟨bd, 0, none⟩) N N, .slice (some ⟨bj, 0, none⟩) N N] 78) = W at *
      refine (stable_any W N m bd bj br (degN A B m) (btwN A B m) _ hp hYA (by omega) (by omega) hHA).mono ?_
      rintro e w2 ⟨rfl, hk2⟩
      have hK2 := hkA.trans hk2
      cases hs : stableB (degN A B m) hp N
      · have HS := Lib.hid hs
        clear hs
        go_wp2_with fail
        go_ret3
        exact ⟨hK2, (fun h => absurd hcode.out h), (fun _ _ => rfl), (fun _ h => by have h' : stableB (degN A B m) hp N = true := h; rw [HS.out] at h'; cases h')⟩
      · have HS := Lib.hid hs
        clear hs
        have hY2 := hYA.kept hk2
        have hH2 := hHA.kept hk2
        have d0 := hk2.cellSome c0
        have d1 := hk2.cellSome c1
        have d2 := hk2.cellSome c2
        have d3 := hk2.cellSome c3
        clear c0 c1 c2 c3
        go_wp2_with fail
        refine (burn_any w2 N m bd bj br (degN A B m) (btwN A B m) _ hp hY2 (by omega) (by omega) hJ40 hH2).mono ?_
        rintro e w3 ⟨ov, rfl, hk3, how⟩
        have hK3 := hK2.trans hk3
        obtain ⟨oa, ocap, rfl⟩ := own_shape how
        have c0 := hk3.cellSome d0
        have c1 := hk3.cellSome d1
        have c2 := hk3.cellSome d2
        have c3 := hk3.cellSome d3
        clear d0 d1 d2 d3
        go_wp2_with fail
        refine (all_any w3 N m bd bj oa _ ocap (by omega) (by omega)).mono ?_
        rintro e w4 ⟨rfl, hk4⟩
        go_wp2_with fail
        go_ret3
        have hsz := Kept.size hK2
        exact ⟨hK3.trans hk4, (fun h => absurd hcode.out h), (fun _ h => by have h' : stableB (degN A B m) hp N = false := h; rw [HS.out] at h'; cases h'), (fun _ _ => ⟨_, rfl, w2.heap.size, hsz, own_kept how hk4⟩)⟩
end Go.Proofs.Ytlnpipkhofhlnaa
namespace Go.Proofs.Ytlnpipkhofhlnaa
open Go.RowKit Go.Deep

def RBurnPost (w : World) (n : Nat) (l : List Nat) (e : Ending) (w' : World) : Prop := ∃ ov, e = .returned (.tuple #[ov, .bool (decide (l.length = n - 1))]) ∧ Kept w w' ∧ w'.ownsRow w.heap.size 3 1 ov l.length (nats l)
/-- nx is the least that catches fire above k, or 0 -/
def NextOk (p : Nat → Bool) (n k nx : Nat) : Prop := (nx = 0 ∧ ∀ u, k < u → u < n → p u = false) ∨ (k < nx ∧ nx < n ∧ p nx = true ∧ ∀ u, k < u → u < nx → p u = false)
theorem NextOk.hit {p : Nat → Bool} {n k : Nat} (hk0 : 1 ≤ k) (hk : k < n) (hp : p k = true) : NextOk p n (k - 1) k := Or.inr ⟨by omega, hk, hp, fun u h1 h2 => by omega⟩
theorem NextOk.miss {p : Nat → Bool} {n k nx : Nat} (h : NextOk p n k nx) (hk0 : 1 ≤ k) (hp : p k = false) : NextOk p n (k - 1) nx := by
  rcases h with ⟨rfl, h⟩ | ⟨h1, h2, h3, h4⟩
  · refine Or.inl ⟨rfl, fun u h1 h2 => ?_⟩
    by_cases e : u = k
    · rw [e]; exact hp
    · exact h u (by omega) h2
  · refine Or.inr ⟨by omega, h2, h3, fun u h5 h6 => ?_⟩
    by_cases e : u = k
    · rw [e]; exact hp
    · exact h4 u (by omega) h6
theorem NextOk.catchV {n : Nat} {J : Nat → Nat → Nat} {h : Nat → Int} {b : Nat → Bool} {c : Nat} (hc : NextOk (hot n J h b) n 0 c) (hb : b 0 = true) : c = catchV n J h b := by
  have h0 : hot n J h b 0 = false := by simp [hot, hb]
  unfold Go.Proofs.Ytlnpipkhofhlnaa.catchV
  rcases hc with ⟨rfl, hc⟩ | ⟨h1, h2, h3, h4⟩
  · have : least (hot n J h b) n = n := least_none.2 (fun i hi => by
      rcases Nat.eq_zero_or_pos i with e | e
      · rw [e]; exact h0
      · exact hc i e hi)
    rw [this, if_neg (by omega)]
  · have : least (hot n J h b) n = c := least_hit (least_none.2 (fun i hi => by
      rcases Nat.eq_zero_or_pos i with e | e
      · rw [e]; exact h0
      · exact h4 i e hi)) h3 h2
    rw [this, if_pos h2]
theorem own_zero (W : World) (base : Nat) (hb : base ≤ W.heap.size) : (W.alloc (.cells #[] 3)).ownsRow base 3 1 (.slice (some ⟨W.heap.size, 0, none⟩) 0 0) 0 [] := by
  refine ⟨rfl, .inr ⟨W.heap.size, 0, #[], rfl, hb, ?_, Nat.le_refl _, Nat.zero_le _, rfl, rfl⟩⟩
  rw [blk_alloc_new]

set_option maxRecDepth 100000 in
set_option maxHeartbeats 4000000 in
theorem rburn_any (w : World) (n m : Nat) (ev hv : Value) (A B : Nat → Int) (hp : Nat → Int) (hE : PairsAt w ev m A B) (hm : m ≤ 20) (hn : n ≤ 8) (hn1 : 1 ≤ n) (hh : IntsAt w hv (n - 1) hp) :
    Calls Try.prog 72 #[.int .i64 n, ev, hv] w (RBurnPost w n (burnAll n (btwN A B m) hp)) := by
  have hJ : ∀ i j, i < n → j < n → btwN A B m i j ≤ 40 := fun i j _ _ => Nat.le_trans (btw_le A B m i j) (by omega)
  obtain ⟨a2, bb2, o2, cap2, rfl, ha2, hc2⟩ := hh
  have hmk := fun w => mkBools (n : Int) n rfl (by omega) w
  obtain ⟨i0, hi, hz0, hz1, hz2⟩ := info_parts Try.info3
  go_enter Try.func72, Try.ntmps72
  have hn0 : (0 : Int) < n := by omega
  have hm0 := made_get (.bool false) n 0 (by omega)
  have hrow := (row_made_set w (.bool false) (.bool true) n 0 4).congr (g := fun i => .bool (decide (i = 0))) (fun i _ => by by_cases e : i = 0 <;> simp [e])
  have hown := own_zero (w.alloc (.cells ((madeCells #[.bool false] n).setIfInBounds 0 (.bool true)) 4)) (w.heap.size + 1) (by simp)
  rw [nblk_alloc] at hown
  have HR := Lib.hid (hrow.alloc (.cells #[] 3))
  have HO := Lib.hid hown
  clear hrow hown
  go_wp2_with fail
  have hK0 : Kept w ((w.alloc (.cells ((madeCells #[.bool false] n).setIfInBounds 0 (.bool true)) 4)).alloc (.cells #[] 3)) := ((Kept.refl w).alloc _).alloc _
  have hs0 : w.heap.size + 1 ≤ ((w.alloc (.cells ((madeCells #[.bool false] n).setIfInBounds 0 (.bool true)) 4)).alloc (.cells #[] 3)).heap.size := by simp
  have hR0 := HR.out
  have hO0 := HO.out
  clear HR HO hm0
  generalize (w.alloc (.cells ((madeCells #[.bool false] n).setIfInBounds 0 (.bool true)) 4)).alloc (.cells #[] 3) = W0 at *
  go_loopg [9] n (fun g ov wr => ∃ (b : Nat → Bool) (l : List Nat), cold b n ≤ g ∧ l.length + g = n ∧ b 0 = true ∧ Hid (burnL n (btwN A B m) hp g b l = burnAll n (btwN A B m) hp) ∧ Kept w wr ∧
    wr.rowIs w.heap.size 4 n (fun i => .bool (b i)) ∧ wr.ownsRow (w.heap.size + 1) 3 1 ov l.length (nats l) ∧ w.heap.size + 1 ≤ wr.heap.size)
  case atStart => exact ⟨fun i => decide (i = 0), [], cnt_le _ _, by simp, rfl, rfl, hK0, hR0, hO0, hs0⟩
  case round =>
    obtain ⟨b, l, hcold, hlen, hb0, hH, hK, hR, hO, hsz⟩ := hrel
    obtain ⟨oa, ocap, rfl⟩ := own_shape hO
    clear hK0 hR0 hO0 hs0 hmk
    go_wp2_with fail
    obtain ⟨Wo, rfl⟩ : ∃ Wo : World, Wo = wr := ⟨_, rfl⟩
    have hw1 : IntKind.i64.wrap ((n : Int) - 1) = (n : Int) - 1 := IntWalk.i64_in _ (by omega)
    go_loopg [10, 11] n (fun g nx vv wi => ∃ k c : Nat, k < n ∧ g = k + 1 ∧ vv = .int .i64 k ∧ nx = .int .i64 c ∧ c < n ∧ NextOk (hot n (btwN A B m) hp b) n k c ∧ Wo = wi)
    case atStart => exact ⟨n - 1, 0, by omega, by omega, by go_num, rfl, by omega, Or.inl ⟨rfl, fun u _ _ => by omega⟩, rfl⟩
    case round =>
      obtain ⟨k, c, hk, rfl, rfl, rfl, hcn, hN, rfl⟩ := hrel
      have HN := Lib.hid hN
      clear hN
      by_cases hk0 : 1 ≤ k
      · obtain rfl := ha2 (by omega)
        go_wp2_with fail
        obtain ⟨Wi, rfl⟩ : ∃ Wi : World, Wi = Wo := ⟨_, rfl⟩
        go_loopg [12, 13] n (fun g cc uu wj => ∃ u : Nat, u ≤ n ∧ g = n - u ∧ uu = .int .i64 u ∧ cc = .int .i64 (sumN (fun i => if b i then 0 else btwN A B m k i) u) ∧ Wi = wj)
        case atStart => exact ⟨0, Nat.zero_le _, rfl, rfl, rfl, rfl⟩
        case round =>
          obtain ⟨u, hu, rfl, rfl, rfl, rfl⟩ := hrel
          by_cases hlt : u < n
          · have h1 := hR.cell hlt
            have hs := sumN_le (fun i => if b i then 0 else btwN A B m k i) 40 u (fun i hi => by have := hJ k i hk (by omega); show (if b i then 0 else btwN A B m k i) ≤ 40; split <;> omega)
            have hj : btw A B m (k : Int) (u : Int) ≤ 40 := hJ k u hk hlt
            have hEk := hE.kept hK
            cases e1 : b u
            · rw [e1] at h1
              go_wp2_with (go_at_call 58; refine (between_any _ _ m A B (k : Int) (u : Int) hEk (by omega)).mono ?_; rintro e w' ⟨rfl, rfl⟩)
              go_roundg (n - (u+1))
              case measure => omega
              case rel => exact ⟨u + 1, by omega, rfl, by go_num, (by simp only [sumN, e1]; show _ = Value.int .i64 ((_ + btw A B m k u : Nat) : Int); go_num), rfl⟩
            · rw [e1] at h1
              go_wp2_with fail
              go_roundg (n - (u+1))
              case measure => omega
              case rel => exact ⟨u + 1, by omega, rfl, by go_num, (by simp [sumN, e1]), rfl⟩
          · obtain rfl : u = n := by omega
            have h1 := hR.cell hk
            have h2 := hK.cellSome (hc2 (k - 1) (by omega))
            have hu0 := unb_le u (btwN A B m) b k hn hk hJ
            unfold unb at hu0
            have s1 : IntKind.i64.wrap ((k : Int) - 1) = (k : Int) - 1 := IntWalk.i64_in _ (by omega)
            have s2 : ((k : Int) - 1).toNat = k - 1 := by omega
            have s3 : (1 : Int) ≤ k := by omega
            have s4 : (k : Int) - 1 < ((u - 1 : Nat) : Int) := by omega
            cases e1 : b k
            · rw [e1] at h1
              by_cases e2 : ((sumN (fun i => if b i then 0 else btwN A B m k i) u : Nat) : Int) ≤ hp (k - 1)
              · have hit : hot u (btwN A B m) hp b k = true := by show (!b k && decide ((unb u (btwN A B m) b k : Int) ≤ hp (k - 1))) = true; rw [e1]; exact decide_eq_true e2
                have HIT := Lib.hid hit
                clear hit
                go_wp2_with fail
                go_roundg k
                case measure => omega
                case rel => exact ⟨k - 1, k, by omega, by omega, by go_num, rfl, hk, NextOk.hit hk0 hk HIT.out, rfl⟩
              · have e2' : hp (k - 1) < ((sumN (fun i => if b i then 0 else btwN A B m k i) u : Nat) : Int) := by omega
                have hit : hot u (btwN A B m) hp b k = false := by show (!b k && decide ((unb u (btwN A B m) b k : Int) ≤ hp (k - 1))) = false; rw [e1]; exact decide_eq_false (Int.not_le.2 e2')
                have HIT := Lib.hid hit
                clear hit
                go_wp2_with fail
                go_roundg k
                case measure => omega
                case rel => exact ⟨k - 1, c, by omega, by omega, by go_num, rfl, hcn, NextOk.miss HN.out hk0 HIT.out, rfl⟩
            · rw [e1] at h1
              have hit : hot u (btwN A B m) hp b k = false := by simp [hot, e1]
              have HIT := Lib.hid hit
              clear hit
              go_wp2_with fail
              go_roundg k
              case measure => omega
              case rel => exact ⟨k - 1, c, by omega, by omega, by go_num, rfl, hcn, NextOk.miss HN.out hk0 HIT.out, rfl⟩
      · obtain rfl : k = 0 := by omega
        have hc : c = catchV n (btwN A B m) hp b := HN.out.catchV hb0
        clear HN hk0
        by_cases hz : c = 0
        · have hz0 : burnL n (btwN A B m) hp gk b l = l := by
            cases gk with
            | zero => rfl
            | succ g => simp only [burnL]; rw [if_pos (by omega)]
          have Z := Lib.hid hz0
          subst hz
          have hl8 : l.length ≤ 8 := by omega
          have e3 : ((l.length : Int) == (n : Int) - 1) = decide (l.length = n - 1) := by rw [Bool.eq_iff_iff]; simp; omega
          clear hz0 hc
          go_wp2_with fail
          go_ret2
          exact ⟨.slice oa l.length ocap, by rw [← hH.out, Z.out, ← e3]; rfl, hK, by rw [← hH.out, Z.out]; exact own_base hO (by omega)⟩
        · have hlt : c < n := hcn
          have hcb : b c = false := by rw [hc]; exact catch_cold (by omega)
          have hg : 1 ≤ gk := by have := cold_upd hlt hcb; omega
          obtain ⟨g, rfl⟩ : ∃ g, gk = g + 1 := ⟨gk - 1, by omega⟩
          have hnext : burnL n (btwN A B m) hp (g + 1) b l = burnL n (btwN A B m) hp g (upd b c) (l ++ [c]) := by simp only [burnL]; rw [if_neg (by omega), ← hc]
          have HN : Hid (burnL n (btwN A B m) hp g (upd b c) (l ++ [c]) = burnAll n (btwN A B m) hp) := hnext.symm.trans hH.out
          have hcold' : cold (upd b c) n ≤ g := by have := cold_upd hlt hcb; omega
          have t1 := hR.cell hlt
          have t2 := hR.frozen c
          have hR2 := (hR.set c (.bool true)).congr (g := fun i => .bool (upd b c i)) (fun i _ => by simp only [upd]; by_cases e : i = c <;> simp [e])
          have hO2 := ownsRow_setCell_below hO (a := ⟨w.heap.size, c, none⟩) (by show w.heap.size < w.heap.size + 1; omega) (.bool true)
          have hK2 : Kept w (Wo.setCell ⟨w.heap.size, c, none⟩ (.bool true)) := hK.setCell (by show w.heap.size ≤ w.heap.size; omega) _
          have hl8 : l.length + 1 ≤ 8 := by omega
          have hcI : (1 : Int) ≤ c := by omega
          clear hc hcold hnext hH hcb
          go_wp2_with (first | (at_builtin; refine wpList_append_own _ rfl _ _ 25 rfl (w.heap.size + 1) 3 i0 (.int .i64 0) 1 8 Try.underlying25 hi hz0 hz1 hz2 rfl (by decide) _ _ _ rfl (hO2.alloc _) ⟨Wo.heap.size, 0, none⟩ 1 1 [.int .i64 c] rfl rfl ?c1 ?c2 ?c3 ?c4 ?c5 ?_))
          case c1 =>
            have h := cell_one_new (Wo.setCell ⟨w.heap.size, c, none⟩ (.bool true)) (.int .i64 c) 3
            rw [nblk_setCell] at h
            exact h
          case c2 => simp [Value.oneCell']
          case c3 => unfold maxLen; omega
          case c4 => omega
          case c5 => simp; omega
          intro ov' w2 hO3 hgr _
          have hO3' : w2.ownsRow (w.heap.size + 1) 3 1 ov' (l ++ [c]).length (nats (l ++ [c])) := by
            rw [show nats (l ++ [c]) = nats l ++ [.int .i64 (c : Int)] by simp [nats], show (l ++ [c]).length = l.length + 1 by simp]; exact hO3
          have hX := grew_X hgr (hO2.alloc _)
          have hR3 := hX.row (hR2.alloc _) (by omega)
          have hK3 : Kept w w2 := (hK2.alloc _).step hX (fun i hi => by omega)
          have hs3 : w.heap.size + 1 ≤ w2.heap.size := by have := KeptX.size hX; simp at this; omega
          go_wp2_with fail
          go_roundg g
          case measure => omega
          case rel => exact ⟨upd b c, l ++ [c], hcold', by simp; omega, by simp [upd, hb0], HN, hK3, hR3, hO3', hs3⟩
end Go.Proofs.Ytlnpipkhofhlnaa
