/-
  The law HeapAny, walked.
-/
import Derived.Test.YtapfiokijapomaaBa
import Derived.Test.YtapfiokijapomaaOt
import Derived.Test.YtapfiokijapomaaLi
import Derived.Test.YtapfiokijapomaaBu
import Derived.Test.YtapfiokijapomaaLg
namespace Go.Proofs.Ytapfiokijapomaa
open Go.RowKit Go.Deep

/-- the heaps after one toppling -/
theorem topR_one {A B : Nat → Int} {m v n : Nat} {f : Nat → Int} (u : Nat) (hu1 : 1 ≤ u) (hu : u < n) (hv1 : 1 ≤ v) : atV (topR A B m v 1 n f) u = (if u = v then atV f v - (degN A B m v : Int) else atV f u + (btwN A B m v u : Int)) := by
  have e1 : atV (topR A B m v 1 n f) u = topR A B m v 1 n f (u - 1) := if_neg (by omega)
  have e2 : atV f v = f (v - 1) := if_neg (by omega)
  have e3 : atV f u = f (u - 1) := if_neg (by omega)
  rw [e1, e2, e3]
  unfold topR
  rw [show u - 1 + 1 = u by omega]
  by_cases e : u = v
  · subst e; rw [if_pos rfl, if_pos rfl]; omega
  · rw [if_neg e, if_neg e, if_pos hu]; omega
theorem holds_mk {N : Nat} {f : Nat → Int} (h : ∀ i, i < N → 0 ≤ f i ∧ f i ≤ 1000) : holdsB (N + 1) 0 N f = true := by
  unfold holdsB
  simp only [Nat.add_sub_cancel, decide_true, Bool.true_and]
  exact allN_true.2 (fun i hi => by have := h i hi; simp; omega)
theorem Settle_good (w : World) (N : Nat) (ev hv : Value) (A B : Nat → Int) (m : Nat) (hp : Nat → Int) (hE : PairsAt w ev m A B) (hH : IntsAt w hv N hp) (hm : m ≤ 1000000) (hg : goodB ((N + 1 : Nat) : Int) A B m = true) (hr : ∀ i, i < N → 0 ≤ hp i ∧ hp i ≤ 1000) :
    Calls Try.prog 17 #[.int .i64 ((N : Int) + 1), ev, hv] w fun e w' => ∃ (r t : Nat) (f x : Nat → Int), e = .returned (.tuple #[.slice (some ⟨r, 1, none⟩) N N, .slice (some ⟨t, 0, none⟩) N N, .int .i64 0]) ∧ Kept w w' ∧ w.heap.size ≤ r ∧ w.heap.size ≤ t ∧ r ≠ t ∧
      IntsAt w' (.slice (some ⟨r, 1, none⟩) N N) N (fun i => f (i + 1)) ∧ w'.rowIs t 3 N (fun i => .int .i64 (x (i + 1))) ∧ Odo (N + 1) (degN A B m) (btwN A B m) (atV hp) x ∧ (∀ u, u < N + 1 → f u = fin (N + 1) (degN A B m) (btwN A B m) (atV hp) x u) ∧ (∀ u, u < N + 1 → 0 ≤ f u) ∧ ∀ u, u < N + 1 → x u ≤ 1125899906842624 := by
  refine (Settle_any w ((N + 1 : Nat) : Int) ev hv A B m N hp hE hH hm).mono ?_
  rintro e w' ⟨hk, h1, _⟩
  have hc : code1 ((N + 1 : Nat) : Int) A B m 0 N hp = 0 := code1_ok hg (holds_mk hr)
  obtain ⟨r, t, f, x, rfl, h2, h3, h4, h5, h6, h7, h8, h9⟩ := h1 hc
  obtain ⟨ok, ⟨p, hpk⟩, _, _⟩ := good_ok hg
  simp only [Int.toNat_natCast] at ok hpk
  obtain ⟨y, hy, hyB⟩ := hpk.stab (D := degN A B m) (h := atV hp) (K := 1000) ok (by omega) (fun v hv => by
    have := ok.n8
    unfold atV
    by_cases e : v = 0
    · rw [if_pos e]; omega
    · rw [if_neg e]; exact (hr (v - 1) (by omega)).2)
  exact ⟨r, t, f, x, rfl, hk, h2, h3, h4, CellsAt.of_row1 h5, h6, h7, h8, h9, fun u hu => Int.le_trans (h7.2 y hy u hu) (Int.le_trans (hyB u hu) (by decide))⟩

set_option maxRecDepth 100000 in
set_option maxHeartbeats 8000000 in
theorem anys_any (w : World) (nn : Nat) (xa za : Option Addr) (q qcap zq zcap : Nat) (X Y Z : Nat → Nat) (hnn : nn < 256) (hx : Bytes2At w (.slice xa q qcap) q X Y) (hX : ∀ i, X i < 256) (hY : ∀ i, Y i < 256) (hq : q ≤ maxLen)
    (hz : BytesAt w (.slice za zq zcap) zq Z) (hZ : ∀ i, Z i < 256) (hzq : zq ≤ maxLen) :
    Calls Try.prog 9 #[.agg #[.int .u8 nn, .slice xa q qcap], .slice za zq zcap] w (LivesPost w) := by
  have hK0 : Kept w (w.alloc (.cells #[.int .u8 nn, .slice xa q qcap] 63)) := (Kept.refl w).alloc _
  go_enter Try.func9, Try.ntmps9
  go_wp2_with fail
  refine (made_any _ xa q qcap nn 8 X Y (hx.kept hK0) hX hY hq hnn (by omega) (by omega)).mono ?_
  rintro e w1 ⟨k, m, ea, ecap, A, B, rfl, hE1, hk1, hk2, hk8, hm19, hgood⟩
  obtain ⟨N, rfl⟩ : ∃ N, k = N + 1 := ⟨k - 1, by omega⟩
  have hK1 := hK0.trans hk1
  have hz1 := CellsAt.kept hz hK1
  clear hK0 hk1 hz hx hX hY
  go_wp2_with fail
  refine (bars_any _ za zq zcap N Z hz1 hZ hzq (by omega)).mono ?_
  rintro e w2 ⟨ha, hcap, rfl, hH2, hk3⟩
  have hE2 := hE1.kept hk3
  have hK2 := hK1.trans hk3
  have hr : ∀ i, i < N → 0 ≤ barF zq Z i ∧ barF zq Z i ≤ 255 := fun i _ => barF_bd hZ i
  obtain ⟨hp, HHP⟩ : ∃ hp, Hid (hp = barF zq Z) := ⟨_, rfl⟩
  rw [← HHP.out] at hr hH2
  clear hz1 hE1 hk3 hK1 hZ HHP
  go_wp2_with fail
  refine (Settle_good _ N _ _ A B m hp hE2 hH2 (by omega) hgood (fun i hi => ⟨(hr i hi).1, by have := (hr i hi).2; omega⟩)).mono ?_
  rintro e w3 ⟨r, t, f, x, rfl, hk4, _, _, _, hS3, hT3, hodo, hf, hf0, _⟩
  have hE3 := hE2.kept hk4
  have hH3 := hH2.kept hk4
  have hK3 := hK2.trans hk4
  have hT3' : IntsAt w3 (.slice (some ⟨t, 0, none⟩) N N) N (fun i => x (i + 1)) := CellsAt.of_row hT3
  have htl := hT3.lt
  obtain ⟨ok, _, _, _⟩ := good_ok hgood
  simp only [Int.toNat_natCast] at ok
  have hn8 := ok.n8
  have hst : ∀ u, 1 ≤ u → u < N + 1 → f u < (degN A B m u : Int) := fun u h1 h2 => by rw [hf u h2]; exact hodo.1.2.2 u h1 h2
  have hdl : ∀ u, degN A B m u ≤ 19 := fun u => Nat.le_trans (cnt_le _ _) hm19
  have c1 : (allN (fun i => decide (0 ≤ f (i + 1)) && decide (f (i + 1) ≤ 1000)) N && decide ((N : Int) = ((N : Int) + 1) - 1)) = true := by
    rw [Bool.and_eq_true]
    refine ⟨allN_true.2 (fun i hi => ?_), by simp⟩
    have h1 := hf0 (i + 1) (by omega)
    have h2 := hst (i + 1) (by omega) (by omega)
    have h3 := hdl (i + 1)
    simp
    omega
  have c2 : allN (fun i => decide (f (i + 1) < deg A B m ((i : Int) + 1))) N = true := allN_true.2 (fun i hi => by
    have h2 := hst (i + 1) (by omega) (by omega)
    exact decide_eq_true h2)
  have HC1 := Lib.hid c1
  have HC2 := Lib.hid c2
  have HR := Lib.hid hr
  have HDL := Lib.hid hdl
  have HF := Lib.hid hf
  have e1 : ((N : Int) != (N : Int) + 1 - 1) = false := by simp
  have e2 : ((N : Int) == (N : Int) + 1 - 1) = true := by simp
  clear hE2 hH2 hk4 hK2 hT3 c1 c2 hr hst hdl hf0 hf e1 e2
  go_wp2_with fail
  refine (heaps_any _ _ ((N : Int) + 1) 0 N _ hS3 (by omega) (by omega) (by omega)).mono ?_
  rw [HC1.out]
  rintro e w4 ⟨rfl, hq4⟩
  have hk4 := hq4.kept
  have hS4 := hS3.kept hk4
  have hE4 := hE3.kept hk4
  clear hq4
  go_wp2_with fail
  refine (settled_any _ _ _ m A B N _ hE4 hS4 (by omega) (by omega)).mono ?_
  rw [HC2.out]
  rintro e w5 ⟨rfl, hq5⟩
  have hk5 := hk4.trans hq5.kept
  clear hq5 hS4 hE4 hk4
  go_wp2_with fail
  refine (lives_any _).mono ?_
  rintro e w6 ⟨rfl, hk6⟩
  have hk7 := hk5.trans hk6
  have hE6 := hE3.kept hk7
  have hH6 := hH3.kept hk7
  have hS6 := hS3.kept hk7
  have hT6 := hT3'.kept hk7
  have hK6 := hK3.trans hk7
  have htl6 : t < w6.heap.size := by have := Kept.size hk7; omega
  clear hE3 hH3 hS3 hT3' hK3 hk5 hk6 hk7 htl
  go_wp2_with fail
  go_loopg [11] N (fun g s11 wr => ∃ v : Nat, v ≤ N ∧ g = N - v ∧ s11 = .int .i64 ((v : Int) + 1) ∧ Kept w6 wr)
  case atStart => exact ⟨0, by omega, by omega, rfl, Kept.refl _⟩
  case round =>
    obtain ⟨v, hvN, rfl, rfl, hK⟩ := hrel
    have hE := hE6.kept hK
    have hH := hH6.kept hK
    have hS := hS6.kept hK
    have hT := hT6.kept hK
    have htw : t < wr.heap.size := by have := Kept.size hK; omega
    have s3 : (0 : Int) ≤ (v : Int) := by omega
    by_cases hlt : v < N
    · obtain ⟨_, hb, ho, _, he, hha, hhc⟩ := hH
      cases he
      obtain rfl := hha (by omega)
      have t1 := hhc v hlt
      have hH' : IntsAt wr (.slice (some ⟨hb, ho, none⟩) N hcap) N hp := ⟨_, hb, ho, hcap, rfl, fun _ => rfl, hhc⟩
      have s4 : (v : Int) < (N : Int) := by omega
      obtain ⟨dv, HDV⟩ : ∃ dv, Hid (dv = deg A B m ((v : Int) + 1)) := ⟨_, rfl⟩
      have hdv : dv ≤ 19 := by rw [HDV.out]; exact HDL.out (v + 1)
      clear hhc hha
      by_cases hle : hp v < (dv : Int)
      · go_wp2_with fail
        go_quiet ((go_at_call 45; exact quietS (degree_at _ _ m A B _ dv HDV.out (hE.dN _) (by omega))))
        go_wp2_with fail
        go_roundg (N - (v + 1))
        case measure => omega
        case rel => exact ⟨v + 1, by omega, rfl, by go_num, hK.drewN _⟩
      · have hge : (dv : Int) ≤ hp v := Int.not_lt.1 hle
        go_wp2_with fail
        go_quiet ((go_at_call 45; exact quietS (degree_at _ _ m A B _ dv HDV.out (hE.dN _) (by omega))))
        go_wp2_with fail
        have hK2 : Kept wr (wr.drewN nq) := (Kept.refl wr).drewN _
        have hKa := hK.trans hK2
        have hEa := hE.kept hK2
        have hHa := hH'.kept hK2
        have hSa := hS.kept hK2
        have hTa := hT.kept hK2
        have htwa : t < (wr.drewN nq).heap.size := htw
        clear hE hH' hS hT htw hK2 t1 s4 hle
        generalize wr.drewN nq = W7 at *
        have HG := Lib.hid hge
        have hr := HR.out
        have hcast : (((v + 1 : Nat)) : Int) = (v : Int) + 1 := rfl
        have HTOP := toppled_at W7 N m (v + 1) 1 _ _ hcap A B hp hEa (by omega) hn8 (by omega) (by omega) hHa (fun i hi => ⟨(hr i hi).1, by have := (hr i hi).2; omega⟩) (by omega) (by omega)
        rw [hcast] at HTOP
        refine HTOP.mono ?_
        rintro e w8 ⟨b2, cap2, rfl, hO8, hk8, hb2⟩
        have hH8 := ints_at hO8
        have hE8 := hEa.kept hk8
        have hS8 := hSa.kept hk8
        have hT8 := hTa.kept hk8
        have hK8 := hKa.trans hk8
        have htw8 : t < w8.heap.size := by have := Kept.size hk8; omega
        have hbd : ∀ i, i < N → 0 ≤ topR A B m (v + 1) 1 (N + 1) hp i ∧ topR A B m (v + 1) 1 (N + 1) hp i ≤ 1000 := fun i hi => by
          have h1 := hr i hi
          have h2 := HDL.out (v + 1)
          have h3 : btwN A B m (v + 1) (i + 1) ≤ 20 := Nat.le_trans (btw_le A B m _ _) (by omega)
          have h4 : degN A B m (v + 1) = dv := HDV.out.symm
          have h5 := HG.out
          unfold topR
          by_cases e : i + 1 = v + 1
          · obtain rfl : i = v := by omega
            rw [if_pos e, h4]; omega
          · rw [if_neg e, if_pos (by omega)]; omega
        have HBD := Lib.hid hbd
        clear HTOP hbd hr hEa hHa hSa hTa hO8 hk8 hKa htwa hge
        go_wp2_with fail
        refine (Settle_good _ N _ _ A B m _ hE8 hH8 (by omega) hgood HBD.out).mono ?_
        rintro e w9 ⟨r2, t2, f2, x2, rfl, hk9, _, ht2, _, hS9', hT9', hodo2, hf2, _, hxb2⟩
        have hS9 := hS8.kept hk9
        have hT9 := hT8.kept hk9
        have hK9 := hK8.trans hk9
        have hne : t ≠ t2 := by omega
        have hv8 : w6.heap.size ≤ t2 := by have := Kept.size hK8; omega
        obtain ⟨ho1, ho2⟩ := odo_topple (h' := atV (topR A B m (v + 1) 1 (N + 1) hp)) ok hodo (v := v + 1) (by omega) (by omega) (by
          have h4 : degN A B m (v + 1) = dv := HDV.out.symm
          have h5 := HG.out
          rw [h4]
          show (dv : Int) ≤ hp (v + 1 - 1)
          rw [Nat.add_sub_cancel]; exact h5) (fun u h1 h2 => topR_one u h1 h2 (by omega))
        have hxu := Odo.unique hodo2 ho1
        have hSS : ∀ i, i < N → f2 (i + 1) = f (i + 1) := fun i hi => by
          rw [hf2 _ (by omega), HF.out _ (by omega), fin_congr hxu (by omega), ho2 (i + 1) (by omega) (by omega)]
        have hTT : ∀ i, i < N → (if i = v then x2 (v + 1) + 1 else x2 (i + 1)) = x (i + 1) := fun i hi => by
          rw [hxu (i + 1) (by omega), hxu (v + 1) (by omega)]
          unfold addAt
          by_cases e : i = v
          · subst e; rw [if_pos rfl, if_pos rfl]; omega
          · rw [if_neg e, if_neg (by omega)]; omega
        have HSS := Lib.hid hSS
        have HTT := Lib.hid hTT
        have hx0 := hodo2.1.2.1 (v + 1) (by omega)
        have hxb := hxb2 (v + 1) (by omega)
        have s4 : (v : Int) < (N : Int) := by omega
        have s5 : IntKind.i64.wrap (x2 (v + 1) + 1) = x2 (v + 1) + 1 := IntWalk.i64_in _ (by omega)
        clear hxb hxb2 hSS hTT hf2 hE8 hH8 hS8 hT8 hK8 hxu ho1 ho2 hodo2 hx0
        go_wp2_with fail
        refine (same_yes _ _ _ N _ _ hS9' hS9 (by omega) HSS.out).mono ?_
        rintro e w10 ⟨rfl, hk10⟩
        have hT10 := hk10.row hT9'
        have hK10 := hK9.trans hk10
        have t1 := hT10.cell hlt
        have t3 := hT10.frozen v
        have hKw : Kept w6 (w10.setCell ⟨t2, v, none⟩ (.int .i64 (x2 (v + 1) + 1))) := hK10.setCell (p := ⟨t2, v, none⟩) hv8 _
        have hT11 := hT6.kept hKw
        have hW11 : IntsAt (w10.setCell ⟨t2, v, none⟩ (.int .i64 (x2 (v + 1) + 1))) (.slice (some ⟨t2, 0, none⟩) N N) N (fun i => if i = v then x2 (v + 1) + 1 else x2 (i + 1)) :=
          (CellsAt.of_row (hT10.set v (.int .i64 (x2 (v + 1) + 1)))).congr (fun i _ => by by_cases e : i = v <;> simp [e])
        clear hT10 hK10 hT9' hT9 hS9 hS9' hK9 hk9 hk10
        go_wp2_with fail
        refine (same_yes _ _ _ N _ _ hW11 hT11 (by omega) HTT.out).mono ?_
        rintro e w12 ⟨rfl, hk12⟩
        go_wp2_with fail
        go_roundg (N - (v + 1))
        case measure => omega
        case rel => exact ⟨v + 1, by omega, rfl, by go_num, hKw.trans hk12⟩
    · obtain rfl : v = N := by omega
      go_wp2_with fail
      go_ret
      exact ⟨rfl, hK6.trans hK⟩
end Go.Proofs.Ytapfiokijapomaa
