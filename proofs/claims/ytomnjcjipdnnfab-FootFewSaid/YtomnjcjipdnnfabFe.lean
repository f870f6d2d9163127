/-
  The law FootFew: its walk.
-/
import Derived.Test.YtomnjcjipdnnfabIs
import Derived.Test.YtomnjcjipdnnfabGd
import Derived.Test.YtomnjcjipdnnfabWa
namespace Go.Proofs.Ytomnjcjipdnnfab
open Go.RowKit Go.Deep

theorem Short_good (w : World) (m cap : Nat) (a : Option Addr) (X Y : Nat → Int) (limit : Int) (hA : PairsAt w (.slice a m cap) m X Y) (hR : InR m X Y) (hm1 : 1 ≤ m) (hm2 : m ≤ 30) (hcap : m ≤ cap) (hl : 0 ≤ limit) :
    Calls Try.prog 10 #[.slice a m cap, .int .i64 limit] w fun e w' => ∃ v, e = .returned (.tuple #[v, .int .i64 0]) ∧ ShortAt w' m (SkipsAt X Y limit) v ∧ Kept w w' := by
  refine (Short_any w m cap a X Y limit hA (by omega) hcap).mono ?_
  rintro e w' ⟨hk, hr, _⟩
  obtain ⟨v, h1, h2⟩ := hr (code1_good hm2 (inR_form hR hm1) hl)
  exact ⟨v, h1, h2, hk⟩
/-- what the law's last loop makes: the points of the short form -/
def subF (X : Nat → Int) (s : Nat → Nat) : Nat → Int := fun t => X (s t)
set_option maxRecDepth 100000 in
set_option maxHeartbeats 8000000 in
theorem few_any (w : World) (xa : Option Addr) (q qcap : Nat) (X Y : Nat → Int) (limit more : Nat) (hx : Int8sAt w (.slice xa q qcap) q X Y) (hX : small X) (hY : small Y) (hq : q ≤ maxLen) (hl : limit < 65536) (hm : more < 65536) :
    Calls Try.prog 4 #[.slice xa q qcap, .int .u16 limit, .int .u16 more] w (LivesPost w) := by
  obtain ⟨i1, hi0, hz0, hz1, hz2⟩ := info_parts Try.infoPoint
  go_enter Try.func4, Try.ntmps4
  go_wp2_with fail
  refine (made_any _ xa q qcap 30 X Y hx hX hY hq (by omega) (by omega)).mono ?_
  rintro e w1 ⟨g1, c1, rfl, hc1, hP1, hk1, _⟩
  have hb := madeN_bd (q := q) (most := 30) (by omega)
  have hR : InR (madeN q 30) (madeF q 1 X) (madeF q 2 Y) := made_in
  generalize madeN q 30 = m at *
  generalize madeF q 1 X = A at *
  generalize madeF q 2 Y = B at *
  obtain ⟨hm1, hm30⟩ := hb
  have HR := Lib.hid hR
  clear hx hX hY hq hR
  go_wp2_with fail
  refine (Short_good _ m _ _ A B (limit : Int) hP1 HR.out hm1 hm30 hc1 (by omega)).mono ?_
  rintro e w2 ⟨v2, rfl, hS2, hk2⟩
  have hP2 := hP1.kept hk2
  have hK2 := hk1.trans hk2
  have HS2 := Lib.hid hS2
  clear hP1 hk1 hk2 hS2
  go_wp2_with fail
  refine (Short_good _ m _ _ A B ((limit : Int) + more) hP2 HR.out hm1 hm30 hc1 (by omega)).mono ?_
  rintro e w3 ⟨v3, rfl, hS3, hk3⟩
  have hP3 := hP2.kept hk3
  have hK3 := hK2.trans hk3
  have hT2 := HS2.out.kept hk3
  have hle : ∃ (b1 b2 : Option Addr) (L1 L2 d1 d2 : Nat), v2 = .slice b1 L1 d1 ∧ v3 = .slice b2 L2 d2 ∧ L2 ≤ L1 := by
    obtain ⟨F, s, b1, d1, e1, _, h3, _⟩ := hT2
    obtain ⟨G, r, b2, d2, e2, _, g3, _⟩ := hS3
    refine ⟨b1, b2, _, _, d1, d2, e1, e2, ?_⟩
    have := few_le h3 g3 (fun i j _ _ h => skips_mono (by omega) h) (m - 1) 0 (by omega)
    omega
  have HT2 := Lib.hid hT2
  have HS3 := Lib.hid hS3
  clear hP2 hk3 hK2 HS2 hT2 hS3
  obtain ⟨b1, b2, L1, L2, d1, d2, rfl, rfl, hle⟩ := hle
  have hle2 : ¬ (L1 : Int) < (L2 : Int) := by omega
  go_wp2_with fail
  refine (isShort_any _ m _ _ A B (limit : Int) _ hP3 HR.out hm1 (by omega) (by omega) HT2.out).mono ?_
  rintro e w4 ⟨rfl, hk4⟩
  have hP4 := hP3.kept hk4
  have hK4 := hK3.trans hk4
  have hT4 := HT2.out.kept hk4
  have hS4 := HS3.out.kept hk4
  have HT4 := Lib.hid hT4
  have HS4 := Lib.hid hS4
  clear hP3 hK3 HT2 HS3 hT4 hS4
  go_wp2_with fail
  refine (isShort_any _ m _ _ A B ((limit : Int) + more) _ hP4 HR.out hm1 (by omega) (by omega) HS4.out).mono ?_
  rintro e w5 ⟨rfl, hk5⟩
  have hP5 := hP4.kept hk5
  have hK5 := hK4.trans hk5
  have hT5 := HT4.out.kept hk5
  have HT5 := Lib.hid hT5
  clear hP4 hK4 HT4 HS4 hT5
  go_wp2_with fail
  refine (lives_any _).mono ?_
  rintro e w6 ⟨rfl, hk6⟩
  have hP6 := hP5.kept hk6
  have hK6 := hK5.trans hk6
  have hT6 := HT5.out.kept hk6
  clear hP5 hK5 HT5
  obtain ⟨F, s, bb, dd, e1, hI, hF, hT⟩ := hT6
  injection e1 with q1 q2 q3
  subst q1
  subst q2
  subst q3
  have hbd := few_lt hF (fun i _ => skips_one i) (m - 1) 0 (by omega) (by omega)
  have hlast := short_last hF hT
  obtain ⟨T, HTT⟩ : ∃ T, Hid (T = F 0) := ⟨_, rfl⟩
  rw [← HTT.out] at hbd hlast hI hT hle ⊢
  clear hle2
  have hle2 : ¬ (((T + 1 : Nat) : Int) < (L2 : Int)) := by omega
  have hle3 : ¬ ((T : Int) + 1 < (L2 : Int)) := by omega
  have hle4 : ¬ (T + 1 < L2) := by omega
  have hle5 : decide (T + 1 < L2) = false := decide_eq_false hle4
  have hle6 : decide (((T + 1 : Nat) : Int) < (L2 : Int)) = false := decide_eq_false hle2
  obtain ⟨a3, b, o, cap3, eqa, ha, hc⟩ := hI
  cases eqa
  obtain rfl := ha (by omega)
  have HC := Lib.hid hc
  have hway := short_way (A := A) (B := B) (lim := (limit : Int)) (n := m) (T := T) (s := s) (by omega) (by omega) (fun t ht => (hT.next t ht).join) hT.low T 0 (by omega)
  rw [hT.zero] at hway
  have hfre : fre (T + 1) (subF A s) (subF B s) m A B ≤ (limit : Int) := way_rst (P := fun a => a ≤ (limit : Int)) (fun a b h1 h2 => Int.le_trans h2 h1) (F := distF (subF A s) (subF B s) A B) hway
  have HFR := Lib.hid hfre
  have HLO := Lib.hid hT.low
  clear hc ha hF hT hlast hway hfre HTT hle
  go_wp2_with fail
  obtain ⟨a7, b7, o7, cap7, eqb, ha7, hc7⟩ := hP6
  cases eqb
  have ha8 := ha7 (by omega)
  injection ha8 with ha8
  injection ha8 with ha9 ha10
  subst ha9
  subst ha10
  have HP := Lib.hid hc7
  have hP6' : PairsAt w6 (.slice (some ⟨g1, 0, none⟩) m c1) m A B := ⟨_, g1, 0, c1, rfl, fun _ => rfl, hc7⟩
  have HP6 := Lib.hid hP6'
  have hO0 := own_zeroT w6 w6.heap.size 38 2 (Nat.le_refl _)
  have hO1 : (w6.alloc (.cells #[] 38)).ownsRow w6.heap.size 38 2 (.slice (some ⟨w6.heap.size, 0, none⟩) 0 0) 0 (pairs (subF A s) (subF B s) 0) := hO0
  have hk0 : Kept w6 (w6.alloc (.cells #[] 38)) := (Kept.refl w6).alloc _
  have hsz0 : w6.heap.size ≤ (w6.alloc (.cells #[] 38)).heap.size := hk0.size
  clear hO0 hc7 ha7 hP6'
  generalize w6.alloc (.cells #[] 38) = W0 at *
  go_loopg [12, 13] (T + 1) (fun g s12 s13 wr => ∃ t : Nat, t ≤ T + 1 ∧ g = T + 1 - t ∧ s13 = .int .i64 t ∧ Kept w6 wr ∧ wr.ownsRow w6.heap.size 38 2 s12 t (pairs (subF A s) (subF B s) t))
  case atStart => exact ⟨0, Nat.zero_le _, rfl, rfl, hk0, hO1⟩
  case round =>
    obtain ⟨t, ht, rfl, rfl, hK, hO⟩ := hrel
    clear hO1 hk0 hsz0
    obtain ⟨oa, ocap, rfl, hoc, _⟩ := own_form hO
    by_cases hlt : t < T + 1
    · have hlo := HLO.out t (by omega)
      have hcell := HC.out t hlt
      obtain ⟨p0, p1⟩ := HP.out (s t) hlo
      have hxe : Hid (subF A s t = A (s t)) := rfl
      have hye : Hid (subF B s t = B (s t)) := rfl
      obtain ⟨c, HCC⟩ : ∃ c, Hid (c = s t) := ⟨_, rfl⟩
      rw [← HCC.out] at hlo hcell p0 p1 hxe hye
      obtain ⟨x, HX⟩ : ∃ x, Hid (x = A c) := ⟨_, rfl⟩
      obtain ⟨y, HY⟩ : ∃ y, Hid (y = B c) := ⟨_, rfl⟩
      rw [← HX.out] at p0 hxe
      rw [← HY.out] at p1 hye
      rw [Nat.zero_add] at p0 p1
      have t0 := hK.cellSome hcell
      have t1 := hK.cellSome p0
      have t2 := hK.cellSome p1
      have s1 : (t : Int) < ((T + 1 : Nat) : Int) := by omega
      have s1' : (t : Int) < (T : Int) + 1 := by omega
      have s2 : (c : Int) < (m : Int) := by omega
      have s3 : (0 : Int) ≤ (c : Int) := by omega
      have hsz : w6.heap.size ≤ wr.heap.size := hK.size
      have hb := box2 wr (.int .i64 x) (.int .i64 y) 38
      have hnews : ∀ (j : Nat) u, [Value.int .i64 x, .int .i64 y][j]? = some u → (wr.alloc (.cells #[.int .i64 x, .int .i64 y] 38)).cell? ((⟨wr.heap.size, 0, none⟩ : Addr).add j) = some u := fun j u h => by
        have : j = 0 ∨ j = 1 := by
          rcases Nat.lt_or_ge j 2 with e | e
          · omega
          · rw [List.getElem?_eq_none (by simp; omega)] at h; cases h
        rcases this with rfl | rfl
        · cases h; rw [add_at]; exact hb.1
        · cases h; rw [add_at]; exact hb.2
      have HN := Lib.hid hnews
      have HO := Lib.hid (hO.alloc (.cells #[.int .i64 x, .int .i64 y] 38))
      have hszA : w6.heap.size ≤ (wr.alloc (.cells #[.int .i64 x, .int .i64 y] 38)).heap.size := Kept.size (hK.alloc _)
      clear hcell p0 p1 hnews hb hO
      go_wp2_with (first | (at_builtin; refine wpList_append_own _ rfl _ _ 23 rfl w6.heap.size 38 i1 (.agg #[.int .i64 0, .int .i64 0]) 2 16 Try.underlying23 hi0 hz0 hz1 hz2 rfl (by decide) _ _ _ rfl HO.out ⟨wr.heap.size, 0, none⟩ 1 1 [.int .i64 x, .int .i64 y] rfl rfl HN.out (by simp [Value.oneCell']) ?c3 ?c4 hszA ?_))
      case c3 => unfold maxLen; omega
      case c4 => omega
      intro v' w2 hO3 hgr _
      have hK2 : Kept w6 w2 := (hK.alloc _).step (grew_X hgr HO.out) (fun i hi => hi)
      have hO4 : w2.ownsRow w6.heap.size 38 2 v' (t + 1) (pairs (subF A s) (subF B s) (t + 1)) := by rw [pairs_snoc, hxe.out, hye.out]; exact hO3
      clear HO HN hgr hO3 hK t0 t1 t2
      go_wp2_with fail
      go_roundg (T + 1 - (t + 1))
      case measure => omega
      case rel => exact ⟨t + 1, by omega, rfl, by go_num, hK2, hO4⟩
    · obtain rfl : t = T + 1 := by omega
      have hS7 := own_pairs hO
      have hR7 : InR (T + 1) (subF A s) (subF B s) := fun i hi => HR.out (s i) (HLO.out i (by omega))
      have hT2 : Two wr (T + 1) m _ _ (subF A s) (subF B s) A B := ⟨hS7, HP6.out.kept hK, hR7, HR.out, by omega, by omega, by omega, hm30⟩
      have hK7 := hK6.trans hK
      clear hO hS7 hR7 hK
      go_wp2_with fail
      refine (Within_good _ (T + 1) m _ _ _ _ A B (limit : Int) (by omega) true (decide_eq_true HFR.out) hT2).mono ?_
      rintro e w8 ⟨rfl, hk8⟩
      go_wp2_with fail
      go_ret
      exact ⟨rfl, hK7.trans hk8⟩
end Go.Proofs.Ytomnjcjipdnnfab
