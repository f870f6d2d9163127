/-
  The reference's colors, Colors.
-/
import Derived.Test.YtfbiinjpljmapaaDoorJc
import Derived.Test.YtfbiinjpljmapaaDoorJj
import Derived.Laws.AppendOwnNone
namespace Go.Proofs.YtfbiinjpljmapaaDoor
open Go.RowKit Go.Deep

theorem allN_congr {p q : Nat → Bool} {n : Nat} (h : ∀ i, i < n → p i = q i) : allN p n = allN q n := by
  induction n with
  | zero => rfl
  | succ n ih => simp only [allN]; rw [ih (fun i hi => h i (by omega)), h n (by omega)]
theorem diffB_adj {H : Nat → Nat} {F : Nat → Nat → Bool} {n : Nat} {l : List Nat} (c : Nat) (hl : l.length < n) (hF : ∀ i j, i < n → j < n → F i j = (H j).testBit i) :
    allN (fun i => !(lget l i == c) || !F i l.length) l.length = diffB H (lget (l ++ [c])) l.length l.length := by
  unfold diffB
  refine allN_congr fun i hi => ?_
  rw [lget_app, if_pos hi, lget_app, if_neg (by omega), if_pos rfl, hF i _ (by omega) hl]
  cases (H l.length).testBit i <;> cases (lget l i == c) <;> rfl
theorem nats_len (l : List Nat) : (nats l).length = l.length := by simp [nats]
theorem nats_one (l : List Nat) : ∀ v ∈ nats l, v.oneCell' = true := by
  intro v hv
  simp only [nats, List.mem_map] at hv
  obtain ⟨i, _, rfl⟩ := hv
  rfl
theorem NatsAt.news {w : World} {ad : Addr} {n cap : Nat} {l : List Nat} (h : NatsAt w (.slice (some ad) n cap) l) : ∀ j u, (nats l)[j]? = some u → w.cell? (ad.add j) = some u := by
  intro j u hu
  have hj : j < l.length := by
    rcases Nat.lt_or_ge j l.length with e | e
    · exact e
    · rw [List.getElem?_eq_none (by rw [nats_len]; exact e)] at hu; cases hu
  rw [nats_get hj] at hu
  cases hu
  obtain ⟨a, b', o', cap', e, ha, hc⟩ := h
  cases e
  have := ha (by omega)
  cases this
  rw [add_at]
  exact hc j hj
/-- what colors returns -/
def RColPost (w : World) (r : Option (List Nat)) (e : Ending) (w' : World) : Prop :=
  Kept w w' ∧ match r with
    | none => e = .returned (.slice none 0 0)
    | some d => ∃ (a : Addr) (cap : Nat), e = .returned (.slice (some a) d.length cap) ∧ NatsAt w' (.slice (some a) d.length cap) d
theorem rcol_none {w w' : World} {e : Ending} (h : RColPost w none e w') : Kept w w' ∧ e = .returned (.slice none 0 0) := h
theorem rcol_some {w w' : World} {e : Ending} {d : List Nat} (h : RColPost w (some d) e w') : Kept w w' ∧ ∃ (a : Addr) (cap : Nat), e = .returned (.slice (some a) d.length cap) ∧ NatsAt w' (.slice (some a) d.length cap) d := h
set_option maxRecDepth 100000 in
set_option maxHeartbeats 8000000 in
theorem refcolors_any (g n gcap few : Nat) (R : Nat → Nat) (F : Nat → Nat → Bool) (H : Nat → Nat) (hn1 : 1 ≤ n) (hn : n ≤ 14) (hfew : few ≤ 100) (hF : ∀ i j, i < n → j < n → F i j = (H j).testBit i) (f : Nat) : ∀ (W : World) (l : List Nat) (a : Option Addr) (cap : Nat), n = l.length + f → GridIn W 0 g n R F → NatsAt W (.slice a l.length cap) l → (a = none → l = [] ∧ cap = 0) →
    Calls Tryd.prog 41 #[.slice (some ⟨g, 0, none⟩) n gcap, .slice a l.length cap, .int .i64 few] W (RColPost W (paintL H few f l)) := by
  induction f with
  | zero =>
    intro W l a cap hl hG hL ha
    have e1 : ((l.length : Int) == (n : Int)) = true := by rw [nat_beq]; simp [hl]
    cases a with
    | none =>
      have := (ha rfl).1
      subst this
      simp at hl
      omega
    | some ad =>
      clear hG ha
      go_enter Tryd.func41, Tryd.ntmps41
      go_wp2_with fail
      go_ret
      exact ⟨Kept.refl _, _, _, rfl, hL⟩
  | succ f ih =>
    intro W l a cap hl hG hL ha
    obtain ⟨i0, hi, hz0, hz1, hz2⟩ := info_parts Tryd.info3
    obtain ⟨h, HHL⟩ : ∃ h, Hid (h = l.length) := ⟨_, rfl⟩
    have e1 : ((h : Int) == (n : Int)) = false := by rw [nat_beq, HHL.out]; simp; omega
    have hhn : h < n := by rw [HHL.out]; omega
    have IH := Lib.hid ih
    have HLN : Hid (n = l.length + (f + 1)) := hl
    have HL1 : Hid (RColPost W (paintTo H few f l few) = RColPost W (paintL H few (f + 1) l)) := rfl
    have hdf := Lib.hid (fun c => diffB_adj (H := H) (F := F) (n := n) (l := l) c (by omega) hF)
    have hxl : Hid (∀ i, i < h → ∃ ad2 b o, a = some ad2 ∧ ad2 = ⟨b, o, none⟩ ∧ W.cell? ⟨b, o + i, none⟩ = some (.int .i64 (lget l i : Nat))) := fun i hi => by
      obtain ⟨a', b, o, cap', e, ha', hc⟩ := hL
      cases e
      rw [HHL.out] at hi
      exact ⟨_, b, o, ha' (by omega), rfl, hc i hi⟩
    have HA := Lib.hid ha
    have hle : Hid (l = [] → h = 0) := fun e => by rw [HHL.out, e]; rfl
    rw [← HL1.out]
    rw [← HHL.out] at hL hdf ⊢
    clear hl ih HL1 ha
    go_enter Tryd.func41, Tryd.ntmps41
    go_wp2_with fail
    go_loopg [7] few (fun q s7 wr => ∃ c : Nat, c ≤ few ∧ q = few - c ∧ s7 = .int .i64 c ∧ Kept W wr ∧ Hid (paintTo H few f l c = none))
    case atStart => exact ⟨0, Nat.zero_le _, rfl, rfl, Kept.refl _, rfl⟩
    case round =>
      obtain ⟨c, hc, rfl, rfl, hK, hN⟩ := hrel
      by_cases hlt : c < few
      · have s1 : (c : Int) < (few : Int) := by omega
        have hst := Lib.hid (paintTo_succ H few f l c hN.out)
        have hG2 := hG.kept hK
        have hL2 := NatsAt.kept hL hK
        obtain ⟨db, HDB⟩ : ∃ db, Hid (db = diffB H (lget (l ++ [c])) l.length l.length) := ⟨_, rfl⟩
        have hd1 : Hid (allN (fun i => !(lget l i == c) || !F i h) h = db) := by
          show _ = _
          rw [HDB.out, hdf.out c, HHL.out]
        rw [← HDB.out] at hst
        clear HDB hN
        go_wp2_with fail
        go_loopg [8, 9] h (fun q s8 s9 wq => ∃ j : Nat, j ≤ h ∧ q = h - j ∧ s9 = .int .i64 j ∧ wr = wq ∧ s8 = .bool (allN (fun i => !(lget l i == c) || !F i h) j))
        case atStart => exact ⟨0, Nat.zero_le _, rfl, rfl, rfl, rfl⟩
        case round =>
          obtain ⟨j, hj, rfl, rfl, rfl, rfl⟩ := hrel
          by_cases hlt2 : j < h
          · have s2 : (j : Int) < (h : Int) := by omega
            have s3 : (0 : Int) ≤ (j : Int) := by omega
            obtain ⟨_, b, o, rfl, rfl, hcell⟩ := hxl.out j hlt2
            have t0 := hK.cellSome hcell
            have u0 := hG2.sl j (by omega)
            have y0 := (hG2.rw j (by omega)).cell (i := h) (by omega)
            have hnx : Hid (allN (fun i => !(lget l i == c) || !F i h) (j + 1) = (allN (fun i => !(lget l i == c) || !F i h) j && (!(lget l j == c) || !F j h))) := rfl
            obtain ⟨x, HX⟩ : ∃ x, Hid (x = lget l j) := ⟨_, rfl⟩
            rw [← HX.out] at t0 hnx
            obtain ⟨fb, HFB⟩ : ∃ x, Hid (x = F j h) := ⟨_, rfl⟩
            rw [← HFB.out] at y0 hnx
            obtain ⟨ok, HOK⟩ : ∃ x, Hid (x = allN (fun i => !(lget l i == c) || !F i h) j) := ⟨_, rfl⟩
            rw [← HOK.out] at hnx ⊢
            generalize R j = rj at *
            simp only [slV] at u0
            clear hcell HX HFB
            cases ok with
            | false =>
              go_wp2_with fail
              go_roundg (h - (j + 1))
              case measure => omega
              case rel => exact ⟨j + 1, by omega, rfl, by first | rfl | go_num, rfl, by rw [hnx.out]; rfl⟩
            | true =>
              by_cases e : x = c
              · have he : ((x : Int) == (c : Int)) = true := by rw [nat_beq]; simp [e]
                have he2 : (x == c) = true := by simp [e]
                rw [he2] at hnx
                cases fb with
                | false =>
                  go_wp2_with fail
                  go_roundg (h - (j + 1))
                  case measure => omega
                  case rel => exact ⟨j + 1, by omega, rfl, by first | rfl | go_num, rfl, by rw [hnx.out]; rfl⟩
                | true =>
                  go_wp2_with fail
                  go_roundg (h - (j + 1))
                  case measure => omega
                  case rel => exact ⟨j + 1, by omega, rfl, by first | rfl | go_num, rfl, by rw [hnx.out]; rfl⟩
              · have he : ((x : Int) == (c : Int)) = false := by rw [nat_beq]; simp [e]
                have he2 : (x == c) = false := by simp [e]
                rw [he2] at hnx
                go_wp2_with fail
                go_roundg (h - (j + 1))
                case measure => omega
                case rel => exact ⟨j + 1, by omega, rfl, by first | rfl | go_num, rfl, by rw [hnx.out]; rfl⟩
          · have hjh : j = h := by omega
            subst hjh
            rw [hd1.out]
            cases db with
            | false =>
              go_wp2_with fail
              go_roundg (few - (c + 1))
              case measure => omega
              case rel => exact ⟨c + 1, by omega, rfl, by first | rfl | go_num, hK, by show _ = _; rw [hst.out]; rfl⟩
            | true =>
              have hO1 := own_zeroP wr wr.heap.size 3 1 (Nat.le_refl _)
              cases a with
              | none =>
                obtain ⟨hl0, rfl⟩ := HA.out rfl
                obtain rfl : j = 0 := hle.out hl0
                go_wp2_with (first | (at_builtin; refine wpList_append_own_none rfl _ _ 27 rfl wr.heap.size 3 i0 1 Tryd.underlying27 hi _ _ _ rfl hO1 rfl ?_) | (at_builtin; refine wpList_append_own _ rfl _ _ 27 rfl wr.heap.size 3 i0 (.int .i64 0) 1 8 Tryd.underlying27 hi hz0 hz1 hz2 rfl (by decide) _ _ _ rfl (hO1.alloc _) ⟨_, 0, none⟩ 1 1 [.int .i64 (c : Int)] rfl rfl ?c1 ?c2 ?c3 ?c4 ?c5 ?_))
                case c2 => simp [Value.oneCell']
                case c3 => unfold maxLen; omega
                case c5 => first | omega | (simp; omega)
                intro v2 w2 hO3 hgr2 hnn
                have hK3 := (Kept.refl wr).alloc (.cells #[] 3)
                have hK4 := (hK3.alloc (.cells #[.int .i64 (c : Int)] 3)).grew hgr2 (hO1.alloc _) (Nat.le_refl _)
                have hO4 : w2.ownsRow wr.heap.size 3 1 v2 (l ++ [c]).length (nats (l ++ [c])) := by
                  rw [nats_snoc]
                  have e2 : (l ++ [c]).length = 0 + 1 := by simp [hl0]
                  rw [e2]
                  rw [hl0]
                  simpa [nats] using hO3
                clear hO3
                have hL4 := NatsAt.of_own hO4
                obtain ⟨a4, cap4, e4⟩ := own_shape hO4
                subst e4
                have hna4 : a4 = none → l ++ [c] = [] ∧ cap4 = 0 := fun e => by
                  subst e
                  obtain ⟨hl5, h5⟩ := hO4
                  rcases h5 with ⟨e5, e6⟩ | ⟨_, _, _, e5, _⟩
                  · simp at hl5 e6
                  · cases e5
                have CC := Lib.hid (IH.out w2 (l ++ [c]) a4 cap4 (by simp; have := HLN.out; omega) (hG2.kept hK4) hL4 hna4)
                have hKW := hK.trans hK4
                obtain ⟨r, HRR⟩ : ∃ r, Hid (r = paintL H few f (l ++ [c])) := ⟨_, rfl⟩
                rw [← HRR.out] at CC
                have elen : (l ++ [c]).length = 0 + 1 := by simp [hl0]
                rw [elen] at CC
                clear hO4 hL4 hna4 hK4 hK hgr2 hnn hO1
                cases r with
                | none =>
                  go_wp2_with (first | (go_at_call 41; refine CC.out.mono ?_; clear CC; intro e w3 CQ; obtain ⟨hk3, rfl⟩ := rcol_none CQ; clear CQ))
                  go_roundg (few - (c + 1))
                  case measure => omega
                  case rel => exact ⟨c + 1, by omega, rfl, by first | rfl | go_num, hKW.trans hk3, by show _ = _; rw [hst.out, ← HRR.out]; rfl⟩
                | some d =>
                  have hyes : Hid (paintTo H few f l few = some d) := paintTo_some H few f l (c + 1) few (by omega) (by rw [hst.out, ← HRR.out]; rfl)
                  go_wp2_with (first | (go_at_call 41; refine CC.out.mono ?_; clear CC; intro e w3 CQ; obtain ⟨hk3, ar, capr, rfl, hD⟩ := rcol_some CQ; clear CQ))
                  go_ret
                  rw [hyes.out]
                  exact ⟨hKW.trans hk3, _, _, rfl, hD⟩
              | some ad =>
                have hS1 : Hid (∀ i u, (nats l)[i]? = some u → (wr.alloc (.cells #[] 3)).cell? (ad.add i) = some u) := NatsAt.news (NatsAt.kept hL2 ((Kept.refl wr).alloc _))
                go_wp2_with (first | (at_builtin; refine wpList_append_own _ rfl _ _ 27 rfl wr.heap.size 3 i0 (.int .i64 0) 1 8 Tryd.underlying27 hi hz0 hz1 hz2 rfl (by decide) _ _ _ rfl hO1 ad j cap (nats l) rfl ?b0 ?b1 ?b2 ?b3 ?b4 ?b5 ?_))
                case b0 => first | (simp [nats_len]; done) | (simp [nats_len, HHL.out]; done)
                case b1 => exact hS1.out
                case b2 => exact nats_one l
                case b3 => unfold maxLen; omega
                case b4 => omega
                intro v1 w1 hO2 hgr1 _
                have hK3 := ((Kept.refl wr).alloc (.cells #[] 3)).grew hgr1 hO1 (Nat.le_refl _)
                obtain ⟨va, vcap, rfl⟩ := own_shape hO2
                have hsz1 := hK3.size
                go_wp2_with (first | (at_builtin; refine wpList_append_own _ rfl _ _ 27 rfl wr.heap.size 3 i0 (.int .i64 0) 1 8 Tryd.underlying27 hi hz0 hz1 hz2 rfl (by decide) _ _ _ rfl (hO2.alloc _) ⟨_, 0, none⟩ 1 1 [.int .i64 (c : Int)] rfl rfl ?d1 ?d2 ?d3 ?d4 ?d5 ?_))
                case d1 => exact one_new _ _ (by simp) _ _
                case d2 => simp [Value.oneCell']
                case d3 => unfold maxLen; omega
                case d4 => omega
                case d5 => first | omega | (simp; omega)
                intro v2 w2 hO3 hgr2 hnn
                have hK4 := (hK3.alloc (.cells #[.int .i64 (c : Int)] 3)).grew hgr2 (hO2.alloc _) (Nat.le_refl _)
                have hO4 : w2.ownsRow wr.heap.size 3 1 v2 (l ++ [c]).length (nats (l ++ [c])) := by
                  rw [nats_snoc]
                  have e2 : (l ++ [c]).length = j + 1 := by simp [HHL.out]
                  rw [e2]
                  simpa using hO3
                clear hO3
                have hL4 := NatsAt.of_own hO4
                obtain ⟨a4, cap4, e4⟩ := own_shape hO4
                subst e4
                have hna4 : a4 = none → l ++ [c] = [] ∧ cap4 = 0 := fun e => by
                  subst e
                  obtain ⟨hl5, h5⟩ := hO4
                  rcases h5 with ⟨e5, e6⟩ | ⟨_, _, _, e5, _⟩
                  · simp at hl5 e6
                  · cases e5
                have CC := Lib.hid (IH.out w2 (l ++ [c]) a4 cap4 (by simp; have := HLN.out; omega) (hG2.kept hK4) hL4 hna4)
                have hKW := hK.trans hK4
                obtain ⟨r, HRR⟩ : ∃ r, Hid (r = paintL H few f (l ++ [c])) := ⟨_, rfl⟩
                rw [← HRR.out] at CC
                have elen : (l ++ [c]).length = j + 1 := by simp [HHL.out]
                rw [elen] at CC
                clear hO4 hL4 hna4 hK4 hK hgr2 hnn hO1 hO2 hgr1
                cases r with
                | none =>
                  go_wp2_with (first | (go_at_call 41; refine CC.out.mono ?_; clear CC; intro e w3 CQ; obtain ⟨hk3, rfl⟩ := rcol_none CQ; clear CQ))
                  go_roundg (few - (c + 1))
                  case measure => omega
                  case rel => exact ⟨c + 1, by omega, rfl, by first | rfl | go_num, hKW.trans hk3, by show _ = _; rw [hst.out, ← HRR.out]; rfl⟩
                | some d =>
                  have hyes : Hid (paintTo H few f l few = some d) := paintTo_some H few f l (c + 1) few (by omega) (by rw [hst.out, ← HRR.out]; rfl)
                  go_wp2_with (first | (go_at_call 41; refine CC.out.mono ?_; clear CC; intro e w3 CQ; obtain ⟨hk3, ar, capr, rfl, hD⟩ := rcol_some CQ; clear CQ))
                  go_ret
                  rw [hyes.out]
                  exact ⟨hKW.trans hk3, _, _, rfl, hD⟩
      · obtain rfl : c = few := by omega
        go_wp2_with fail
        go_ret
        rw [hN.out]
        exact ⟨hK, rfl⟩
end Go.Proofs.YtfbiinjpljmapaaDoor
