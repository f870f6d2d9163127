/-
  Package herd: differs, paint, colors.
-/
import Derived.Test.YtlnlddnjalfamaaGreatDoorHe
namespace Go.Proofs.YtlnlddnjalfamaaGreatDoor
open Go.RowKit Go.Deep

abbrev SetsAt (w : World) (v : Value) (n : Nat) (H : Nat → Nat) : Prop := CellsAt w v n (fun i => setV (H i))
/-- has horse h another number than those before it with which it gets along -/
def diffB (H C : Nat → Nat) (h k : Nat) : Bool := allN (fun i => !((H h).testBit i && C i == C h)) k
set_option maxRecDepth 100000 in
set_option maxHeartbeats 4000000 in
theorem differs_any (w : World) (hv : Value) (c n h cap : Nat) (H C : Nat → Nat) (hS : SetsAt w hv n H) (hR : w.rowIs c 3 n (fun i => .int .i64 ((C i : Nat) : Int))) (hH : ∀ i, i < n → H i < 65536) (hh : h < n) (hn : n ≤ 14) :
    Calls Tryz.prog 115 #[hv, .slice (some ⟨c, 0, none⟩) n cap, .int .i64 h] w fun e w' => e = .returned (.bool (diffB H C h h)) ∧ Quiet w w' := by
  obtain ⟨a, b, o, cap2, rfl, ha, hc⟩ := hS
  obtain rfl := ha (by omega)
  have t0 := hc h hh
  simp only [setV] at t0
  have hl := hH h hh
  obtain ⟨s, HS⟩ : ∃ s, Hid (s = H h) := ⟨_, rfl⟩
  have r0 := hR.cell hh
  obtain ⟨x, HX⟩ : ∃ x, Hid (x = C h) := ⟨_, rfl⟩
  rw [← HX.out] at r0
  rw [← HS.out] at t0 hl
  have HH := Lib.hid (fun (W : World) (j : Nat) (hj : j ≤ 15) => has_any W s j hl hj)
  have h0 : (0 : Int) ≤ (h : Int) := by omega
  have h1 : (h : Int) < (n : Int) := by omega
  have HR := Lib.hid hR
  clear hc hH hR
  go_enter Tryz.func115, Tryz.ntmps115
  go_wp2_with fail
  go_loopg [9] h (fun g s9 wr => ∃ k : Nat, k ≤ h ∧ g = h - k ∧ s9 = .int .i64 k ∧ Quiet w wr ∧ Hid (diffB H C h k = true))
  case atStart => exact ⟨0, Nat.zero_le _, rfl, rfl, Quiet.refl w, rfl⟩
  case round =>
    obtain ⟨k, hk, rfl, rfl, hQ, hD⟩ := hrel
    by_cases hlt : k < h
    · have hKQ := hQ.kept
      have t0 := hKQ.cellSome t0
      have r0 := hKQ.cellSome r0
      have r1 := hKQ.cellSome (HR.out.cell (i := k) (by omega))
      obtain ⟨y, HY⟩ : ∃ y, Hid (y = C k) := ⟨_, rfl⟩
      rw [← HY.out] at r1
      have s1 : (k : Int) < (h : Int) := by omega
      have s2 : (0 : Int) ≤ (k : Int) := by omega
      have s3 : (k : Int) < (n : Int) := by omega
      have HA := Lib.hid (fun W => HH.out W k (by omega))
      obtain ⟨tb, HTB⟩ : ∃ tb, Hid (tb = s.testBit k) := ⟨_, rfl⟩
      rw [← HTB.out] at HA
      cases tb with
      | false =>
        have hD2 : Hid (diffB H C h (k + 1) = true) := allN_step hD.out (by simp only [← HS.out, ← HTB.out]; rfl)
        clear hD HTB HY
        go_wp2_with fail
        go_quiet ((go_at_call 73; exact quietS (HA.out _)))
        go_wp2_with fail
        go_roundg (h - (k + 1))
        case measure => omega
        case rel => exact ⟨k + 1, by omega, rfl, by go_num, hQ.drewN _, hD2.out⟩
      | true =>
        by_cases e : y = x
        · have hno : Hid (diffB H C h h = false) := allN_false hlt (by simp only [← HS.out, ← HTB.out, ← HX.out, ← HY.out, e]; simp)
          have he : ((y : Int) == (x : Int)) = true := by rw [nat_beq]; simp [e]
          clear hD HTB HY
          go_wp2_with fail
          go_quiet ((go_at_call 73; exact quietS (HA.out _)))
          go_wp2_with fail
          go_ret
          exact ⟨ret_bool hno.out.symm, hQ.drewN _⟩
        · have hD2 : Hid (diffB H C h (k + 1) = true) := allN_step hD.out (by simp only [← HS.out, ← HTB.out, ← HX.out, ← HY.out]; simp [e])
          have he : ((y : Int) == (x : Int)) = false := by rw [nat_beq]; simp [e]
          clear hD HTB HY
          go_wp2_with fail
          go_quiet ((go_at_call 73; exact quietS (HA.out _)))
          go_wp2_with fail
          go_roundg (h - (k + 1))
          case measure => omega
          case rel => exact ⟨k + 1, by omega, rfl, by go_num, hQ.drewN _, hD2.out⟩
    · obtain rfl : k = h := by omega
      go_wp2_with fail
      go_ret
      exact ⟨ret_bool hD.out.symm, hQ⟩
theorem diffB_congr {H C D : Nat → Nat} {h k : Nat} (hk : k ≤ h) (e : ∀ i, i ≤ h → C i = D i) : diffB H C h k = diffB H D h k := by
  induction k with
  | zero => rfl
  | succ k ih =>
    show (allN _ k && _) = (allN _ k && _)
    have h1 := ih (by omega)
    unfold diffB at h1
    rw [h1]
    simp only [e k (by omega), e h (Nat.le_refl _)]
def lget (l : List Nat) : Nat → Nat := fun i => l.getD i 0
theorem lget_app (l : List Nat) (c i : Nat) : lget (l ++ [c]) i = if i < l.length then lget l i else if i = l.length then c else 0 := by
  unfold lget
  rw [List.getD_eq_getElem?_getD, List.getElem?_append]
  by_cases h : i < l.length
  · rw [if_pos h, if_pos h, List.getD_eq_getElem?_getD]
  · rw [if_neg h, if_neg h]
    by_cases e : i = l.length
    · subst e; simp
    · rw [if_neg e, List.getElem?_eq_none (by simp; omega)]; rfl
/-- the first numbers below few that may follow l, for f more horses -/
def paintL (H : Nat → Nat) (few : Nat) : Nat → List Nat → Option (List Nat)
  | 0, l => some l
  | f + 1, l => (List.range few).findSome? fun c => if diffB H (lget (l ++ [c])) l.length l.length then paintL H few f (l ++ [c]) else none
def paintTo (H : Nat → Nat) (few f : Nat) (l : List Nat) (k : Nat) : Option (List Nat) := (List.range k).findSome? fun c => if diffB H (lget (l ++ [c])) l.length l.length then paintL H few f (l ++ [c]) else none
theorem paintTo_succ (H : Nat → Nat) (few f : Nat) (l : List Nat) (k : Nat) (h : paintTo H few f l k = none) : paintTo H few f l (k + 1) = if diffB H (lget (l ++ [k])) l.length l.length then paintL H few f (l ++ [k]) else none := by
  unfold paintTo at h ⊢
  rw [List.range_succ, List.findSome?_append, h]
  simp
theorem paintTo_some (H : Nat → Nat) (few f : Nat) (l : List Nat) (k m : Nat) {d : List Nat} (hkm : k ≤ m) (h : paintTo H few f l k = some d) : paintTo H few f l m = some d := by
  obtain ⟨e, rfl⟩ : ∃ e, m = k + e := ⟨m - k, by omega⟩
  clear hkm
  induction e with
  | zero => exact h
  | succ e ih =>
    unfold paintTo at ih ⊢
    rw [show k + (e + 1) = k + e + 1 by omega, List.range_succ, List.findSome?_append, ih]
    rfl
def PaintPost (w : World) (c n : Nat) (l : List Nat) (r : Option (List Nat)) (e : Ending) (w' : World) : Prop :=
  e = .returned (.bool r.isSome) ∧ KeptX (fun k => k = c) w w' ∧ ∃ C : Nat → Nat, w'.rowIs c 3 n (fun i => .int .i64 ((C i : Nat) : Int)) ∧ (∀ i, i < l.length → C i = lget l i) ∧ ∀ d, r = some d → ∀ i, i < n → C i = lget d i
set_option maxRecDepth 100000 in
set_option maxHeartbeats 4000000 in
theorem paint_any (g c n cap few : Nat) (H : Nat → Nat) (hH : ∀ i, i < n → H i < 65536) (hn : n ≤ 14) (hgc : g ≠ c) (hf1 : few ≤ 100) (f : Nat) : ∀ (w : World) (C : Nat → Nat) (l : List Nat), n = l.length + f → w.rowIs g 84 n (fun i => setV (H i)) → w.rowIs c 3 n (fun i => .int .i64 ((C i : Nat) : Int)) → (∀ i, i < l.length → C i = lget l i) →
    Calls Tryz.prog 102 #[.slice (some ⟨g, 0, none⟩) n cap, .slice (some ⟨c, 0, none⟩) n n, .int .i64 l.length, .int .i64 few] w (PaintPost w c n l (paintL H few f l)) := by
  induction f with
  | zero =>
    intro w C l hl hG hC hp
    have e1 : ((l.length : Int) == (n : Int)) = true := by rw [nat_beq]; simp [hl]
    go_enter Tryz.func102, Tryz.ntmps102
    go_wp2_with fail
    go_ret
    refine ⟨rfl, KeptX.refl _ _, C, hC, hp, fun d hd i hi => ?_⟩
    cases hd
    exact hp i (by omega)
  | succ f ih =>
    intro w C l hl hG hC hp
    obtain ⟨h, HHL⟩ : ∃ h, Hid (h = l.length) := ⟨_, rfl⟩
    have e1 : ((h : Int) == (n : Int)) = false := by rw [nat_beq, HHL.out]; simp; omega
    have hhn : h < n := by rw [HHL.out]; omega
    rw [← HHL.out] at hp
    have IH := Lib.hid ih
    have a0 : (0 : Int) ≤ (h : Int) := by omega
    have a1 : (h : Int) < (n : Int) := by omega
    have HPP : Hid (∀ i, i < h → C i = lget l i) := hp
    have HLN : Hid (n = l.length + (f + 1)) := hl
    have HL1 : Hid (PaintPost w c n l (paintTo H few f l few) = PaintPost w c n l (paintL H few (f + 1) l)) := rfl
    rw [← HL1.out]
    rw [← HHL.out]
    have hR0 := hC
    clear hp hl ih HL1 hC
    go_enter Tryz.func102, Tryz.ntmps102
    go_wp2_with fail
    go_loopg [15] few (fun q s15 wr => ∃ (k : Nat) (D : Nat → Nat), k ≤ few ∧ q = few - k ∧ s15 = .int .i64 k ∧ KeptX (fun k => k = c) w wr ∧ wr.rowIs c 3 n (fun i => .int .i64 ((D i : Nat) : Int)) ∧ Hid (∀ i, i < h → D i = lget l i) ∧ Hid (paintTo H few f l k = none))
    case atStart => exact ⟨0, C, Nat.zero_le _, rfl, rfl, KeptX.refl _ _, hR0, HPP.out, rfl⟩
    case round =>
      clear hR0
      obtain ⟨k, D, hk, rfl, rfl, hX, hR, hD, hN⟩ := hrel
      by_cases hlt : k < few
      · have s1 : (k : Int) < (few : Int) := by omega
        have f0 := hR.frozen h
        have t0 : ∃ z : Int, wr.cell? ⟨c, h, none⟩ = some (.int .i64 z) := ⟨_, hR.cell hhn⟩
        obtain ⟨z0, t0⟩ := t0
        have hG2 := hX.row hG hgc
        have hX2 := hX.setCell (p := ⟨c, h, none⟩) (Or.inl rfl) (.int .i64 ((k : Nat) : Int))
        have hG3 := hG2.setOther (a := ⟨c, h, none⟩) hgc (.int .i64 ((k : Nat) : Int))
        have hR2 := (hR.set h (.int .i64 ((k : Nat) : Int))).congr (g := fun i => .int .i64 (((if i = h then k else D i : Nat) : Nat) : Int)) (fun i _ => by
          by_cases e : i = h
          · simp [e]
          · simp [e])
        have hP2 : Hid (∀ i, i < h + 1 → (if i = h then k else D i) = lget (l ++ [k]) i) := fun i hi => by
          rw [lget_app, ← HHL.out]
          by_cases e : i = h
          · rw [if_pos e, if_neg (by omega), if_pos e]
          · rw [if_neg e, if_pos (by omega)]
            exact hD.out i (by omega)
        have DF := Lib.hid (differs_any (wr.setCell ⟨c, h, none⟩ (.int .i64 ((k : Nat) : Int))) (.slice (some ⟨g, 0, none⟩) n cap) c n h n H (fun i => if i = h then k else D i) (CellsAt.of_row hG3) hR2 hH hhn hn)
        obtain ⟨db, HDB⟩ : ∃ db, Hid (db = diffB H (fun i => if i = h then k else D i) h h) := ⟨_, rfl⟩
        rw [← HDB.out] at DF
        have HDB2 : Hid (db = diffB H (lget (l ++ [k])) l.length l.length) := by
          show _ = _
          rw [← HHL.out, HDB.out]
          exact diffB_congr (Nat.le_refl _) (fun i hi => hP2.out i (by omega))
        have hst := Lib.hid (paintTo_succ H few f l k hN.out)
        rw [← HDB2.out] at hst
        clear HDB HDB2 hD hR hN
        cases db with
        | false =>
          go_wp2_with (first | (go_at_call 115; refine DF.out.mono ?_; rintro e w2 ⟨rfl, hq2⟩))
          go_roundg (few - (k + 1))
          case measure => omega
          case rel => exact ⟨k + 1, fun i => if i = h then k else D i, by omega, rfl, by go_num, hX2.trans (hq2.kept.weaken (fun _ h => h.elim)), hq2.kept.row hR2, fun i hi => by show (if i = h then k else D i) = _; rw [hP2.out i (by omega), lget_app, ← HHL.out, if_pos hi], by show _ = _; rw [hst.out]; rfl⟩
        | true =>
          have PA := Lib.hid (fun W (h1 : W.rowIs g 84 n (fun i => setV (H i))) (h2 : W.rowIs c 3 n (fun i => .int .i64 (((if i = h then k else D i : Nat) : Nat) : Int))) => IH.out W (fun i => if i = h then k else D i) (l ++ [k]) (by simp; have := HLN.out; omega) h1 h2 (fun i hi => hP2.out i (by simp at hi; rw [HHL.out]; omega)))
          have el : ((l ++ [k]).length : Int) = (h : Int) + 1 := by simp [HHL.out]
          rw [el] at PA
          obtain ⟨r, HRR⟩ : ∃ r, Hid (r = paintL H few f (l ++ [k])) := ⟨_, rfl⟩
          rw [← HRR.out] at PA
          clear el
          cases r with
          | none =>
            go_wp2_with (first | (go_at_call 115; refine DF.out.mono ?_; rintro e w2 ⟨rfl, hq2⟩) | (go_at_call 102; refine (PA.out _ (hq2.kept.row hG3) (hq2.kept.row hR2)).mono ?_; rintro e w3 ⟨rfl, hX3, E, hE, hE1, _⟩))
            go_roundg (few - (k + 1))
            case measure => omega
            case rel => exact ⟨k + 1, E, by omega, rfl, by go_num, (hX2.trans (hq2.kept.weaken (fun _ h => h.elim))).trans hX3, hE, fun i hi => by rw [hE1 i (by simp; have := HHL.out; omega), lget_app, ← HHL.out, if_pos hi], by show _ = _; rw [hst.out, ← HRR.out]; rfl⟩
          | some d =>
            have hyes : Hid (paintTo H few f l few = some d) := paintTo_some H few f l (k + 1) few (by omega) (by rw [hst.out, ← HRR.out]; rfl)
            go_wp2_with (first | (go_at_call 115; refine DF.out.mono ?_; rintro e w2 ⟨rfl, hq2⟩) | (go_at_call 102; refine (PA.out _ (hq2.kept.row hG3) (hq2.kept.row hR2)).mono ?_; rintro e w3 ⟨rfl, hX3, E, hE, hE1, hE2⟩))
            go_ret
            refine ⟨by rw [hyes.out]; rfl, (hX2.trans (hq2.kept.weaken (fun _ h => h.elim))).trans hX3, E, hE, fun i hi => ?_, fun d2 hd2 => ?_⟩
            · rw [hE1 i (by simp; omega), lget_app, if_pos hi]
            · rw [hyes.out] at hd2
              injection hd2 with hd2
              subst hd2
              exact hE2 _ rfl
      · obtain rfl : k = few := by omega
        go_wp2_with fail
        go_ret
        refine ⟨by rw [hN.out]; rfl, hX, D, hR, fun i hi => hD.out i (by rw [HHL.out]; exact hi), fun d hd => ?_⟩
        rw [hN.out] at hd
        cases hd
theorem spare (m : Nat) : ∀ l : List Nat, l.length = m → ∃ c, c ≤ m ∧ ¬ c ∈ l := by
  induction m with
  | zero =>
    intro l hl
    exact ⟨0, Nat.le_refl _, by rw [List.length_eq_zero_iff.1 hl]; simp⟩
  | succ m ih =>
    intro l hl
    by_cases h : m + 1 ∈ l
    · obtain ⟨c, hc, hn⟩ := ih (l.erase (m + 1)) (by rw [List.length_erase_of_mem h, hl]; rfl)
      exact ⟨c, by omega, fun hm => hn ((List.mem_erase_of_ne (by omega)).2 hm)⟩
    · exact ⟨m + 1, Nat.le_refl _, h⟩
theorem paintL_some (H : Nat → Nat) (few f : Nat) : ∀ l : List Nat, l.length + f ≤ few → (paintL H few f l).isSome = true := by
  induction f with
  | zero => intro l _; rfl
  | succ f ih =>
    intro l hl
    obtain ⟨c, hc, hn⟩ := spare l.length l rfl
    have hd : diffB H (lget (l ++ [c])) l.length l.length = true := allN_true.2 fun i hi => by
      rw [lget_app, if_pos hi, lget_app, if_neg (by omega), if_pos rfl]
      have : lget l i ≠ c := fun e => hn (by
        rw [← e]
        unfold lget
        rw [List.getD_eq_getElem?_getD, List.getElem?_eq_getElem hi]
        exact List.getElem_mem hi)
      simp [this]
    have h1 := ih (l ++ [c]) (by simp; omega)
    unfold paintL
    rw [List.findSome?_isSome_iff]
    exact ⟨c, by simp; omega, by rw [if_pos hd]; exact h1⟩
/-- the first numbers with the fewest different ones -/
def ColorsIs (H : Nat → Nat) (n : Nat) (d : List Nat) : Prop := ∃ few, 1 ≤ few ∧ few ≤ n ∧ paintL H few n [] = some d ∧ ∀ m, 1 ≤ m → m < few → paintL H m n [] = none
def ColorsPost (w : World) (n : Nat) (H : Nat → Nat) (e : Ending) (w' : World) : Prop := ∃ (c : Nat) (d : List Nat), e = .returned (.slice (some ⟨c, 0, none⟩) n n) ∧ Kept w w' ∧ w.heap.size ≤ c ∧ w'.rowIs c 3 n (fun i => .int .i64 ((lget d i : Nat) : Int)) ∧ ColorsIs H n d
theorem mkInts (n : Nat) (hn : n ≤ 1000000) (w : World) :
    (Instr.makeSlice 27 (.int .i64 n) (.int .i64 n)).run Tryz.prog w = .ok (.slice (some ⟨w.heap.size, 0, none⟩) n n) (w.alloc (.cells (madeCells #[.int .i64 0] n) 3)) :=
  run_make_row' (P := Tryz.prog) 27 3 (.int .i64 0) 8 (by kernel_rfl) Tryz.info3 rfl .i64 .i64 n (by omega) (by omega) w
set_option maxRecDepth 100000 in
set_option maxHeartbeats 4000000 in
theorem colors_any (w : World) (g n cap : Nat) (H : Nat → Nat) (hG : w.rowIs g 84 n (fun i => setV (H i))) (hH : ∀ i, i < n → H i < 65536) (hn : n ≤ 14) (hn1 : 1 ≤ n) :
    Calls Tryz.prog 78 #[.slice (some ⟨g, 0, none⟩) n cap] w (ColorsPost w n H) := by
  have hgl := hG.lt
  have hmk := fun W => mkInts n (by omega) W
  have hrow := World.rowIs_made w (.int .i64 0) n 3
  have hk0 : Kept w (w.alloc (.cells (madeCells #[.int .i64 0] n) 3)) := (Kept.refl w).alloc _
  go_enter Tryz.func78, Tryz.ntmps78
  go_wp2_with fail
  obtain ⟨r, HRR⟩ : ∃ r, Hid (r = w.heap.size) := ⟨_, rfl⟩
  have hrs : w.heap.size ≤ r := by rw [HRR.out]; exact Nat.le_refl _
  have hgr : g ≠ r := by rw [HRR.out]; omega
  rw [← HRR.out] at hrow ⊢
  have hG0 := hk0.row hG
  generalize w.alloc (.cells (madeCells #[.int .i64 0] n) 3) = W0 at *
  clear hmk
  go_loopg [4] (n - 1) (fun q s4 wr => ∃ (k : Nat) (D : Nat → Nat), 1 ≤ k ∧ k ≤ n ∧ q = n - k ∧ s4 = .int .i64 k ∧ Kept w wr ∧ wr.rowIs r 3 n (fun i => .int .i64 ((D i : Nat) : Int)) ∧ Hid (∀ m, 1 ≤ m → m < k → paintL H m n [] = none))
  case atStart => exact ⟨1, fun _ => 0, Nat.le_refl _, hn1, rfl, rfl, hk0, hrow, fun m h1 h2 => absurd h1 (by omega)⟩
  case round =>
    clear hk0 hrow hG0
    obtain ⟨k, D, hk1, hk, rfl, rfl, hK, hR, hN⟩ := hrel
    have PA := Lib.hid (paint_any g r n cap k H hH hn hgr (by omega) n wr D [] (by simp) (hK.row hG) hR (fun i hi => absurd hi (by simp)))
    obtain ⟨res, HRES⟩ : ∃ res, Hid (res = paintL H k n []) := ⟨_, rfl⟩
    rw [← HRES.out] at PA
    cases res with
    | none =>
      have hkn : k < n := by
        rcases Nat.lt_or_ge k n with h | h
        · exact h
        · exfalso
          have := paintL_some H k n [] (by simpa using h)
          rw [← HRES.out] at this
          cases this
      go_wp2_with (first | (go_at_call 102; refine PA.out.mono ?_; rintro e w3 ⟨rfl, hX3, E, hE, _, _⟩))
      go_roundg (n - (k + 1))
      case measure => omega
      case rel => exact ⟨k + 1, E, by omega, by omega, rfl, by go_num, Kept.step hK hX3 (fun i hi => by rw [hi]; exact hrs), hE, fun m h1 h2 => by
        by_cases e : m = k
        · rw [e]; exact HRES.out.symm
        · exact hN.out m h1 (by omega)⟩
    | some d =>
      go_wp2_with (first | (go_at_call 102; refine PA.out.mono ?_; rintro e w3 ⟨rfl, hX3, E, hE, _, hE2⟩))
      go_ret
      exact ⟨r, d, rfl, Kept.step hK hX3 (fun i hi => by rw [hi]; exact hrs), hrs, hE.congr (fun i hi => by rw [hE2 d rfl i hi]), k, hk1, hk, HRES.out.symm, hN.out⟩
/-- what Colors returns -/
def ColorsAns (w : World) (n : Int) (A B : Nat → Int) (m : Nat) (e : Ending) (w' : World) : Prop :=
  Kept w w' ∧ if goodH n A B m then ∃ (v : Value) (d : List Nat), e = .returned (.tuple #[v, .int .i64 0]) ∧ ColorsIs (alongH A B m) n.toNat d ∧ IntsAt w' v n.toNat (fun i => ((lget d i : Nat) : Int)) else e = .returned (.tuple #[.slice none 0 0, .int .i64 1])
set_option maxRecDepth 100000 in
set_option maxHeartbeats 4000000 in
theorem Colors_any (w : World) (n : Int) (v : Value) (m : Nat) (A B : Nat → Int) (hP : PairsAt w v m A B) (hm : m ≤ 1000000) :
    Calls Tryz.prog 49 #[.int .i64 n, v] w (ColorsAns w n A B m) := by
  have HO := Lib.hid (herdOf_any w n v m A B hP hm)
  obtain ⟨gb, HGB⟩ : ∃ gb, Hid (gb = goodH n A B m) := ⟨_, rfl⟩
  unfold HerdOfPost at HO
  unfold ColorsAns
  rw [← HGB.out] at HO ⊢
  cases gb with
  | false =>
    go_enter Tryz.func49, Tryz.ntmps49
    go_wp2_with (first | (go_at_call 41; refine HO.out.mono ?_; rintro e w2 ⟨hk2, he⟩; rw [if_neg (by simp)] at he; subst he))
    go_ret2
    exact ⟨hk2, rfl⟩
  | true =>
    have hg := HGB.out.symm
    unfold goodH at hg
    simp only [Bool.and_eq_true, decide_eq_true_eq] at hg
    obtain ⟨N, rfl⟩ : ∃ N : Nat, n = N := ⟨n.toNat, by omega⟩
    have hlts := alongH_lt (n := N) (k := m) (by omega) hg.2
    have CA := Lib.hid (fun (W : World) (g : Nat) (hG : W.rowIs g 84 N (fun i => setV (alongH A B m i))) => colors_any W g N N (alongH A B m) hG hlts (by omega) (by omega))
    simp only [Int.toNat_natCast] at HO ⊢
    clear hg hlts HGB
    go_enter Tryz.func49, Tryz.ntmps49
    go_wp2_with (first | (go_at_call 41; refine HO.out.mono ?_; rintro e w2 ⟨hk2, he⟩; rw [if_pos trivial] at he; obtain ⟨g, rfl, hgs, hG⟩ := he) | (go_at_call 78; refine (CA.out _ g hG).mono ?_; rintro e w3 ⟨c, d, rfl, hk3, hcs, hC, hD⟩))
    go_ret2
    exact ⟨hk2.trans hk3, _, rfl, d, hD, CellsAt.of_row hC⟩
end Go.Proofs.YtlnlddnjalfamaaGreatDoor
