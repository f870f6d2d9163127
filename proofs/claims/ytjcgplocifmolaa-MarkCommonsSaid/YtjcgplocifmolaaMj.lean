/-
  Package mark: Remove, Common, Distance.
-/
import Derived.Test.YtjcgplocifmolaaMi
namespace Go.Proofs.Ytjcgplocifmolaa
open Go.RowKit Go.Deep Go.Sort

set_option maxRecDepth 100000 in
set_option maxHeartbeats 1000000 in
theorem Remove_any (w : World) (n a : Int) (l : Wd) (hl : l.length ≤ 100) : Calls Try.prog 43 #[.int .i64 n, .int .i64 a, .string (bs l)] w (RestPost w (restC 21 n a l) ((srt (dels l)).find? (hasL n.toNat a.toNat))) := by
  obtain ⟨S, HS⟩ : ∃ x : ByteArray, Hid (x = bs l) := ⟨_, Lib.hid rfl⟩
  have CH := Lib.hid (fun (W : World) (b cap : Nat) (h0 : W.cell? ⟨b, 0, none⟩ = some (.string S)) => check1 W 21 2 b cap S l HS.out h0 (by omega))
  have LO := Lib.hid (fun W => shorter_any W l (by omega))
  have LC := Lib.hid (fun W => letterCode_any W n a)
  have UP := Lib.hid (fun W => isUpTo_let W n a 20)
  unfold CodePost at LC
  unfold SrtPost at LO
  rw [← HS.out] at LO ⊢
  obtain ⟨W, hW, c0, hk⟩ := newbox1 w (.string S) 9
  by_cases h : wordC 21 2 l = 0
  · rw [h] at CH
    cases hu : upL n a 20
    · rw [hu] at UP
      have hc : restC 21 n a l = 1 := by unfold restC; rw [if_pos h, hu]; rfl
      have hfin : Hid (∀ w', Kept w w' → RestPost w (restC 21 n a l) ((srt (dels l)).find? (hasL n.toNat a.toNat)) (.returned (.tuple #[.string ⟨#[]⟩, .int .i64 1])) w') := fun w' k => ⟨k, fun _ => by rw [hc]; rfl, fun h => absurd h (by rw [hc]; decide)⟩
      clear h hc hu
      go_enter Try.func43, Try.ntmps43
      go_wp2_with (first
        | (go_at_call 48; refine (CH.out _ _ _ c0).mono ?_; rintro e w1 ⟨rfl, rfl⟩)
        | (go_at_call 37; refine (LC.out _).mono ?_; rintro e w1 ⟨rfl, hk1⟩; obtain ⟨d0, d1, d2, d3, d4⟩ := sbox5 w1 (.int .i64 0) (.int .i64 n) (.int .i64 2) (.int .i64 a) (.int .i64 0) 77; have hk5 := (Kept.refl w1).alloc (.cells #[.int .i64 0, .int .i64 n, .int .i64 2, .int .i64 a, .int .i64 0] 77))
        | (go_at_call 38; refine (UP.out _).mono ?_; rintro e w2 ⟨rfl, hk2⟩))
      go_ret2
      exact hfin.out _ (((hk.trans hk1).trans hk5).trans hk2)
    · rw [hu] at UP
      have hc : restC 21 n a l = 0 := by unfold restC; rw [if_pos h, hu]; rfl
      obtain ⟨k, j, rfl, rfl, hk1, hk20, hj⟩ := upL_nat hu
      have hk20 : k ≤ 20 := by omega
      have hfin : Hid (∀ w', Kept w w' → RestPost w (restC 21 k j l) ((srt (dels l)).find? (hasL (k : Int).toNat (j : Int).toNat)) (.returned (foundV ((srt (dels l)).find? (hasL k j)))) w') := fun w' k => ⟨k, fun h => absurd hc h, fun _ => rfl⟩
      have OO := Lib.hid (fun (W : World) (v : Value) (hV : WdsAt W v (srt (dels l))) => oneOf_any W 0 k 2 j 0 v (srt (dels l)) (hasL k j) hV (by have := srt_le (dels l); rw [dels_count] at this; omega) (fun W x hx => has_let W k j x (by omega) (by have := srt_dels_len hx; omega)))
      unfold FoundPost at OO
      obtain ⟨FX, FC, hFV⟩ := foundV_tuple ((srt (dels l)).find? (hasL k j))
      rw [hFV] at OO hfin
      clear h hc hu hk1 hj hFV
      go_enter Try.func43, Try.ntmps43
      go_wp2_with (first
        | (go_at_call 48; refine (CH.out _ _ _ c0).mono ?_; rintro e w1 ⟨rfl, rfl⟩)
        | (go_at_call 37; refine (LC.out _).mono ?_; rintro e w1 ⟨rfl, hk1⟩; obtain ⟨d0, d1, d2, d3, d4⟩ := sbox5 w1 (.int .i64 0) (.int .i64 (k : Int)) (.int .i64 2) (.int .i64 (j : Int)) (.int .i64 0) 77; have hk5 := (Kept.refl w1).alloc (.cells #[.int .i64 0, .int .i64 (k : Int), .int .i64 2, .int .i64 (j : Int), .int .i64 0] 77))
        | (go_at_call 38; refine (UP.out _).mono ?_; rintro e w2 ⟨rfl, hk2⟩))
      obtain ⟨d0, d1, d2, d3, d4, hk2⟩ := keep5 d0 d1 d2 d3 d4 hk2
      go_region_with (first
        | (go_at_call 57; refine (LO.out _).mono ?_; rintro e w3 ⟨v3, rfl, hO3, hk3⟩; have hk3 : Kept w2 w3 := (by repeat (first | assumption | exact Kept.refl _ | apply Kept.drew | apply Kept.drewN | apply Kept.alloc | refine Kept.trans ?_ (by assumption))); obtain ⟨f0, f1, f2, f3, f4, hk3⟩ := keep5 d0 d1 d2 d3 d4 hk3; have hV3 := (wds_own hO3).2)
        | (go_at_call 53; refine (OO.out _ _ (hV3.kept (by repeat (first | assumption | exact Kept.refl _ | apply Kept.drew | apply Kept.drewN | apply Kept.alloc | refine Kept.trans ?_ (by assumption))))).mono ?_; rintro e w4 ⟨rfl, hk4⟩; have hk4 : Kept w3 w4 := (by repeat (first | assumption | exact Kept.refl _ | apply Kept.drew | apply Kept.drewN | apply Kept.alloc | refine Kept.trans ?_ (by assumption)))))
      all_goals
        go_wp2_with fail
        go_ret2
        exact hfin.out _ (((((hk.trans hk1).trans hk5).trans hk2).trans hk3).trans hk4)
  · obtain ⟨z, HZ⟩ : ∃ z, Hid (z = wordC 21 2 l) := ⟨_, rfl⟩
    have hc : restC 21 n a l = z := by unfold restC; rw [if_neg h, HZ.out]
    rw [← HZ.out] at CH h
    have hfin : Hid (∀ w', Kept w w' → RestPost w (restC 21 n a l) ((srt (dels l)).find? (hasL n.toNat a.toNat)) (.returned (.tuple #[.string ⟨#[]⟩, .int .i64 z])) w') := fun w' k => ⟨k, fun _ => by rw [hc]; rfl, fun h2 => absurd (hc ▸ h2) h⟩
    have e1 : (z != 0) = true := by simp [h]
    clear h hc
    go_enter Try.func43, Try.ntmps43
    go_wp2_with (first | (go_at_call 48; refine (CH.out _ _ _ c0).mono ?_; rintro e w1 ⟨rfl, rfl⟩))
    go_ret2
    exact hfin.out _ hk
def TwoPost (w : World) (z : Int) (zero good : Value) (e : Ending) (w' : World) : Prop :=
  Kept w w' ∧ (z ≠ 0 → e = .returned (.tuple #[zero, .int .i64 z])) ∧ (z = 0 → e = .returned (.tuple #[good, .int .i64 0]))
def ComPost (w : World) (s t : Wd) (e : Ending) (w' : World) : Prop := TwoPost w (wordsC 20 2 s t) (.string (bs [])) (.string (bs (com s t))) e w'
set_option maxRecDepth 100000 in
set_option maxHeartbeats 1000000 in
theorem Common_any (w : World) (s t : Wd) (hs : s.length ≤ 100) (ht : t.length ≤ 100) : Calls Try.prog 19 #[.string (bs s), .string (bs t)] w (ComPost w s t) := by
  obtain ⟨S, HS⟩ : ∃ x : ByteArray, Hid (x = bs s) := ⟨_, Lib.hid rfl⟩
  obtain ⟨T, HT⟩ : ∃ x : ByteArray, Hid (x = bs t) := ⟨_, Lib.hid rfl⟩
  have CH := Lib.hid (fun (W : World) (b cap : Nat) (h0 : W.cell? ⟨b, 0, none⟩ = some (.string S)) (h1 : W.cell? ⟨b, 1, none⟩ = some (.string T)) => check2 W 20 2 b cap S T s t HS.out HT.out h0 h1 (by omega) (by omega))
  have CO := Lib.hid (fun W => common_any W s t (by omega) (by omega))
  rw [← HS.out, ← HT.out] at CO ⊢
  obtain ⟨W, hW, c0, c1, hk⟩ := newbox2 w (.string S) (.string T) 9
  unfold ComPost
  obtain ⟨z, HZ⟩ : ∃ z, Hid (z = wordsC 20 2 s t) := ⟨_, rfl⟩
  rw [← HZ.out] at CH ⊢
  by_cases h : z = 0
  · have hfin : Hid (∀ w', Kept w w' → TwoPost w z (.string (bs [])) (.string (bs (com s t))) (.returned (.tuple #[.string (bs (com s t)), .int .i64 0])) w') := fun w' k => ⟨k, fun h2 => absurd h h2, fun _ => rfl⟩
    subst h
    go_enter Try.func19, Try.ntmps19
    go_wp2_with (first | (go_at_call 48; refine (CH.out _ _ _ c0 c1).mono ?_; rintro e w1 ⟨rfl, rfl⟩) | (go_at_call 49; refine (CO.out _).mono ?_; rintro e w1 ⟨rfl, hk1⟩))
    go_ret2
    exact hfin.out _ (hk.trans hk1)
  · have hfin : Hid (∀ w', Kept w w' → TwoPost w z (.string (bs [])) (.string (bs (com s t))) (.returned (.tuple #[.string ⟨#[]⟩, .int .i64 z])) w') := fun w' k => ⟨k, fun _ => rfl, fun h2 => absurd h2 h⟩
    have e1 : (z != 0) = true := by simp [h]
    clear h
    go_enter Try.func19, Try.ntmps19
    go_wp2_with (first | (go_at_call 48; refine (CH.out _ _ _ c0 c1).mono ?_; rintro e w1 ⟨rfl, rfl⟩))
    go_ret2
    exact hfin.out _ hk
/-- how many letters must be taken away and put in -/
def dist (s t : Wd) : Nat := s.length + t.length - 2 * (com s t).length
def DistPost (w : World) (s t : Wd) (e : Ending) (w' : World) : Prop := TwoPost w (wordsC 20 2 s t) (.int .i64 0) (.int .i64 (dist s t : Nat)) e w'
set_option maxRecDepth 100000 in
set_option maxHeartbeats 1000000 in
theorem Distance_any (w : World) (s t : Wd) (hs : s.length ≤ 100) (ht : t.length ≤ 100) : Calls Try.prog 20 #[.string (bs s), .string (bs t)] w (DistPost w s t) := by
  obtain ⟨S, HS⟩ : ∃ x : ByteArray, Hid (x = bs s) := ⟨_, Lib.hid rfl⟩
  obtain ⟨T, HT⟩ : ∃ x : ByteArray, Hid (x = bs t) := ⟨_, Lib.hid rfl⟩
  obtain ⟨C, HC⟩ : ∃ x : ByteArray, Hid (x = bs (com s t)) := ⟨_, Lib.hid rfl⟩
  have CH := Lib.hid (fun (W : World) (b cap : Nat) (h0 : W.cell? ⟨b, 0, none⟩ = some (.string S)) (h1 : W.cell? ⟨b, 1, none⟩ = some (.string T)) => check2 W 20 2 b cap S T s t HS.out HT.out h0 h1 (by omega) (by omega))
  have CO := Lib.hid (fun W => common_any W s t (by omega) (by omega))
  have hl := com_len s t
  have hs1 : S.size = s.length := by rw [HS.out]; rfl
  have hs2 : T.size = t.length := by rw [HT.out]; rfl
  have hs3 : C.size = (com s t).length := by rw [HC.out]; rfl
  have hd : ((dist s t : Nat) : Int) = (s.length : Int) + (t.length : Int) - 2 * ((com s t).length : Int) := by unfold dist; omega
  rw [← HC.out] at CO
  rw [← HS.out, ← HT.out] at CO ⊢
  obtain ⟨W, hW, c0, c1, hk⟩ := newbox2 w (.string S) (.string T) 9
  unfold DistPost
  obtain ⟨z, HZ⟩ : ∃ z, Hid (z = wordsC 20 2 s t) := ⟨_, rfl⟩
  rw [hd, ← HZ.out]
  rw [← HZ.out] at CH
  obtain ⟨ns, HNS⟩ : ∃ x, Hid (x = s.length) := ⟨_, rfl⟩
  obtain ⟨nt, HNT⟩ : ∃ x, Hid (x = t.length) := ⟨_, rfl⟩
  obtain ⟨nc, HNC⟩ : ∃ x, Hid (x = (com s t).length) := ⟨_, rfl⟩
  rw [← HNS.out] at hs1 hl hs ⊢
  rw [← HNT.out] at hs2 hl ht ⊢
  rw [← HNC.out] at hs3 hl ⊢
  obtain ⟨hl1, hl2⟩ := hl
  clear hd
  by_cases h : z = 0
  · have hfin : Hid (∀ w', Kept w w' → TwoPost w z (.int .i64 0) (.int .i64 ((ns : Int) + (nt : Int) - 2 * (nc : Int))) (.returned (.tuple #[.int .i64 ((ns : Int) + (nt : Int) - 2 * (nc : Int)), .int .i64 0])) w') := fun w' k => ⟨k, fun h2 => absurd h h2, fun _ => rfl⟩
    subst h
    go_enter Try.func20, Try.ntmps20
    go_wp2_with (first | (go_at_call 48; refine (CH.out _ _ _ c0 c1).mono ?_; rintro e w1 ⟨rfl, rfl⟩) | (go_at_call 49; refine (CO.out _).mono ?_; rintro e w1 ⟨rfl, hk1⟩))
    go_ret2
    exact hfin.out _ (hk.trans hk1)
  · have hfin : Hid (∀ w', Kept w w' → TwoPost w z (.int .i64 0) (.int .i64 ((ns : Int) + (nt : Int) - 2 * (nc : Int))) (.returned (.tuple #[.int .i64 0, .int .i64 z])) w') := fun w' k => ⟨k, fun _ => rfl, fun h2 => absurd h2 h⟩
    have e1 : (z != 0) = true := by simp [h]
    clear h
    go_enter Try.func20, Try.ntmps20
    go_wp2_with (first | (go_at_call 48; refine (CH.out _ _ _ c0 c1).mono ?_; rintro e w1 ⟨rfl, rfl⟩))
    go_ret2
    exact hfin.out _ hk
end Go.Proofs.Ytjcgplocifmolaa
