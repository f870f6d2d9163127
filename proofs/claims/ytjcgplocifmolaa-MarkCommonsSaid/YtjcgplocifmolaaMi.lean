/-
  Package mark: Restore, Remove, Common, Distance.
-/
import Derived.Test.YtjcgplocifmolaaMh
namespace Go.Proofs.Ytjcgplocifmolaa
open Go.RowKit Go.Deep Go.Sort

def RestPost (w : World) (c : Int) (o : Option Wd) (e : Ending) (w' : World) : Prop :=
  Kept w w' ∧ (c ≠ 0 → e = .returned (.tuple #[.string (bs []), .int .i64 c])) ∧ (c = 0 → e = .returned (foundV o))
/-- which error of Restore and Remove -/
def restC (most : Nat) (n a : Int) (l : Wd) : Int := if wordC most 2 l = 0 then (if upL n a 20 then 0 else 1) else wordC most 2 l
theorem upL_nat {n a most : Int} (h : upL n a most = true) : ∃ k j : Nat, n = k ∧ a = j ∧ 1 ≤ k ∧ (k : Int) ≤ most ∧ j ≤ k := by
  unfold upL within at h
  rw [Bool.and_eq_true] at h
  obtain ⟨h1, h2⟩ := of_decide_eq_true h.1
  obtain ⟨h3, h4⟩ := of_decide_eq_true h.2
  exact ⟨n.toNat, a.toNat, by omega, by omega, by omega, by omega, by omega⟩
theorem srt_inss_len {l x : Wd} {q : Nat} (h : x ∈ srt (inss l q)) : x.length = l.length + 1 := by
  rw [srt_mem, mem_inss] at h
  obtain ⟨i, _, c, _, rfl⟩ := h
  exact ins_len
theorem srt_dels_len {l x : Wd} (h : x ∈ srt (dels l)) : x.length + 1 = l.length := by
  rw [srt_mem, mem_dels] at h
  obtain ⟨i, hi, rfl⟩ := h
  exact del_len hi
theorem srt_le (L : List Wd) : (srt L).length ≤ L.length := by
  have h := Lib.compact_length_le (L.mergeSort fun x y => decide (x ≤ y))
  have h2 : (L.mergeSort fun x y => decide (x ≤ y)).length = L.length := List.length_mergeSort L
  unfold srt; omega
theorem inss_count (l : Wd) (q : Nat) : (inss l q).length = (l.length + 1) * q := by
  unfold inss
  rw [List.length_flatMap]
  have : (fun i : Nat => ((lets q).map fun c => ins l i c).length) = fun _ => q := by funext x; simp [lets]
  rw [this]
  generalize l.length + 1 = k
  induction k with
  | zero => simp
  | succ k ih => rw [List.range_succ, List.map_append, List.sum_append, ih, Nat.succ_mul]; simp
theorem dels_count (l : Wd) : (dels l).length = l.length := by simp [dels]
theorem foundV_tuple (o : Option Wd) : ∃ X c, foundV o = .tuple #[.string X, .int .i64 c] := by
  cases o with
  | none => exact ⟨_, _, rfl⟩
  | some l => exact ⟨_, _, rfl⟩
set_option maxRecDepth 100000 in
set_option maxHeartbeats 1000000 in
theorem Restore_any (w : World) (n a : Int) (l : Wd) (hl : l.length ≤ 100) : Calls Try.prog 42 #[.int .i64 n, .int .i64 a, .string (bs l)] w (RestPost w (restC 20 n a l) ((srt (inss l 2)).find? (hasL n.toNat a.toNat))) := by
  obtain ⟨S, HS⟩ : ∃ x : ByteArray, Hid (x = bs l) := ⟨_, Lib.hid rfl⟩
  have CH := Lib.hid (fun (W : World) (b cap : Nat) (h0 : W.cell? ⟨b, 0, none⟩ = some (.string S)) => check1 W 20 2 b cap S l HS.out h0 (by omega))
  have LO := Lib.hid (fun W => longer_any W l 2 (by omega) (by omega))
  have LC := Lib.hid (fun W => letterCode_any W n a)
  have UP := Lib.hid (fun W => isUpTo_let W n a 20)
  unfold CodePost at LC
  unfold SrtPost at LO
  rw [← HS.out] at LO ⊢
  obtain ⟨W, hW, c0, hk⟩ := newbox1 w (.string S) 9
  by_cases h : wordC 20 2 l = 0
  · rw [h] at CH
    cases hu : upL n a 20
    · rw [hu] at UP
      have hc : restC 20 n a l = 1 := by unfold restC; rw [if_pos h, hu]; rfl
      have hfin : Hid (∀ w', Kept w w' → RestPost w (restC 20 n a l) ((srt (inss l 2)).find? (hasL n.toNat a.toNat)) (.returned (.tuple #[.string ⟨#[]⟩, .int .i64 1])) w') := fun w' k => ⟨k, fun _ => by rw [hc]; rfl, fun h => absurd h (by rw [hc]; decide)⟩
      clear h hc hu
      go_enter Try.func42, Try.ntmps42
      go_wp2_with (first
        | (go_at_call 48; refine (CH.out _ _ _ c0).mono ?_; rintro e w1 ⟨rfl, rfl⟩)
        | (go_at_call 37; refine (LC.out _).mono ?_; rintro e w1 ⟨rfl, hk1⟩; obtain ⟨d0, d1, d2, d3, d4⟩ := sbox5 w1 (.int .i64 0) (.int .i64 n) (.int .i64 2) (.int .i64 a) (.int .i64 0) 77; have hk5 := (Kept.refl w1).alloc (.cells #[.int .i64 0, .int .i64 n, .int .i64 2, .int .i64 a, .int .i64 0] 77))
        | (go_at_call 38; refine (UP.out _).mono ?_; rintro e w2 ⟨rfl, hk2⟩))
      go_ret2
      exact hfin.out _ (((hk.trans hk1).trans hk5).trans hk2)
    · rw [hu] at UP
      have hc : restC 20 n a l = 0 := by unfold restC; rw [if_pos h, hu]; rfl
      obtain ⟨k, j, rfl, rfl, hk1, hk20, hj⟩ := upL_nat hu
      have hk20 : k ≤ 20 := by omega
      have hfin : Hid (∀ w', Kept w w' → RestPost w (restC 20 k j l) ((srt (inss l 2)).find? (hasL (k : Int).toNat (j : Int).toNat)) (.returned (foundV ((srt (inss l 2)).find? (hasL k j)))) w') := fun w' k => ⟨k, fun h => absurd hc h, fun _ => rfl⟩
      have OO := Lib.hid (fun (W : World) (v : Value) (hV : WdsAt W v (srt (inss l 2))) => oneOf_any W 0 k 2 j 0 v (srt (inss l 2)) (hasL k j) hV (by have := srt_le (inss l 2); rw [inss_count] at this; omega) (fun W x hx => has_let W k j x (by omega) (by rw [srt_inss_len hx]; omega)))
      unfold FoundPost at OO
      obtain ⟨FX, FC, hFV⟩ := foundV_tuple ((srt (inss l 2)).find? (hasL k j))
      rw [hFV] at OO hfin
      clear h hc hu hk1 hj hFV
      go_enter Try.func42, Try.ntmps42
      go_wp2_with (first
        | (go_at_call 48; refine (CH.out _ _ _ c0).mono ?_; rintro e w1 ⟨rfl, rfl⟩)
        | (go_at_call 37; refine (LC.out _).mono ?_; rintro e w1 ⟨rfl, hk1⟩; obtain ⟨d0, d1, d2, d3, d4⟩ := sbox5 w1 (.int .i64 0) (.int .i64 (k : Int)) (.int .i64 2) (.int .i64 (j : Int)) (.int .i64 0) 77; have hk5 := (Kept.refl w1).alloc (.cells #[.int .i64 0, .int .i64 (k : Int), .int .i64 2, .int .i64 (j : Int), .int .i64 0] 77))
        | (go_at_call 38; refine (UP.out _).mono ?_; rintro e w2 ⟨rfl, hk2⟩))
      obtain ⟨d0, d1, d2, d3, d4, hk2⟩ := keep5 d0 d1 d2 d3 d4 hk2
      go_region_with (first
        | (go_at_call 54; refine (LO.out _).mono ?_; rintro e w3 ⟨v3, rfl, hO3, hk3⟩; have hk3 : Kept w2 w3 := (by repeat (first | assumption | exact Kept.refl _ | apply Kept.drew | apply Kept.drewN | apply Kept.alloc | refine Kept.trans ?_ (by assumption))); obtain ⟨f0, f1, f2, f3, f4, hk3⟩ := keep5 d0 d1 d2 d3 d4 hk3; have hV3 := (wds_own hO3).2)
        | (go_at_call 53; refine (OO.out _ _ (hV3.kept (by repeat (first | assumption | exact Kept.refl _ | apply Kept.drew | apply Kept.drewN | apply Kept.alloc | refine Kept.trans ?_ (by assumption))))).mono ?_; rintro e w4 ⟨rfl, hk4⟩; have hk4 : Kept w3 w4 := (by repeat (first | assumption | exact Kept.refl _ | apply Kept.drew | apply Kept.drewN | apply Kept.alloc | refine Kept.trans ?_ (by assumption)))))
      all_goals
        go_wp2_with fail
        go_ret2
        exact hfin.out _ (((((hk.trans hk1).trans hk5).trans hk2).trans hk3).trans hk4)
  · obtain ⟨z, HZ⟩ : ∃ z, Hid (z = wordC 20 2 l) := ⟨_, rfl⟩
    have hc : restC 20 n a l = z := by unfold restC; rw [if_neg h, HZ.out]
    rw [← HZ.out] at CH h
    have hfin : Hid (∀ w', Kept w w' → RestPost w (restC 20 n a l) ((srt (inss l 2)).find? (hasL n.toNat a.toNat)) (.returned (.tuple #[.string ⟨#[]⟩, .int .i64 z])) w') := fun w' k => ⟨k, fun _ => by rw [hc]; rfl, fun h2 => absurd (hc ▸ h2) h⟩
    have e1 : (z != 0) = true := by simp [h]
    clear h hc
    go_enter Try.func42, Try.ntmps42
    go_wp2_with (first | (go_at_call 48; refine (CH.out _ _ _ c0).mono ?_; rintro e w1 ⟨rfl, rfl⟩))
    go_ret2
    exact hfin.out _ hk
end Go.Proofs.Ytjcgplocifmolaa
