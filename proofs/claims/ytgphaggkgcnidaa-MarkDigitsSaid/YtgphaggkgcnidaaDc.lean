/-
  Package mark: Steps, Digits, Found.
-/
import Derived.Test.YtgphaggkgcnidaaDb
namespace Go.Proofs.Ytgphaggkgcnidaa
open Go.RowKit Go.Deep Go.Sort

def StepsPost (w : World) (l : Wd) (e : Ending) (w' : World) : Prop := TwoPost w (wordC 20 4 l) (.string (bs [])) (.string (bs (stps l))) e w'
set_option maxRecDepth 100000 in
set_option maxHeartbeats 1000000 in
theorem Steps_any (w : World) (l : Wd) (hl : l.length ≤ 1000) : Calls Try.prog 40 #[.string (bs l)] w (StepsPost w l) := by
  obtain ⟨S, HS⟩ : ∃ x : ByteArray, Hid (x = bs l) := ⟨_, Lib.hid rfl⟩
  have CH := Lib.hid (fun (W : World) (b cap : Nat) (h0 : W.cell? ⟨b, 0, none⟩ = some (.string S)) => check1 W 20 4 b cap S l HS.out h0 hl)
  have SU := Lib.hid (fun W => steps_any W l hl)
  rw [← HS.out] at SU ⊢
  obtain ⟨W, hW, c0, hk⟩ := newbox1 w (.string S) 9
  unfold StepsPost
  obtain ⟨z, HZ⟩ : ∃ z, Hid (z = wordC 20 4 l) := ⟨_, rfl⟩
  rw [← HZ.out] at CH ⊢
  by_cases h : z = 0
  · have hfin : Hid (∀ w', Kept w w' → TwoPost w z (.string (bs [])) (.string (bs (stps l))) (.returned (.tuple #[.string (bs (stps l)), .int .i64 0])) w') := fun w' k => ⟨k, fun h2 => absurd h h2, fun _ => rfl⟩
    subst h
    go_enter Try.func40, Try.ntmps40
    go_wp2_with (first | (go_at_call 56; refine (CH.out _ _ _ c0).mono ?_; rintro e w1 ⟨rfl, rfl⟩) | (go_at_call 72; refine (SU.out _).mono ?_; rintro e w1 ⟨rfl, hk1⟩))
    go_ret2
    exact hfin.out _ (hk.trans hk1)
  · have hfin : Hid (∀ w', Kept w w' → TwoPost w z (.string (bs [])) (.string (bs (stps l))) (.returned (.tuple #[.string ⟨#[]⟩, .int .i64 z])) w') := fun w' k => ⟨k, fun _ => rfl, fun h2 => absurd h2 h⟩
    have e1 : (z != 0) = true := by simp [h]
    clear h
    go_enter Try.func40, Try.ntmps40
    go_wp2_with (first | (go_at_call 56; refine (CH.out _ _ _ c0).mono ?_; rintro e w1 ⟨rfl, rfl⟩))
    go_ret2
    exact hfin.out _ hk
theorem upD_nat {n q a b most : Int} (h : upD n q a b most = true) : ∃ n' q' a' b' : Nat, n = n' ∧ q = q' ∧ a = a' ∧ b = b' ∧ 2 ≤ n' ∧ (n' : Int) ≤ most ∧ 2 ≤ q' ∧ q' ≤ 4 ∧ a' < n' ∧ b' < q' := by
  unfold upD within at h
  rw [Bool.and_eq_true, Bool.and_eq_true, Bool.and_eq_true] at h
  obtain ⟨h1, h2⟩ := of_decide_eq_true h.1.1.1
  obtain ⟨h3, h4⟩ := of_decide_eq_true h.1.1.2
  obtain ⟨h5, h6⟩ := of_decide_eq_true h.1.2
  obtain ⟨h7, h8⟩ := of_decide_eq_true h.2
  exact ⟨n.toNat, q.toNat, a.toNat, b.toNat, by omega, by omega, by omega, by omega, by omega, by omega, by omega, by omega, by omega, by omega⟩
theorem lets_dig {q : Nat} (hq : q ≤ 4) {c : UInt8} (h : c ∈ lets q) : 48 ≤ c.toNat ∧ c.toNat < 48 + q := by
  unfold lets at h
  obtain ⟨i, hi, rfl⟩ := List.mem_map.1 h
  have := List.mem_range.1 hi
  rw [UInt8.toNat_ofNat_of_lt' (by show _ < 256; omega)]
  omega
theorem dig_mono {q r : Nat} (h : q ≤ r) {l : Wd} (hl : Dig q l) : Dig r l := fun c hc => by have := hl c hc; omega
theorem allW_dig {q : Nat} (hq : q ≤ 4) (n : Nat) : ∀ x ∈ allW q n, Dig q x := by
  induction n with
  | zero => intro x hx c hc; simp [allW] at hx; subst hx; simp at hc
  | succ n ih =>
    intro x hx
    simp only [allW, List.mem_flatMap, ext, List.mem_map] at hx
    obtain ⟨y, hy, d, hd, rfl⟩ := hx
    intro c hc
    rcases List.mem_append.1 hc with h | h
    · exact ih y hy c h
    · rw [List.mem_singleton.1 h]; exact lets_dig hq hd
theorem dig_ins {q : Nat} {z : Wd} {i : Nat} {c : UInt8} (hz : Dig q z) (hc : 48 ≤ c.toNat ∧ c.toNat < 48 + q) : Dig q (ins z i c) := by
  intro x hx
  unfold ins at hx
  rcases List.mem_append.1 hx with h | h
  · exact hz x (List.mem_of_mem_take h)
  · rcases List.mem_cons.1 h with rfl | h
    · exact hc
    · exact hz x (List.mem_of_mem_drop h)
theorem srt_inss_dig {l x : Wd} {q : Nat} (hq : q ≤ 4) (hl : Dig q l) (h : x ∈ srt (inss l q)) : Dig q x := by
  rw [srt_mem, mem_inss] at h
  obtain ⟨i, _, c, hc, rfl⟩ := h
  exact dig_ins hl (lets_dig hq hc)
theorem allW4 {q : Nat} (hq : q ≤ 4) : ∀ k, k ≤ 6 → (allW q k).length ≤ 5000 := fun k hk => by
  rw [allW_count]
  have h1 := Nat.pow_le_pow_left hq k
  have h2 := Nat.pow_le_pow_right (n := 4) (by omega) hk
  omega
/-- the words of a code of digits -/
def codeD (n q a b : Nat) : List Wd := wordsF q n (hasD n q a b)
set_option maxRecDepth 100000 in
set_option maxHeartbeats 1000000 in
theorem Digits_any (w : World) (n q a b : Int) (hn : -9223372036854775808 ≤ n) (hn2 : n ≤ 9223372036854775807) (hq : -9223372036854775808 ≤ q) (hq2 : q ≤ 9223372036854775807) : Calls Try.prog 41 #[.int .i64 n, .int .i64 q, .int .i64 a, .int .i64 b] w (ListPost w (if upD n q a b 6 then 0 else 1) (codeD n.toNat q.toNat a.toNat b.toNat)) := by
  have LC := Lib.hid (fun W => digitCode_any W n q a b)
  have UP := Lib.hid (fun W => isUpTo_dig W n q a b 6 hn hn2 hq hq2)
  unfold CodePost at LC
  clear hn hn2 hq hq2
  cases h : upD n q a b 6
  · rw [h] at UP
    have hfin : Hid (∀ w', Kept w w' → ListPost w (if false = true then 0 else 1) (codeD n.toNat q.toNat a.toNat b.toNat) (.returned (.tuple #[.slice none 0 0, .int .i64 1])) w') := fun w' k => ⟨k, fun _ => rfl, fun h2 => absurd h2 (by decide)⟩
    clear h
    go_enter Try.func41, Try.ntmps41
    go_wp2_with (first
      | (go_at_call 73; refine (LC.out _).mono ?_; rintro e w1 ⟨rfl, hk1⟩; obtain ⟨c0, c1, c2, c3, c4⟩ := sbox5 w1 (.int .i64 1) (.int .i64 n) (.int .i64 q) (.int .i64 a) (.int .i64 b) 93; have hk5 := (Kept.refl w1).alloc (.cells #[.int .i64 1, .int .i64 n, .int .i64 q, .int .i64 a, .int .i64 b] 93))
      | (go_at_call 62; refine (UP.out _).mono ?_; rintro e w2 ⟨rfl, hk2⟩))
    go_ret2
    exact hfin.out _ ((hk1.trans hk5).trans hk2)
  · obtain ⟨n, q, a, b, rfl, rfl, rfl, rfl, h1, h2, h3, h4, h5, h6⟩ := upD_nat h
    rw [h] at UP
    have h2 : n ≤ 6 := by omega
    have WO := Lib.hid (fun W => words_any W 1 a b n q (hasD n q a b) h4 (by omega) (fun i hi => allW4 h4 i (by omega)) (fun W l hl => has_dig W n q a b l (by omega) (by omega) (by omega) h4 (by rw [allW_len q n l hl]; omega) (dig_mono h4 (allW_dig h4 n l hl))))
    unfold RowPost at WO
    have hfin : Hid (∀ w' v, Kept w w' → w'.ownsRow w.heap.size 9 1 v (codeD n q a b).length (wds (codeD n q a b)) → ListPost w (if true = true then 0 else 1) (codeD (n : Int).toNat (q : Int).toNat (a : Int).toNat (b : Int).toNat) (.returned (.tuple #[v, .int .i64 0])) w') := fun w' v k h2 => ⟨k, fun h3 => absurd rfl h3, fun _ => ⟨v, rfl, h2⟩⟩
    clear h h1 h2 h3 h4 h5 h6
    go_enter Try.func41, Try.ntmps41
    go_wp2_with (first
      | (go_at_call 73; refine (LC.out _).mono ?_; rintro e w1 ⟨rfl, hk1⟩; obtain ⟨c0, c1, c2, c3, c4⟩ := sbox5 w1 (.int .i64 1) (.int .i64 (n : Int)) (.int .i64 (q : Int)) (.int .i64 (a : Int)) (.int .i64 (b : Int)) 93; have hk5 := (Kept.refl w1).alloc (.cells #[.int .i64 1, .int .i64 (n : Int), .int .i64 (q : Int), .int .i64 (a : Int), .int .i64 (b : Int)] 93))
      | (go_at_call 62; refine (UP.out _).mono ?_; rintro e w2 ⟨rfl, hk2⟩; obtain ⟨d0, d1, d2, d3, d4, hk2⟩ := keep5 c0 c1 c2 c3 c4 hk2)
      | (go_at_call 65; refine (WO.out _).mono ?_; rintro e w3 ⟨v3, rfl, hO3, hk3⟩))
    go_ret2
    exact hfin.out _ _ (((hk1.trans hk5).trans hk2).trans hk3) (own_base hO3 ((hk1.trans hk5).trans hk2).size)
/-- which error of Found -/
def fndC (n q a b : Int) (l : Wd) : Int := if wordC 20 4 l = 0 then (if upD n q a b 20 && belB q.toNat l then 0 else 1) else wordC 20 4 l
theorem wordC_ok {m q : Nat} {l : Wd} (h : wordC m q l = 0) : l.length ≤ m ∧ Dig q l := by
  unfold wordC at h
  split at h
  · split at h
    · rename_i h1 h2; exact ⟨h1, belB_dig.1 h2⟩
    · cases h
  · cases h
set_option maxRecDepth 100000 in
set_option maxHeartbeats 2000000 in
theorem Found_any (w : World) (n q a b : Int) (l : Wd) (hl : l.length ≤ 100) (hn : -9223372036854775808 ≤ n) (hn2 : n ≤ 9223372036854775807) (hq : -9223372036854775808 ≤ q) (hq2 : q ≤ 9223372036854775807) : Calls Try.prog 45 #[.int .i64 n, .int .i64 q, .int .i64 a, .int .i64 b, .string (bs l)] w (RestPost w (fndC n q a b l) ((srt (inss l q.toNat)).find? (hasD n.toNat q.toNat a.toNat b.toNat))) := by
  obtain ⟨S, HS⟩ : ∃ x : ByteArray, Hid (x = bs l) := ⟨_, Lib.hid rfl⟩
  have CH := Lib.hid (fun (W : World) (b cap : Nat) (h0 : W.cell? ⟨b, 0, none⟩ = some (.string S)) => check1 W 20 4 b cap S l HS.out h0 (by omega))
  have LC := Lib.hid (fun W => digitCode_any W n q a b)
  have UP := Lib.hid (fun W => isUpTo_dig W n q a b 20 hn hn2 hq hq2)
  unfold CodePost at LC
  clear hn hn2 hq hq2
  by_cases h : wordC 20 4 l = 0
  · rw [h] at CH
    obtain ⟨hl20, hD4⟩ := wordC_ok h
    cases hu : upD n q a b 20
    · rw [← HS.out]
      obtain ⟨W, hW, c0, hk⟩ := newbox1 w (.string S) 9
      rw [hu] at UP
      have hc : fndC n q a b l = 1 := by unfold fndC; rw [if_pos h, hu]; rfl
      have hfin : Hid (∀ w', Kept w w' → RestPost w (fndC n q a b l) ((srt (inss l q.toNat)).find? (hasD n.toNat q.toNat a.toNat b.toNat)) (.returned (.tuple #[.string ⟨#[]⟩, .int .i64 1])) w') := fun w' k => ⟨k, fun _ => by rw [hc]; rfl, fun h => absurd h (by rw [hc]; decide)⟩
      clear h hc hu
      go_enter Try.func45, Try.ntmps45
      go_wp2_with (first
        | (go_at_call 56; refine (CH.out _ _ _ c0).mono ?_; rintro e w1 ⟨rfl, rfl⟩)
        | (go_at_call 73; refine (LC.out _).mono ?_; rintro e w1 ⟨rfl, hk1⟩; obtain ⟨d0, d1, d2, d3, d4⟩ := sbox5 w1 (.int .i64 1) (.int .i64 n) (.int .i64 q) (.int .i64 a) (.int .i64 b) 93; have hk5 := (Kept.refl w1).alloc (.cells #[.int .i64 1, .int .i64 n, .int .i64 q, .int .i64 a, .int .i64 b] 93))
        | (go_at_call 62; refine (UP.out _).mono ?_; rintro e w2 ⟨rfl, hk2⟩))
      go_ret2
      exact hfin.out _ (((hk.trans hk1).trans hk5).trans hk2)
    · rw [hu] at UP
      obtain ⟨n, q, a, b, rfl, rfl, rfl, rfl, h1, h2, h3, h4, h5, h6⟩ := upD_nat hu
      have h2 : n ≤ 20 := by omega
      have IB := Lib.hid (fun W => isBelow_any W l q (by omega))
      have LO := Lib.hid (fun W => longer_any W l q (by omega) h4)
      unfold SrtPost at LO
      rw [← HS.out] at IB LO ⊢
      obtain ⟨W, hW, c0, hk⟩ := newbox1 w (.string S) 9
      cases hb : belB q l
      · rw [hb] at IB
        have hc : fndC n q a b l = 1 := by unfold fndC; rw [if_pos h, hu, Int.toNat_natCast, hb]; rfl
        have hfin : Hid (∀ w', Kept w w' → RestPost w (fndC n q a b l) ((srt (inss l (q : Int).toNat)).find? (hasD (n : Int).toNat (q : Int).toNat (a : Int).toNat (b : Int).toNat)) (.returned (.tuple #[.string ⟨#[]⟩, .int .i64 1])) w') := fun w' k => ⟨k, fun _ => by rw [hc]; rfl, fun h => absurd h (by rw [hc]; decide)⟩
        clear h hc hu hb LO
        go_enter Try.func45, Try.ntmps45
        go_wp2_with (first
          | (go_at_call 56; refine (CH.out _ _ _ c0).mono ?_; rintro e w1 ⟨rfl, rfl⟩)
          | (go_at_call 73; refine (LC.out _).mono ?_; rintro e w1 ⟨rfl, hk1⟩; obtain ⟨d0, d1, d2, d3, d4⟩ := sbox5 w1 (.int .i64 1) (.int .i64 (n : Int)) (.int .i64 (q : Int)) (.int .i64 (a : Int)) (.int .i64 (b : Int)) 93; have hk5 := (Kept.refl w1).alloc (.cells #[.int .i64 1, .int .i64 (n : Int), .int .i64 (q : Int), .int .i64 (a : Int), .int .i64 (b : Int)] 93))
          | (go_at_call 62; refine (UP.out _).mono ?_; rintro e w2 ⟨rfl, hk2⟩)
          | (go_at_call 75; refine (IB.out _).mono ?_; rintro e w3 ⟨rfl, rfl⟩))
        go_ret2
        exact hfin.out _ (((hk.trans hk1).trans hk5).trans hk2)
      · have hDq := belB_dig.1 hb
        rw [hb] at IB
        have hc : fndC n q a b l = 0 := by unfold fndC; rw [if_pos h, hu, Int.toNat_natCast, hb]; rfl
        have hfin : Hid (∀ w', Kept w w' → RestPost w (fndC n q a b l) ((srt (inss l (q : Int).toNat)).find? (hasD (n : Int).toNat (q : Int).toNat (a : Int).toNat (b : Int).toNat)) (.returned (foundV ((srt (inss l q)).find? (hasD n q a b)))) w') := fun w' k => ⟨k, fun h => absurd hc h, fun _ => rfl⟩
        have OO := Lib.hid (fun (W : World) (v : Value) (hV : WdsAt W v (srt (inss l q))) => oneOf_any W 1 n q a b v (srt (inss l q)) (hasD n q a b) hV (by
          have h7 := srt_le (inss l q)
          rw [inss_count] at h7
          have h8 : (l.length + 1) * q ≤ 101 * 4 := Nat.mul_le_mul (by omega) h4
          omega) (fun W x hx => has_dig W n q a b x (by omega) (by omega) (by omega) h4 (by rw [srt_inss_len hx]; omega) (dig_mono h4 (srt_inss_dig h4 hDq hx))))
        unfold FoundPost at OO
        obtain ⟨FX, FC, hFV⟩ := foundV_tuple ((srt (inss l q)).find? (hasD n q a b))
        rw [hFV] at OO hfin
        clear h hc hu hb hFV hDq
        go_enter Try.func45, Try.ntmps45
        go_wp2_with (first
          | (go_at_call 56; refine (CH.out _ _ _ c0).mono ?_; rintro e w1 ⟨rfl, rfl⟩)
          | (go_at_call 73; refine (LC.out _).mono ?_; rintro e w1 ⟨rfl, hk1⟩; obtain ⟨d0, d1, d2, d3, d4⟩ := sbox5 w1 (.int .i64 1) (.int .i64 (n : Int)) (.int .i64 (q : Int)) (.int .i64 (a : Int)) (.int .i64 (b : Int)) 93; have hk5 := (Kept.refl w1).alloc (.cells #[.int .i64 1, .int .i64 (n : Int), .int .i64 (q : Int), .int .i64 (a : Int), .int .i64 (b : Int)] 93))
          | (go_at_call 62; refine (UP.out _).mono ?_; rintro e w2 ⟨rfl, hk2⟩)
          | (go_at_call 75; refine (IB.out _).mono ?_; rintro e w3 ⟨rfl, rfl⟩))
        obtain ⟨d0, d1, d2, d3, d4, hk2⟩ := keep5 d0 d1 d2 d3 d4 hk2
        go_region_with (first
          | (go_at_call 59; refine (LO.out _).mono ?_; rintro e w3 ⟨v3, rfl, hO3, hk3⟩; have hk3 : Kept w2 w3 := (by repeat (first | assumption | exact Kept.refl _ | apply Kept.drew | apply Kept.drewN | apply Kept.alloc | refine Kept.trans ?_ (by assumption))); obtain ⟨f0, f1, f2, f3, f4, hk3⟩ := keep5 d0 d1 d2 d3 d4 hk3; have hV3 := (wds_own hO3).2)
          | (go_at_call 69; refine (OO.out _ _ (hV3.kept (by repeat (first | assumption | exact Kept.refl _ | apply Kept.drew | apply Kept.drewN | apply Kept.alloc | refine Kept.trans ?_ (by assumption))))).mono ?_; rintro e w4 ⟨rfl, hk4⟩; have hk4 : Kept w3 w4 := (by repeat (first | assumption | exact Kept.refl _ | apply Kept.drew | apply Kept.drewN | apply Kept.alloc | refine Kept.trans ?_ (by assumption)))))
        all_goals
          go_wp2_with fail
          go_ret2
          exact hfin.out _ (((((hk.trans hk1).trans hk5).trans hk2).trans hk3).trans hk4)
  · rw [← HS.out]
    obtain ⟨W, hW, c0, hk⟩ := newbox1 w (.string S) 9
    obtain ⟨z, HZ⟩ : ∃ z, Hid (z = wordC 20 4 l) := ⟨_, rfl⟩
    have hc : fndC n q a b l = z := by unfold fndC; rw [if_neg h, HZ.out]
    rw [← HZ.out] at CH h
    have hfin : Hid (∀ w', Kept w w' → RestPost w (fndC n q a b l) ((srt (inss l q.toNat)).find? (hasD n.toNat q.toNat a.toNat b.toNat)) (.returned (.tuple #[.string ⟨#[]⟩, .int .i64 z])) w') := fun w' k => ⟨k, fun _ => by rw [hc]; rfl, fun h2 => absurd (hc ▸ h2) h⟩
    have e1 : (z != 0) = true := by simp [h]
    clear h hc
    go_enter Try.func45, Try.ntmps45
    go_wp2_with (first | (go_at_call 56; refine (CH.out _ _ _ c0).mono ?_; rintro e w1 ⟨rfl, rfl⟩))
    go_ret2
    exact hfin.out _ hk
end Go.Proofs.Ytgphaggkgcnidaa
