/-
  Package mark: Sum, Shorter, Longer, Words, Restore, Remove, Common, Distance.
-/
import Derived.Test.YtjcgplocifmolaaMg
namespace Go.Proofs.Ytjcgplocifmolaa
open Go.RowKit Go.Deep Go.Sort

/-- what is wrong with a word of letters below q, of at most so many -/
def wordC (most q : Nat) (l : Wd) : Int := if l.length ≤ most then (if belB q l then 0 else 2) else 3
theorem checkC_one (most q : Nat) (l : Wd) : checkC most q [l] = wordC most q l := by
  unfold checkC wordC
  by_cases h : l.length ≤ most <;> simp [h]
theorem check1 (w : World) (most q b cap : Nat) (S : ByteArray) (l : Wd) (hS : S = bs l) (h0 : w.cell? ⟨b, 0, none⟩ = some (.string S)) (hl : l.length ≤ 1000) :
    Calls Try.prog 48 #[.int .i64 most, .int .i64 q, .slice (some ⟨b, 0, none⟩) 1 cap] w fun e w' => e = .returned (.int .i64 (wordC most q l)) ∧ w = w' := by
  rw [← checkC_one]
  exact check_any w most q b 1 cap [l] rfl (by omega) (fun i hi => by
    obtain rfl : i = 0 := by omega
    rw [h0, hS]; rfl) (fun x hx => by rw [List.mem_singleton.1 hx]; exact hl)
/-- of two words one that is too long comes first -/
def wordsC (most q : Nat) (s t : Wd) : Int := checkC most q [s, t]
theorem check2 (w : World) (most q b cap : Nat) (S T : ByteArray) (s t : Wd) (hS : S = bs s) (hT : T = bs t) (h0 : w.cell? ⟨b, 0, none⟩ = some (.string S)) (h1 : w.cell? ⟨b, 1, none⟩ = some (.string T)) (hs : s.length ≤ 1000) (ht : t.length ≤ 1000) :
    Calls Try.prog 48 #[.int .i64 most, .int .i64 q, .slice (some ⟨b, 0, none⟩) 2 cap] w fun e w' => e = .returned (.int .i64 (wordsC most q s t)) ∧ w = w' :=
  check_any w most q b 2 cap [s, t] rfl (by omega) (fun i hi => by
    rcases (by omega : i = 0 ∨ i = 1) with rfl | rfl
    · rw [h0, hS]; rfl
    · rw [h1, hT]; rfl) (fun x hx => by
      rcases List.mem_cons.1 hx with rfl | hx
      · exact hs
      · rw [List.mem_singleton.1 hx]; exact ht)
theorem sbox1 (w : World) (a : Value) (t : TypeId) : (w.alloc (.cells #[a] t)).cell? ⟨w.heap.size, 0, none⟩ = some a := by
  unfold World.cell?; dsimp only; rw [blk_alloc_new]; rfl
theorem sbox5 (w : World) (a b c d e : Value) (t : TypeId) : (w.alloc (.cells #[a, b, c, d, e] t)).cell? ⟨w.heap.size, 0, none⟩ = some a ∧ (w.alloc (.cells #[a, b, c, d, e] t)).cell? ⟨w.heap.size, 1, none⟩ = some b ∧ (w.alloc (.cells #[a, b, c, d, e] t)).cell? ⟨w.heap.size, 2, none⟩ = some c ∧ (w.alloc (.cells #[a, b, c, d, e] t)).cell? ⟨w.heap.size, 3, none⟩ = some d ∧ (w.alloc (.cells #[a, b, c, d, e] t)).cell? ⟨w.heap.size, 4, none⟩ = some e := by
  refine ⟨?_, ?_, ?_, ?_, ?_⟩ <;> (unfold World.cell?; dsimp only; rw [blk_alloc_new]; rfl)
theorem newbox1 (w : World) (a : Value) (t : TypeId) : ∃ W, w.alloc (.cells #[a] t) = W ∧ W.cell? ⟨w.heap.size, 0, none⟩ = some a ∧ Kept w W := ⟨_, rfl, sbox1 w a t, (Kept.refl w).alloc _⟩
theorem newbox2 (w : World) (a b : Value) (t : TypeId) : ∃ W, w.alloc (.cells #[a, b] t) = W ∧ W.cell? ⟨w.heap.size, 0, none⟩ = some a ∧ W.cell? ⟨w.heap.size, 1, none⟩ = some b ∧ Kept w W := ⟨_, rfl, (sbox2 w a b t).1, (sbox2 w a b t).2, (Kept.refl w).alloc _⟩
def SumPost (w : World) (l : Wd) (e : Ending) (w' : World) : Prop := Kept w w' ∧ e = .returned (if wordC 20 2 l = 0 then .tuple #[.int .i64 (wsum 0 l : Nat), .int .i64 0] else .tuple #[.int .i64 0, .int .i64 (wordC 20 2 l)])
set_option maxRecDepth 100000 in
set_option maxHeartbeats 1000000 in
theorem Sum_any (w : World) (l : Wd) (hl : l.length ≤ 1000) : Calls Try.prog 36 #[.string (bs l)] w (SumPost w l) := by
  obtain ⟨S, HS⟩ : ∃ x : ByteArray, Hid (x = bs l) := ⟨_, Lib.hid rfl⟩
  have CH := Lib.hid (fun (W : World) (b cap : Nat) (h0 : W.cell? ⟨b, 0, none⟩ = some (.string S)) => check1 W 20 2 b cap S l HS.out h0 hl)
  have SU := Lib.hid (fun W => sumOf_any W l hl)
  rw [← HS.out] at SU ⊢
  obtain ⟨W, hW, c0, hk⟩ := newbox1 w (.string S) 9
  by_cases h : wordC 20 2 l = 0
  · have hfin : Hid (∀ w', Kept w w' → SumPost w l (.returned (.tuple #[.int .i64 (wsum 0 l : Nat), .int .i64 0])) w') := fun w' k => ⟨k, by rw [if_pos h]⟩
    rw [h] at CH
    clear h
    go_enter Try.func36, Try.ntmps36
    go_wp2_with (first | (go_at_call 48; refine (CH.out _ _ _ c0).mono ?_; rintro e w1 ⟨rfl, rfl⟩) | (go_at_call 61; refine (SU.out _).mono ?_; rintro e w1 ⟨rfl, rfl⟩))
    go_ret2
    exact hfin.out _ hk
  · have hfin : Hid (∀ w', Kept w w' → SumPost w l (.returned (.tuple #[.int .i64 0, .int .i64 (wordC 20 2 l)])) w') := fun w' k => ⟨k, by rw [if_neg h]⟩
    obtain ⟨z, HZ⟩ : ∃ z, Hid (z = wordC 20 2 l) := ⟨_, rfl⟩
    rw [← HZ.out] at CH hfin h
    have e1 : (z != 0) = true := by simp [h]
    clear h
    go_enter Try.func36, Try.ntmps36
    go_wp2_with (first | (go_at_call 48; refine (CH.out _ _ _ c0).mono ?_; rintro e w1 ⟨rfl, rfl⟩))
    go_ret2
    exact hfin.out _ hk
def ListPost (w : World) (c : Int) (L : List Wd) (e : Ending) (w' : World) : Prop :=
  Kept w w' ∧ (c ≠ 0 → e = .returned (.tuple #[.slice none 0 0, .int .i64 c])) ∧ (c = 0 → ∃ v, e = .returned (.tuple #[v, .int .i64 0]) ∧ w'.ownsRow w.heap.size 9 1 v L.length (wds L))
/-- what Shorter answers: which error -/
def shC (l : Wd) : Int := if wordC 20 2 l = 0 then (if l = [] then 5 else 0) else wordC 20 2 l
set_option maxRecDepth 100000 in
set_option maxHeartbeats 1000000 in
theorem Shorter_any (w : World) (l : Wd) (hl : l.length ≤ 1000) : Calls Try.prog 26 #[.string (bs l)] w (ListPost w (shC l) (srt (dels l))) := by
  obtain ⟨S, HS⟩ : ∃ x : ByteArray, Hid (x = bs l) := ⟨_, Lib.hid rfl⟩
  have CH := Lib.hid (fun (W : World) (b cap : Nat) (h0 : W.cell? ⟨b, 0, none⟩ = some (.string S)) => check1 W 20 2 b cap S l HS.out h0 hl)
  have SU := Lib.hid (fun W => shorter_any W l hl)
  unfold SrtPost at SU
  have hss : S.size = l.length := by rw [HS.out]; rfl
  rw [← HS.out] at SU ⊢
  obtain ⟨W, hW, c0, hk⟩ := newbox1 w (.string S) 9
  by_cases h : wordC 20 2 l = 0
  · rw [h] at CH
    by_cases h0 : l = []
    · have hc : shC l = 5 := by unfold shC; rw [if_pos h, if_pos h0]
      have hfin : Hid (∀ w', Kept w w' → ListPost w (shC l) (srt (dels l)) (.returned (.tuple #[.slice none 0 0, .int .i64 5])) w') := fun w' k => ⟨k, fun _ => by rw [hc], fun h => absurd h (by rw [hc]; decide)⟩
      have hSe : S = ⟨#[]⟩ := by rw [HS.out, h0]; rfl
      have e1 : S.toList.isEmpty = true := by rw [hSe, ByteArray.toList_eq]; rfl
      clear h h0 hc hSe hss
      go_enter Try.func26, Try.ntmps26
      go_wp2_with (first | (go_at_call 48; refine (CH.out _ _ _ c0).mono ?_; rintro e w1 ⟨rfl, rfl⟩))
      go_ret2
      exact hfin.out _ hk
    · have hc : shC l = 0 := by unfold shC; rw [if_pos h, if_neg h0]
      have hfin : Hid (∀ w' v, Kept w w' → w'.ownsRow w.heap.size 9 1 v (srt (dels l)).length (wds (srt (dels l))) → ListPost w (shC l) (srt (dels l)) (.returned (.tuple #[v, .int .i64 0])) w') := fun w' v k h => ⟨k, fun h => absurd hc h, fun _ => ⟨v, rfl, h⟩⟩
      have e1 : S.toList.isEmpty = false := by
        have : 0 < S.toList.length := by rw [ByteArray.toList_eq, HS.out]; exact List.length_pos_iff.2 h0
        cases hh : S.toList with
        | nil => rw [hh] at this; simp at this
        | cons a t => rfl
      clear h h0 hc hss
      go_enter Try.func26, Try.ntmps26
      go_wp2_with (first | (go_at_call 48; refine (CH.out _ _ _ c0).mono ?_; rintro e w1 ⟨rfl, rfl⟩) | (go_at_call 57; refine (SU.out _).mono ?_; rintro e w1 ⟨v1, rfl, hO1, hk1⟩))
      go_ret2
      exact hfin.out _ _ (hk.trans hk1) (own_base hO1 hk.size)
  · have hc : shC l = wordC 20 2 l := by unfold shC; rw [if_neg h]
    obtain ⟨z, HZ⟩ : ∃ z, Hid (z = wordC 20 2 l) := ⟨_, rfl⟩
    rw [← HZ.out] at CH h hc
    have hfin : Hid (∀ w', Kept w w' → ListPost w (shC l) (srt (dels l)) (.returned (.tuple #[.slice none 0 0, .int .i64 z])) w') := fun w' k => ⟨k, fun _ => by rw [hc], fun h2 => absurd (hc ▸ h2) h⟩
    have e1 : (z != 0) = true := by simp [h]
    clear h hc hss
    go_enter Try.func26, Try.ntmps26
    go_wp2_with (first | (go_at_call 48; refine (CH.out _ _ _ c0).mono ?_; rintro e w1 ⟨rfl, rfl⟩))
    go_ret2
    exact hfin.out _ hk
set_option maxRecDepth 100000 in
set_option maxHeartbeats 1000000 in
theorem Longer_any (w : World) (l : Wd) (hl : l.length ≤ 1000) : Calls Try.prog 27 #[.string (bs l)] w (ListPost w (wordC 20 2 l) (srt (inss l 2))) := by
  obtain ⟨S, HS⟩ : ∃ x : ByteArray, Hid (x = bs l) := ⟨_, Lib.hid rfl⟩
  have CH := Lib.hid (fun (W : World) (b cap : Nat) (h0 : W.cell? ⟨b, 0, none⟩ = some (.string S)) => check1 W 20 2 b cap S l HS.out h0 hl)
  have SU := Lib.hid (fun W => longer_any W l 2 hl (by omega))
  unfold SrtPost at SU
  rw [← HS.out] at SU ⊢
  obtain ⟨W, hW, c0, hk⟩ := newbox1 w (.string S) 9
  by_cases h : wordC 20 2 l = 0
  · rw [h] at CH
    have hfin : Hid (∀ w' v, Kept w w' → w'.ownsRow w.heap.size 9 1 v (srt (inss l 2)).length (wds (srt (inss l 2))) → ListPost w (wordC 20 2 l) (srt (inss l 2)) (.returned (.tuple #[v, .int .i64 0])) w') := fun w' v k h2 => ⟨k, fun h3 => absurd h h3, fun _ => ⟨v, rfl, h2⟩⟩
    clear h
    go_enter Try.func27, Try.ntmps27
    go_wp2_with (first | (go_at_call 48; refine (CH.out _ _ _ c0).mono ?_; rintro e w1 ⟨rfl, rfl⟩) | (go_at_call 54; refine (SU.out _).mono ?_; rintro e w1 ⟨v1, rfl, hO1, hk1⟩))
    go_ret2
    exact hfin.out _ _ (hk.trans hk1) (own_base hO1 hk.size)
  · obtain ⟨z, HZ⟩ : ∃ z, Hid (z = wordC 20 2 l) := ⟨_, rfl⟩
    rw [← HZ.out] at CH h ⊢
    have hfin : Hid (∀ w', Kept w w' → ListPost w z (srt (inss l 2)) (.returned (.tuple #[.slice none 0 0, .int .i64 z])) w') := fun w' k => ⟨k, fun _ => rfl, fun h2 => absurd h2 h⟩
    have e1 : (z != 0) = true := by simp [h]
    clear h
    go_enter Try.func27, Try.ntmps27
    go_wp2_with (first | (go_at_call 48; refine (CH.out _ _ _ c0).mono ?_; rintro e w1 ⟨rfl, rfl⟩))
    go_ret2
    exact hfin.out _ hk
theorem allW2 : ∀ k, k ≤ 12 → (allW 2 k).length ≤ 5000 := fun k hk => by
  rw [allW_count]
  have := Nat.pow_le_pow_right (n := 2) (by omega) hk
  omega
/-- the words of a code of letters -/
def codeL (n a : Nat) : List Wd := wordsF 2 n (hasL n a)
set_option maxRecDepth 100000 in
set_option maxHeartbeats 1000000 in
theorem Words_any (w : World) (n a : Int) : Calls Try.prog 11 #[.int .i64 n, .int .i64 a] w (ListPost w (if upL n a 12 then 0 else 1) (codeL n.toNat a.toNat)) := by
  have LC := Lib.hid (fun W => letterCode_any W n a)
  have UP := Lib.hid (fun W => isUpTo_let W n a 12)
  unfold CodePost at LC
  cases h : upL n a 12
  · rw [h] at UP
    have hfin : Hid (∀ w', Kept w w' → ListPost w (if false = true then 0 else 1) (codeL n.toNat a.toNat) (.returned (.tuple #[.slice none 0 0, .int .i64 1])) w') := fun w' k => ⟨k, fun _ => rfl, fun h2 => absurd h2 (by decide)⟩
    clear h
    go_enter Try.func11, Try.ntmps11
    go_wp2_with (first | (go_at_call 37; refine (LC.out _).mono ?_; rintro e w1 ⟨rfl, hk1⟩; obtain ⟨c0, c1, c2, c3, c4⟩ := sbox5 w1 (.int .i64 0) (.int .i64 n) (.int .i64 2) (.int .i64 a) (.int .i64 0) 77; have hk5 := (Kept.refl w1).alloc (.cells #[.int .i64 0, .int .i64 n, .int .i64 2, .int .i64 a, .int .i64 0] 77)) | (go_at_call 38; refine (UP.out _).mono ?_; rintro e w2 ⟨rfl, hk2⟩))
    go_ret2
    exact hfin.out _ ((hk1.trans hk5).trans hk2)
  · obtain ⟨hn1, ha1⟩ : (1 ≤ n ∧ n ≤ 12) ∧ (0 ≤ a ∧ a ≤ n) := by
      unfold upL within at h
      rw [Bool.and_eq_true] at h
      exact ⟨of_decide_eq_true h.1, of_decide_eq_true h.2⟩
    obtain ⟨k, rfl⟩ : ∃ k : Nat, n = k := ⟨n.toNat, by omega⟩
    obtain ⟨j, rfl⟩ : ∃ k : Nat, a = k := ⟨a.toNat, by omega⟩
    rw [h] at UP
    have WO := Lib.hid (fun W => words_any W 0 j 0 k 2 (hasL k j) (by omega) (by omega) (fun i hi => allW2 i (by omega)) (fun W l hl => has_let W k j l (by omega) (by rw [allW_len 2 k l hl]; omega)))
    unfold RowPost at WO
    have hfin : Hid (∀ w' v, Kept w w' → w'.ownsRow w.heap.size 9 1 v (codeL k j).length (wds (codeL k j)) → ListPost w (if true = true then 0 else 1) (codeL (k : Int).toNat (j : Int).toNat) (.returned (.tuple #[v, .int .i64 0])) w') := fun w' v k h2 => ⟨k, fun h3 => absurd rfl h3, fun _ => ⟨v, rfl, h2⟩⟩
    clear h hn1 ha1
    go_enter Try.func11, Try.ntmps11
    go_wp2_with (first
      | (go_at_call 37; refine (LC.out _).mono ?_; rintro e w1 ⟨rfl, hk1⟩; obtain ⟨c0, c1, c2, c3, c4⟩ := sbox5 w1 (.int .i64 0) (.int .i64 (k : Int)) (.int .i64 2) (.int .i64 (j : Int)) (.int .i64 0) 77; have hk5 := (Kept.refl w1).alloc (.cells #[.int .i64 0, .int .i64 (k : Int), .int .i64 2, .int .i64 (j : Int), .int .i64 0] 77))
      | (go_at_call 38; refine (UP.out _).mono ?_; rintro e w2 ⟨rfl, hk2⟩; obtain ⟨d0, d1, d2, d3, d4, hk2⟩ := keep5 c0 c1 c2 c3 c4 hk2)
      | (go_at_call 41; refine (WO.out _).mono ?_; rintro e w3 ⟨v3, rfl, hO3, hk3⟩))
    go_ret2
    exact hfin.out _ _ (((hk1.trans hk5).trans hk2).trans hk3) (own_base hO3 ((hk1.trans hk5).trans hk2).size)
end Go.Proofs.Ytjcgplocifmolaa
