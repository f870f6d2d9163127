/-
  The law MarkLevenshtein, walked.
-/
import Derived.Test.YtgphaggkgcnidaaLw
import Derived.Test.YtgphaggkgcnidaaYa
import Derived.Test.YtgphaggkgcnidaaRb
import Derived.Test.YtgphaggkgcnidaaVa
namespace Go.Proofs.Ytgphaggkgcnidaa
open Go.RowKit Go.Deep Go.Sort

theorem bin_wordM {l : Wd} {m : Nat} (h : Bin l) (hl : l.length ≤ m) : wordC m 2 l = 0 := by
  unfold wordC
  rw [if_pos hl, if_pos (belB_dig.2 (bin_dig.2 h))]
theorem upL_ok {n a : Nat} (h1 : 1 ≤ n) (h2 : n ≤ 20) (h3 : a ≤ n) : upL n a 20 = true := by
  unfold upL within
  rw [decide_eq_true (by omega), decide_eq_true (by omega)]; rfl
theorem restore_any (W : World) {l : Wd} (hl : Bin l) (hl20 : l.length ≤ 20) {i : Nat} (hi : i < l.length) :
    Calls Try.prog 33 #[.int .i64 (l.length : Nat), .int .i64 (wsum 0 l % (l.length + 1) : Nat), .string (bs (del l i))] W fun e w' => e = .returned (.tuple #[.string (bs l), .int .i64 0]) ∧ Kept W w' := by
  have hd := del_len hi
  have hm := Nat.mod_lt (wsum 0 l) (show 0 < l.length + 1 by omega)
  refine (Restore_any W _ _ (del l i) (by omega)).mono ?_
  rintro e w' ⟨hk, _, h⟩
  refine ⟨?_, hk⟩
  have hc : restC 20 (l.length : Nat) (wsum 0 l % (l.length + 1) : Nat) (del l i) = 0 := by
    unfold restC
    rw [if_pos (bin_wordM (bin_del hl) (by omega)), upL_ok (by omega) hl20 (by omega)]; rfl
  rw [h hc, Int.toNat_natCast, Int.toNat_natCast, restore_is hl hi]; rfl
theorem remove_any (W : World) {l : Wd} (hl : Bin l) (hl20 : l.length ≤ 20) (h1 : 1 ≤ l.length) {k : Nat} (hk : k ≤ l.length) {c : UInt8} (hc : c = 48 ∨ c = 49) :
    Calls Try.prog 34 #[.int .i64 (l.length : Nat), .int .i64 (wsum 0 l % (l.length + 1) : Nat), .string (bs (ins l k c))] W fun e w' => e = .returned (.tuple #[.string (bs l), .int .i64 0]) ∧ Kept W w' := by
  have hil : (ins l k c).length = l.length + 1 := ins_len
  have hm := Nat.mod_lt (wsum 0 l) (show 0 < l.length + 1 by omega)
  refine (Remove_any W _ _ (ins l k c) (by omega)).mono ?_
  rintro e w' ⟨hk2, _, h⟩
  refine ⟨?_, hk2⟩
  have hc2 : restC 21 (l.length : Nat) (wsum 0 l % (l.length + 1) : Nat) (ins l k c) = 0 := by
    unfold restC
    rw [if_pos (bin_wordM (bin_ins hl hc) (by omega)), upL_ok (by omega) hl20 (by omega)]; rfl
  rw [h hc2, Int.toNat_natCast, Int.toNat_natCast, remove_is hl hk hc]; rfl
theorem sum_any (W : World) {l : Wd} (hl : Bin l) (hl20 : l.length ≤ 20) :
    Calls Try.prog 18 #[.string (bs l)] W fun e w' => e = .returned (.tuple #[.int .i64 (wsum 0 l : Nat), .int .i64 0]) ∧ Kept W w' := by
  refine (Sum_any W l (by omega)).mono ?_
  rintro e w' ⟨hk, h⟩
  rw [if_pos (bin_wordM hl hl20)] at h
  exact ⟨h, hk⟩
theorem word_one (W : World) (b x : Nat) (hx : x < 256) (h : W.cell? ⟨b, 0, none⟩ = some (.int .u8 (x : Int))) :
    Calls Try.prog 47 #[.slice (some ⟨b, 0, none⟩) 1 1, .int .i64 2, .int .i64 1] W fun e w' => e = .returned (.string (bs [UInt8.ofNat (48 + x % 2)])) ∧ Quiet W w' := by
  have h1 := word_any W (.slice (some ⟨b, 0, none⟩) 1 1) 1 2 1 (fun _ => x) ⟨_, b, 0, 1, rfl, fun _ => rfl, fun i hi => by
    obtain rfl : i = 0 := by omega
    exact h⟩ (fun _ => hx) (by decide) (by omega) (by omega)
  exact h1
set_option maxRecDepth 100000 in
set_option maxHeartbeats 2000000 in
theorem lev_any (w : World) (v : Value) (nv : Nat) (Z : Nat → Nat) (hV : BytesAt w v nv Z) (hZ : ∀ i, Z i < 256) (hn : nv ≤ maxLen) (p letter : Nat) (hp : p < 256) (hlt : letter < 256) :
    Calls Try.prog 9 #[v, .int .u8 p, .int .u8 letter] w (LivesPost w) := by
  have WO := Lib.hid (word_any w v nv 2 20 Z hV hZ hn (by omega) (by omega))
  obtain ⟨l, HL⟩ : ∃ l, Hid (l = wrd 2 Z (min nv 20)) := ⟨_, rfl⟩
  have hl20 : l.length ≤ 20 := by rw [HL.out, wrd_len]; omega
  have HB : Hid (Bin l) := by show Bin l; rw [HL.out]; exact wrd_bin Z _
  rw [← HL.out] at WO
  obtain ⟨s, HSS⟩ : ∃ s : ByteArray, Hid (s = bs l) := ⟨bs l, Lib.hid rfl⟩
  have LV := Lib.hid lives_any
  rw [← HSS.out] at WO
  unfold LivesPost at LV ⊢
  clear hV hZ
  by_cases h0 : l = []
  · have e1 : s.toList.isEmpty = true := by rw [HSS.out, h0, ByteArray.toList_eq]; rfl
    clear h0
    go_enter Try.func9, Try.ntmps9
    go_wp2_with (first
      | (go_at_call 47; refine WO.out.mono ?_; rintro e w1 ⟨rfl, hq1⟩; have hk1 := hq1.kept)
      | (go_at_call 22; refine (LV.out _).mono ?_; rintro e w4 ⟨rfl, hk4⟩))
    go_ret
    exact ⟨rfl, hk1.trans hk4⟩
  · have e1 : s.toList.isEmpty = false := by
      have : 0 < s.toList.length := by rw [ByteArray.toList_eq, HSS.out]; exact List.length_pos_iff.2 h0
      cases hh : s.toList with
      | nil => rw [hh] at this; simp at this
      | cons a t => rfl
    have hl1 : 1 ≤ l.length := List.length_pos_iff.2 h0
    clear h0
    obtain ⟨n, HN⟩ : ∃ n, Hid (n = l.length) := ⟨_, rfl⟩
    have hsz : s.size = n := by rw [HSS.out, HN.out]; rfl
    have hi := Nat.mod_lt p (show 0 < l.length by omega)
    have hk := Nat.mod_lt p (show 0 < l.length + 1 by omega)
    have hbit := Nat.mod_lt letter (show 0 < 2 by omega)
    obtain ⟨i, HI⟩ : ∃ i, Hid (i = p % l.length) := ⟨_, rfl⟩
    obtain ⟨k, HK⟩ : ∃ i, Hid (i = p % (l.length + 1)) := ⟨_, rfl⟩
    obtain ⟨b, HBT⟩ : ∃ i, Hid (i = letter % 2) := ⟨_, rfl⟩
    rw [← HI.out] at hi
    rw [← HK.out] at hk
    rw [← HBT.out] at hbit
    have hcb : UInt8.ofNat (48 + b) = 48 ∨ UInt8.ofNat (48 + b) = 49 := by
      rcases (by omega : b = 0 ∨ b = 1) with h | h <;> rw [h]
      · exact .inl rfl
      · exact .inr rfl
    have RE := Lib.hid (fun W => restore_any W HB.out hl20 hi)
    have RM := Lib.hid (fun W => remove_any W HB.out hl20 hl1 (show k ≤ l.length by omega) hcb)
    have SM := Lib.hid (fun W => sum_any W HB.out hl20)
    have RS := Lib.hid (fun W => rSum_any W l (by omega))
    have WL := Lib.hid (fun (W : World) (bb : Nat) (h : W.cell? ⟨bb, 0, none⟩ = some (.int .u8 (letter : Int))) => word_one W bb letter hlt h)
    rw [← HBT.out] at WL
    obtain ⟨C, HC⟩ : ∃ x : ByteArray, Hid (x = bs [UInt8.ofNat (48 + b)]) := ⟨_, Lib.hid rfl⟩
    have hCs : C.size = 1 := by rw [HC.out]; rfl
    rw [← HC.out] at WL
    have hX : bs (del l i) = s.extract 0 i ++ s.extract (i + 1) n := by
      rw [HSS.out, HN.out, bs_extract, bs_extract, bs_append]
      unfold del
      rw [List.drop_zero, Nat.sub_zero, List.take_of_length_le (l := l.drop (i + 1)) (by simp)]
    have hY : bs (ins l k (UInt8.ofNat (48 + b))) = s.extract 0 k ++ C ++ s.extract k n := by
      rw [HSS.out, HN.out, HC.out, bs_extract, bs_extract, bs_append, bs_append]
      unfold ins
      rw [List.drop_zero, Nat.sub_zero, List.take_of_length_le (l := l.drop k) (by simp), List.append_assoc]; rfl
    obtain ⟨x, HXX⟩ : ∃ x, Hid (x = wsum 0 l) := ⟨_, rfl⟩
    obtain ⟨a, HA⟩ : ∃ x, Hid (x = wsum 0 l % (l.length + 1)) := ⟨_, rfl⟩
    rw [← HA.out, hX, ← HSS.out, ← HN.out] at RE
    rw [← HA.out, hY, ← HSS.out, ← HN.out] at RM
    rw [← HSS.out, ← HXX.out] at SM RS
    have em1 : Int.tmod (p : Int) (n : Int) = (i : Int) := by rw [HI.out, HN.out]; exact (Int.ofNat_tmod p l.length).symm
    have em2 : Int.tmod (p : Int) ((n : Int) + 1) = (k : Int) := by rw [HK.out, HN.out]; exact (Int.ofNat_tmod p (l.length + 1)).symm
    have em3 : Int.tmod (x : Int) ((n : Int) + 1) = (a : Int) := by rw [HA.out, HXX.out, HN.out]; exact (Int.ofNat_tmod (wsum 0 l) (l.length + 1)).symm
    have ha := Nat.mod_lt (wsum 0 l) (show 0 < l.length + 1 by omega)
    rw [← HA.out] at ha
    rw [← HN.out] at hi hk ha hl20 hl1
    have n1 : ¬ ((n : Int) = 0) := by omega
    have n2 : ¬ ((n : Int) + 1 = 0) := by omega
    have w1 : IntKind.i64.wrap ((n : Int) + 1) = (n : Int) + 1 := IntWalk.i64_in _ (by omega)
    have w2 : IntKind.i64.wrap (i : Int) = (i : Int) := IntWalk.i64_in _ (by omega)
    have w3 : IntKind.i64.wrap (k : Int) = (k : Int) := IntWalk.i64_in _ (by omega)
    have w4 : IntKind.i64.wrap (a : Int) = (a : Int) := IntWalk.i64_in _ (by omega)
    have w5 : IntKind.i64.wrap ((i : Int) + 1) = (i : Int) + 1 := IntWalk.i64_in _ (by omega)
    have t5 : ((i : Int) + 1).toNat = i + 1 := by omega
    have q1 : (0 : Int) ≤ (i : Int) := by omega
    have q2 : (i : Int) ≤ (n : Int) := by omega
    have q3 : (0 : Int) ≤ (i : Int) + 1 := by omega
    have q4 : (i : Int) + 1 ≤ (n : Int) := by omega
    have q5 : (0 : Int) ≤ (k : Int) := by omega
    have q6 : (k : Int) ≤ (n : Int) := by omega
    have z1 : (s.extract 0 i).size = i := by rw [ByteArray.size_extract]; omega
    have z2 : (s.extract (i + 1) n).size = n - (i + 1) := by rw [ByteArray.size_extract]; omega
    have z3 : (s.extract 0 k).size = k := by rw [ByteArray.size_extract]; omega
    have z4 : (s.extract k n).size = n - k := by rw [ByteArray.size_extract]; omega
    have z5 : ¬ 9223372036854775807 < i + (n - (i + 1)) := by omega
    have z6 : ¬ 9223372036854775807 < k + 1 := by omega
    have z7 : ¬ 9223372036854775807 < k + 1 + (n - k) := by omega
    clear hX hY hcb
    go_enter Try.func9, Try.ntmps9
    go_wp2_with (first
      | (go_at_call 47; refine WO.out.mono ?_; rintro e w1 ⟨rfl, hq1⟩; have hk1 := hq1.kept)
      | (go_at_call 23; refine (RS.out _).mono ?_; rintro e w2 ⟨rfl, rfl⟩))
    go_quiet (fail)
    go_wp2_with fail
    go_region_with (first | (go_at_call 33; refine (RE.out _).mono ?_; rintro e w3 ⟨rfl, hk3⟩; have hk3 : Kept w w3 := (by repeat (first | assumption | exact Kept.refl _ | apply Kept.drew | apply Kept.drewN | apply Kept.alloc | refine Kept.trans ?_ (by assumption)))))
    all_goals
      have bx := sbox1 w3 (.int .u8 (letter : Int)) 5
      go_wp2_with fail
      go_region_with (first
        | (go_at_call 47; refine (WL.out _ _ (by (try simp only [World.cell?_drew]); exact bx)).mono ?_; rintro e w4 ⟨rfl, hq4⟩; have hk4 : Kept w w4 := (show Kept w _ from (by first | exact (hk3.alloc _).drew | exact hk3.alloc _ | exact ((hk3.drew).alloc _).drew | exact (hk3.drew).alloc _)).trans hq4.kept)
        | (go_at_call 34; refine (RM.out _).mono ?_; rintro e w5 ⟨rfl, hk5⟩; have hk5 : Kept w w5 := (by repeat (first | assumption | exact Kept.refl _ | apply Kept.drew | apply Kept.drewN | apply Kept.alloc | refine Kept.trans ?_ (by assumption)))))
      all_goals
        go_wp2_with (first
          | (go_at_call 18; refine (SM.out _).mono ?_; rintro e w6 ⟨rfl, hk6⟩)
          | (go_at_call 22; refine (LV.out _).mono ?_; rintro e w7 ⟨rfl, hk7⟩))
        go_ret
        exact ⟨rfl, (hk5.trans hk6).trans hk7⟩
end Go.Proofs.Ytgphaggkgcnidaa
