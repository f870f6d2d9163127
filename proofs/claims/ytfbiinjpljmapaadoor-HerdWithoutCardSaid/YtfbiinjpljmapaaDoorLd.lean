/-
  HerdWithout.
-/
import Derived.Test.YtfbiinjpljmapaaDoorLc
import Derived.Test.YtfbiinjpljmapaaDoorIm
namespace Go.Proofs.YtfbiinjpljmapaaDoor
open Go.RowKit Go.Deep Go.Shelf

theorem without1_any (W : World) (i : Nat) : Calls Tryd.prog 31 #[.int .i64 i] W fun e w' => e = .returned (.bool true) ∧ Quiet W w' := by
  go_enter Tryd.func31, Tryd.ntmps31
  go_wp2_with fail
  go_ret
  exact ⟨rfl, (by repeat (first | assumption | exact Quiet.refl _ | apply Quiet.drewN | apply Quiet.drew))⟩
theorem without2_any (W : World) (i v B : Nat) (hb : W.cell? ⟨B, 0, none⟩ = some (.int .i64 v)) : Calls Tryd.prog 32 #[.int .i64 i, .pointer (some ⟨B, 0, none⟩)] W fun e w' => e = .returned (.bool (!decide (i = v))) ∧ Quiet W w' := by
  by_cases h : i = v
  · have e1 : ((i : Int) == (v : Int)) = true := by rw [nat_beq]; simp [h]
    have e2 : (!decide (i = v)) = false := by simp [h]
    rw [e2]
    clear e2
    go_enter Tryd.func32, Tryd.ntmps32
    go_wp2_with fail
    go_ret
    first | exact ⟨rfl, (by repeat (first | assumption | exact Quiet.refl _ | apply Quiet.drewN | apply Quiet.drew))⟩ | exact ⟨ret_bool (by unfold bne; rw [e1]; rfl), (by repeat (first | assumption | exact Quiet.refl _ | apply Quiet.drewN | apply Quiet.drew))⟩
  · have e1 : ((i : Int) == (v : Int)) = false := by rw [nat_beq]; simp [h]
    have e2 : (!decide (i = v)) = true := by simp [h]
    rw [e2]
    clear e2
    go_enter Tryd.func32, Tryd.ntmps32
    go_wp2_with fail
    go_ret
    first | exact ⟨rfl, (by repeat (first | assumption | exact Quiet.refl _ | apply Quiet.drewN | apply Quiet.drew))⟩ | exact ⟨ret_bool (by unfold bne; rw [e1]; rfl), (by repeat (first | assumption | exact Quiet.refl _ | apply Quiet.drewN | apply Quiet.drew))⟩
theorem without3_any (W : World) (i v A B n : Nat) (F : Nat → Nat → Bool) (av : Value) (ha : W.cell? ⟨A, 0, none⟩ = some av) (hb : W.cell? ⟨B, 0, none⟩ = some (.int .i64 v)) (hG : GridAt W av n F) (hi : i < n) (hv : v < n) : Calls Tryd.prog 33 #[.int .i64 i, .pointer (some ⟨A, 0, none⟩), .pointer (some ⟨B, 0, none⟩)] W fun e w' => e = .returned (.bool (F v i)) ∧ Quiet W w' := by
  obtain ⟨g, cap, R, rfl, hG⟩ := hG
  have u0 := hG.sl v hv
  have y0 := (hG.rw v hv).cell (i := i) hi
  have a0 : (0 : Int) ≤ (v : Int) := by omega
  have a1 : (v : Int) < (n : Int) := by omega
  have a2 : (0 : Int) ≤ (i : Int) := by omega
  have a3 : (i : Int) < (n : Int) := by omega
  simp only [slV] at u0
  generalize R v = r at *
  generalize F v i = fb at *
  clear hG
  go_enter Tryd.func33, Tryd.ntmps33
  go_wp2_with fail
  go_ret
  exact ⟨rfl, (by repeat (first | assumption | exact Quiet.refl _ | apply Quiet.drewN | apply Quiet.drew))⟩
theorem al_bound {F : Nat → Nat → Bool} : ∀ (k : Nat) (P : Nat → Bool), -((2 ^ k : Nat) : Int) ≤ al F k P ∧ al F k P ≤ ((2 ^ k : Nat) : Int) := by
  intro k
  induction k with
  | zero => intro P; simp [al]
  | succ k ih =>
    intro P
    have h1 := ih P
    have h2 := ih (fun i => P i && F k i)
    simp only [al]
    rw [Nat.pow_succ]
    split <;> omega
set_option maxRecDepth 100000 in
set_option maxHeartbeats 16000000 in
theorem without_any (w : World) (a s x : Nat) (ha : a < 256) (hs : s < 18446744073709551616) (hx : x < 256) : Calls Tryd.prog 10 #[.int .u8 a, .int .u64 s, .int .u8 x] w (LivesPost w) := by
  have LV := Lib.hid lives_any
  have MD := Lib.hid (made_any w a s ha hs)
  unfold MadePost at MD
  obtain ⟨k, HK⟩ : ∃ k, Hid (k = a % 9 + 1) := ⟨_, rfl⟩
  have hk1 : 1 ≤ k := by rw [HK.out]; omega
  have hk9 : k ≤ 9 := by rw [HK.out]; omega
  rw [← HK.out] at MD
  clear HK
  have hpairs := mad_pairs s k
  have hlen := mad_len (s := s) hk9
  obtain ⟨l, HL⟩ : ∃ l, Hid (l = madL s k) := ⟨_, rfl⟩
  rw [← HL.out] at MD hpairs hlen
  clear HL
  have AP := Lib.hid (fun W v (h : PrsAt W v l) => Along_any W k v l.length (prA l) (prB l) hk1 (by omega) h (by omega) hpairs)
  unfold AlongPost at AP
  have hsym := adj_sym (n := (k : Int)) l.length k hpairs
  obtain ⟨F, HF⟩ : ∃ F, Hid (F = adjP (prA l) (prB l) l.length) := ⟨_, rfl⟩
  rw [← HF.out] at hsym AP
  clear HF hpairs hlen
  obtain ⟨v, HV⟩ : ∃ v, Hid (v = x % k) := ⟨_, rfl⟩
  have hv : v < k := by rw [HV.out]; exact Nat.mod_lt _ (by omega)
  have ev : Int.tmod (x : Int) (k : Int) = (v : Int) := by rw [HV.out]; exact (Int.ofNat_tmod x k).symm
  have ev2 : (x : Int) % (k : Int) = (v : Int) := by rw [HV.out]; exact (Int.natCast_emod x k).symm
  have k0 : ¬ (k : Int) = 0 := by omega
  have k1 : ((k : Int) == 0) = false := by simp; omega
  have hout := al_out hsym hv
  have b1 := al_bound (F := F) k (fun i => !decide (i = v))
  have b2 := al_bound (F := F) k (fun i => F v i)
  have hp : 2 ^ k ≤ 2 ^ 9 := Nat.pow_le_pow_right (by omega) hk9
  have S1 := Lib.hid (fun W vv (h : GridAt W vv k F) => signed_any W vv k F h hk9 (fun _ => true) 31 #[] (enters_of Tryd.func31 (by kernel_rfl) rfl) (fun W i _ _ => without1_any W i) hsym)
  have S2 := Lib.hid (fun W vv B (h : GridAt W vv k F) (hb : W.cell? ⟨B, 0, none⟩ = some (.int .i64 v)) => signed_any W vv k F h hk9 (fun i => !decide (i = v)) 32 #[.pointer (some ⟨B, 0, none⟩)] (enters_of Tryd.func32 (by kernel_rfl) rfl) (fun W2 i _ hK => without2_any W2 i v B (hK.cellSome hb)) hsym)
  have S3 := Lib.hid (fun W vv A B (h : GridAt W vv k F) (ha : W.cell? ⟨A, 0, none⟩ = some vv) (hb : W.cell? ⟨B, 0, none⟩ = some (.int .i64 v)) => signed_any W vv k F h hk9 (fun i => F v i) 33 #[.pointer (some ⟨A, 0, none⟩), .pointer (some ⟨B, 0, none⟩)] (enters_of Tryd.func33 (by kernel_rfl) rfl) (fun W2 i hi hK => without3_any W2 i v A B k F vv (hK.cellSome ha) (hK.cellSome hb) (h.kept hK) hi hv) hsym)
  obtain ⟨o, HO⟩ : ∃ o, Hid (o = al F k (fun _ => true)) := ⟨_, rfl⟩
  obtain ⟨r, HR⟩ : ∃ o, Hid (o = al F k (fun i => !decide (i = v))) := ⟨_, rfl⟩
  obtain ⟨q, HQ⟩ : ∃ o, Hid (o = al F k (fun i => F v i)) := ⟨_, rfl⟩
  rw [← HO.out] at S1 hout
  rw [← HR.out] at S2 hout b1
  rw [← HQ.out] at S3 hout b2
  have hwr : IntKind.i64.wrap (r - q) = o := by rw [hout]; exact IntWalk.i64_in _ (by omega)
  clear HO HR HQ hsym b1 b2 hp HV hout
  go_enter Tryd.func10, Tryd.ntmps10
  go_wp2_with (first | (go_at_call 23; refine MD.out.mono ?_; clear MD; rintro e w1 ⟨v1', rfl, hv1, hk1'⟩) | (go_at_call 17; refine (AP.out _ _ (PairsAt.kept hv1 ((Kept.refl _).alloc _))).mono ?_; clear AP; rintro e w2 ⟨v2', rfl, hg2, hk2'⟩; have hgx := hg2; obtain ⟨g2, gc2, R2, rfl, _⟩ := hgx))
  have hKb : Kept w2 (w2.alloc (.cells #[.slice (some ⟨g2, 0, none⟩) k gc2] 35)) := (Kept.refl w2).alloc _
  have hA := (cell_newbox w2 (.slice (some ⟨g2, 0, none⟩) k gc2) 35).1
  have hB := hKb.cellSome (hk2'.cellSome (cell_newbox w1 (.int .i64 v) 3).1)
  have hGb := hg2.kept hKb
  have hKw := ((hk1'.alloc (.cells #[.int .i64 v] 3)).trans hk2').trans hKb
  generalize w2.alloc (.cells #[.slice (some ⟨g2, 0, none⟩) k gc2] 35) = W3 at *
  clear hKb hk1' hk2' hg2
  go_wp2_with (first | (go_at_call 30; refine (S1.out _ _ hGb).mono ?_; clear S1; rintro e w4 ⟨rfl, hk4⟩; have hA4 := hk4.cellSome hA) | (go_at_call 30; refine (S2.out _ _ _ (hGb.kept hk4) (hk4.cellSome hB)).mono ?_; clear S2; rintro e w5 ⟨rfl, hk5⟩; have hA5 := hk5.cellSome hA4) | (go_at_call 30; refine (S3.out _ _ _ _ ((hGb.kept hk4).kept hk5) (hk5.cellSome (hk4.cellSome hA)) (hk5.cellSome (hk4.cellSome hB))).mono ?_; clear S3; rintro e w6 ⟨rfl, hk6⟩) | (go_at_call 14; refine (LV.out _).mono ?_; rintro e w7 ⟨rfl, hk7⟩))
  go_ret
  exact ⟨rfl, (((hKw.trans hk4).trans hk5).trans hk6).trans hk7⟩
end Go.Proofs.YtfbiinjpljmapaaDoor
