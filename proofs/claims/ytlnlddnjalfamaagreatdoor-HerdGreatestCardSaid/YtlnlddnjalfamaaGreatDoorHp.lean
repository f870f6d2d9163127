/-
  Package herd: nums.
-/
import Derived.Test.YtlnlddnjalfamaaGreatDoorHn
import Derived.Test.YtlnlddnjalfamaaGreatDoorHk
namespace Go.Proofs.YtlnlddnjalfamaaGreatDoor
open Go.RowKit Go.Deep

theorem Tryz.infoNum : (Tryz.prog.info? 43).map (fun i => (i.zero, i.size, i.bytes)) = some (some (.string ⟨#[]⟩), 1, 16) := by kernel_rfl
/-- texts in memory -/
def strs (S : Nat → ByteArray) (k : Nat) : List Value := (List.range k).map fun i => .string (S i)
theorem strs_succ (S : Nat → ByteArray) (k : Nat) : strs S (k + 1) = strs S k ++ [.string (S k)] := by simp [strs, List.range_succ]
theorem strs_get {S : Nat → ByteArray} {k i : Nat} (h : i < k) : (strs S k)[i]? = some (.string (S i)) := by simp [strs, h]
abbrev StrsAt (w : World) (v : Value) (n : Nat) (S : Nat → ByteArray) : Prop := CellsAt w v n (fun i => .string (S i))
theorem strs_own {w : World} {base e : Nat} {v : Value} {k : Nat} {S : Nat → ByteArray} (h : w.ownsRow base e 1 v k (strs S k)) : StrsAt w v k S :=
  (CellsAt.of_own h).congr fun i hi => by rw [List.getD_eq_getElem?_getD, strs_get hi]; rfl
/-- the text of a part -/
def partS (x : Nat → Nat) (F : Nat → Nat) (k i : Nat) : ByteArray := fracS (qTB (x i) F k).1 (qTB (x i) F k).2
set_option maxRecDepth 100000 in
set_option maxHeartbeats 4000000 in
theorem nums_any (w : World) (vp vf : Value) (n k : Nat) (Z : Nat → Int) (x F : Nat → Nat) (hP : NatsL w vp n Z) (hZ : ∀ i, i < n → Z i = (x i : Int)) (hv : CellsAt w vf k (fun i => .int .u64 ((F i : Nat) : Int))) (hF : ∀ i, i < k → 0 < F i ∧ F i ≤ 1000000000000) (hk : k ≤ 1000) (hn : n ≤ 1000)
    (hB : ∀ i, i < n → (∀ j, j ≤ k → (((qTB (x i) F j).2 : Nat) : Int) < bigU) ∧ (qTB (x i) F k).1 < 100 ∧ (qTB (x i) F k).2 < 100) :
    Calls Tryz.prog 56 #[.agg #[vp, vf]] w fun e w' => ∃ v, e = .returned v ∧ Kept w w' ∧ StrsAt w' v n (partS x F k) := by
  obtain ⟨P, ⟨a, b, o, cap, rfl, ha, hc⟩, hz⟩ := hP
  obtain ⟨i0, hi, hz0, hz1, hz2⟩ := info_parts Tryz.infoNum
  have HC := Lib.hid hc
  have HZ := Lib.hid hz
  have HX := Lib.hid hZ
  have HB := Lib.hid hB
  have HV := Lib.hid hv
  have QU := Lib.hid (fun (W : World) (i : Nat) (h : i < n) (v : Value) (hx : NatAt W v (x i)) (hk2 : Kept w W) => quotient_digit W v vf (x i) k F hx (hv.kept hk2) hF hk (hB i h).1 (hB i h).2.1 (hB i h).2.2)
  have d0 : (w.alloc (.cells #[.slice a n cap, vf] 101)).cell? ⟨w.heap.size, 0, none⟩ = some (.slice a n cap) := by unfold World.cell?; dsimp only; rw [blk_alloc_new]; rfl
  have d1 : (w.alloc (.cells #[.slice a n cap, vf] 101)).cell? ⟨w.heap.size, 1, none⟩ = some vf := by unfold World.cell?; dsimp only; rw [blk_alloc_new]; rfl
  have hk0 : Kept w (w.alloc (.cells #[.slice a n cap, vf] 101)) := (Kept.refl w).alloc _
  have hs0 : w.heap.size + 1 ≤ (w.alloc (.cells #[.slice a n cap, vf] 101)).heap.size := by simp
  clear hc hz hB hZ hv hF
  go_enter Tryz.func56, Tryz.ntmps56
  go_wp2_with fail
  generalize w.alloc (.cells #[.slice a n cap, vf] 101) = W at *
  go_wp2_with fail
  go_loopg [3, 9] n (fun g s3 s9 wr => ∃ j : Nat, j ≤ n ∧ g = n - j ∧ s9 = .int .i64 j ∧ Kept w wr ∧ Kept W wr ∧ wr.ownsRow W.heap.size 43 1 s3 j (strs (partS x F k) j))
  case atStart => exact ⟨0, Nat.zero_le _, rfl, rfl, hk0, Kept.refl _, World.ownsRow_nil _ _ _ _⟩
  case round =>
    obtain ⟨j, hj, rfl, rfl, hK, hKW, hO⟩ := hrel
    by_cases hlt : j < n
    · obtain rfl := ha (by omega)
      have t0 := hK.cellSome (HC.out j hlt)
      have hz := (HZ.out j hlt).kept hK
      rw [HX.out j hlt] at hz
      have e1 := hKW.cellSome d1
      have hsz := hKW.size
      have s1 : (j : Int) < (n : Int) := by omega
      have s2 : (0 : Int) ≤ (j : Int) := by omega
      obtain ⟨p, HP⟩ : ∃ p, Hid (p = P j) := ⟨_, rfl⟩
      rw [← HP.out] at hz t0
      have QJ := Lib.hid (QU.out wr j hlt p hz hK)
      obtain ⟨S, HS⟩ : ∃ S, Hid (S = partS x F k j) := ⟨_, rfl⟩
      have QS : Hid (Calls Tryz.prog 86 #[p, vf] wr fun e w' => e = .returned (.string S) ∧ Kept wr w') := by
        show Calls _ _ _ _ _
        rw [HS.out]
        exact QJ.out
      have hnext : Hid (strs (partS x F k) (j + 1) = strs (partS x F k) j ++ [.string S]) := by show _ = _; rw [HS.out]; exact strs_succ _ _
      clear HP QJ HS hz
      obtain ⟨va, vcap, rfl⟩ := own_shape hO
      go_wp2_with (first | (go_at_call 86; refine QS.out.mono ?_; rintro e w3 ⟨rfl, hK3⟩) | (at_builtin; refine wpList_append_own _ rfl _ _ 42 rfl W.heap.size 43 i0 (.string ⟨#[]⟩) 1 16 Tryz.underlying42 hi hz0 hz1 hz2 rfl (by decide) _ _ _ rfl ((own_kept hO hK3).alloc _) ⟨_, 0, none⟩ 1 1 [.string S] rfl rfl ?c1 ?c2 ?c3 ?c4 ?c5 ?_))
      case c1 => exact cell_one_new _ _ _
      case c2 => simp [Value.oneCell']
      case c3 => unfold maxLen; omega
      case c4 => omega
      case c5 => have := hK3.size; simp; omega
      intro ov' w2 hO3 hgr _
      have hKW2 : Kept W w2 := ((hKW.trans hK3).alloc _).grew hgr ((own_kept hO hK3).alloc _) (Nat.le_refl _)
      have hK2 : Kept w w2 := hk0.trans hKW2
      have hO4 : w2.ownsRow W.heap.size 43 1 ov' (j + 1) (strs (partS x F k) (j + 1)) := by rw [hnext.out]; exact hO3
      clear hO3 hgr hO
      go_wp2_with fail
      go_roundg (n - (j + 1))
      case measure => omega
      case rel => exact ⟨j + 1, by omega, rfl, by go_num, hK2, hKW2, hO4⟩
    · obtain rfl : j = n := by omega
      go_wp2_with fail
      go_ret
      exact ⟨_, rfl, hK, strs_own hO⟩
end Go.Proofs.YtlnlddnjalfamaaGreatDoor
