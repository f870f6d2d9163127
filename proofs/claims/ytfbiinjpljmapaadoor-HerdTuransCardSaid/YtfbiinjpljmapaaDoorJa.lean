/-
  Package herd: parted, Turan.
-/
import Derived.Test.YtfbiinjpljmapaaDoorHq
import Derived.Test.YtfbiinjpljmapaaDoorHm
import Derived.Deep.RegionWith
namespace Go.Proofs.YtfbiinjpljmapaaDoor
open Go.RowKit Go.Deep

/-- how many horses are in the first parts -/
def fstN (n r : Nat) : Nat → Nat
  | 0 => 0
  | k + 1 => fstN n r k + partN n r k
/-- with which others horse i of Turan's herd gets along, once the first parts are written -/
def ptH (n r : Nat) : Nat → Nat → Nat
  | 0 => fun _ => 0
  | k + 1 => fun i => if fstN n r k ≤ i ∧ i < fstN n r (k + 1) then bsub (allH n) (2 ^ fstN n r (k + 1) - 2 ^ fstN n r k) else ptH n r k i
theorem fst_all : (List.range 10).all (fun n => (List.range 10).all fun r => (List.range 10).all fun k => r == 0 || decide (r < k) || decide (fstN n r k ≤ n)) = true := by decide +kernel
theorem fst_le {n r k : Nat} (hn : n ≤ 9) (hr : 1 ≤ r) (hr2 : r ≤ 9) (hk : k ≤ r) : fstN n r k ≤ n := by
  have h := fst_all
  rw [List.all_eq_true] at h
  have h1 := h n (by simp; omega)
  rw [List.all_eq_true] at h1
  have h2 := h1 r (by simp; omega)
  rw [List.all_eq_true] at h2
  have h3 := h2 k (by simp; omega)
  simp at h3
  omega
def PartedPost (w : World) (n r : Nat) (e : Ending) (w' : World) : Prop := ∃ g, e = .returned (.slice (some ⟨g, 0, none⟩) n n) ∧ w.heap.size ≤ g ∧ w'.rowIs g 80 n (fun i => setV (ptH n r r i)) ∧ Kept w w'
set_option maxRecDepth 100000 in
set_option maxHeartbeats 8000000 in
theorem parted_any (w : World) (n r : Nat) (hn : n ≤ 9) (hr : 1 ≤ r) (hr2 : r ≤ 9) :
    Calls Tryd.prog 43 #[.int .i64 n, .int .i64 r] w (PartedPost w n r) := by
  have hmk := fun W => mkHerd n (by omega) W
  have hrow := World.rowIs_made w (.int .u16 0) n 80
  have hk0 : Kept w (w.alloc (.cells (madeCells #[.int .u16 0] n) 80)) := (Kept.refl w).alloc _
  have PS := Lib.hid (fun W (p : Nat) => partSize_any W n r p (by omega) hr (by omega))
  have hal := allH_lt (n := n) (by omega)
  have AL := Lib.hid (fun W (a : Option Addr) (cap : Nat) => all_any W a n cap (by omega))
  have HF := Lib.hid (fun k hk => fst_le (n := n) (r := r) (k := k) hn hr hr2 hk)
  go_enter Tryd.func43, Tryd.ntmps43
  go_wp2_with fail
  obtain ⟨g, HG⟩ : ∃ r, Hid (r = w.heap.size) := ⟨_, rfl⟩
  have hrs : w.heap.size ≤ g := by rw [HG.out]; exact Nat.le_refl _
  rw [← HG.out] at hrow ⊢
  generalize w.alloc (.cells (madeCells #[.int .u16 0] n) 80) = W0 at *
  clear hmk
  go_loopg [6, 13] r (fun q s6 s13 wr => ∃ k : Nat, k ≤ r ∧ q = r - k ∧ s6 = .int .i64 (fstN n r k) ∧ s13 = .int .i64 k ∧ Kept w wr ∧ wr.rowIs g 80 n (fun i => setV (ptH n r k i)))
  case atStart => exact ⟨0, Nat.zero_le _, rfl, rfl, rfl, hk0, hrow⟩
  case round =>
    clear hk0 hrow
    obtain ⟨k, hk, rfl, rfl, rfl, hK, hR⟩ := hrel
    by_cases hlt : k < r
    · have s1 : (k : Int) < (r : Int) := by omega
      have hb1 := HF.out k (by omega)
      have hb2 := HF.out (k + 1) (by omega)
      have hnext : Hid (fstN n r (k + 1) = fstN n r k + partN n r k) := rfl
      have PK := Lib.hid (fun W => PS.out W k)
      obtain ⟨F, HFF⟩ : ∃ F, Hid (F = fstN n r k) := ⟨_, rfl⟩
      obtain ⟨p, HP⟩ : ∃ p, Hid (p = partN n r k) := ⟨_, rfl⟩
      obtain ⟨E, HE⟩ : ∃ E, Hid (E = fstN n r (k + 1)) := ⟨_, rfl⟩
      rw [← HP.out] at PK hnext
      rw [← HFF.out] at hb1 hnext
      rw [← HE.out] at hb2 hnext
      rw [← HFF.out]
      have hEF := hnext.out
      have hFE : F ≤ E := by omega
      have we : IntKind.i64.wrap ((F : Int) + (p : Int)) = (E : Int) := by rw [hEF]; exact IntWalk.i64_in _ (by omega)
      obtain ⟨P, HPP⟩ : ∃ p : Nat, Hid (p = 2 ^ E) := ⟨2 ^ E, rfl⟩
      obtain ⟨Q, HQ⟩ : ∃ q : Nat, Hid (q = 2 ^ F) := ⟨2 ^ F, rfl⟩
      have e0 : (2 : Int) ^ E = (P : Int) := by rw [HPP.out]; simp
      have e1 : (2 : Int) ^ F = (Q : Int) := by rw [HQ.out]; simp
      have p1 : P < 65536 := by rw [HPP.out]; exact pow16 (by omega)
      have q1 : Q ≤ P := by rw [HPP.out, HQ.out]; exact Nat.pow_le_pow_right (by omega) (by omega)
      obtain ⟨V, HV⟩ : ∃ V : Nat, Hid (V = bsub (allH n) (P - Q)) := ⟨_, rfl⟩
      have hv := andNot16 (allH n) (P - Q) hal (by omega)
      have hpt : Hid (∀ i, ptH n r (k + 1) i = if F ≤ i ∧ i < E then V else ptH n r k i) := fun i => by
        rw [HV.out, HPP.out, HQ.out, HFF.out, HE.out]
        rfl
      have wP : IntKind.u16.wrap (P : Int) = (P : Int) := wr16 _ p1
      have wQ : IntKind.u16.wrap (Q : Int) = (Q : Int) := wr16 _ (by omega)
      have hd : ((P : Int) - (Q : Int)) = ((P - Q : Nat) : Int) := by omega
      have hdw : IntKind.u16.wrap (((P - Q : Nat) : Int)) = ((P - Q : Nat) : Int) := wr16 _ (by omega)
      rw [← HV.out] at hv
      obtain ⟨D, HD⟩ : ∃ D : Nat, Hid (D = P - Q) := ⟨_, rfl⟩
      rw [← HD.out] at hv hd hdw
      obtain ⟨X, HX⟩ : ∃ X : Nat, Hid (X = allH n) := ⟨_, rfl⟩
      rw [← HX.out] at hv AL hal
      clear HP HPP HQ HV HX hEF PS
      go_wp2_with (first | (go_at_call 45; refine (PK.out _).mono ?_; rintro e w1 ⟨rfl, rfl⟩))
      go_loopg [9] (E - F) (fun q s9 wi => ∃ j : Nat, j ≤ E ∧ F ≤ j ∧ q = E - j ∧ s9 = .int .i64 j ∧ Kept w wi ∧ wi.rowIs g 80 n (fun i => setV (if F ≤ i ∧ i < j then V else ptH n r k i)))
      case atStart => exact ⟨F, by omega, Nat.le_refl _, rfl, by first | rfl | go_num, hK, hR.congr (fun i _ => by rw [if_neg (by omega)])⟩
      case round =>
        clear hK hR
        obtain ⟨j, hj, hj2, rfl, rfl, hK, hR⟩ := hrel
        by_cases hjl : j < E
        · have s2 : (j : Int) < (E : Int) := by omega
          have s3 : (0 : Int) ≤ (j : Int) := by omega
          have s4 : (j : Int) < (n : Int) := by omega
          have f0 := hR.frozen j
          have t0 := hR.cell (i := j) (by omega)
          have hR2 := (hR.set j (setV V)).congr (g := fun i => setV (if F ≤ i ∧ i < j + 1 then V else ptH n r k i)) (fun i _ => by
            by_cases e : i = j
            · rw [if_pos e, if_pos (by omega)]
            · rw [if_neg e]
              by_cases h : F ≤ i ∧ i < j
              · rw [if_pos h, if_pos (by omega)]
              · rw [if_neg h, if_neg (by omega)])
          have hK2 := hK.setCell (p := ⟨g, j, none⟩) (by show w.heap.size ≤ g; omega) (setV V)
          go_wp2_with fail
          go_region_with (first | (go_at_call 61; refine (AL.out _ _ _).mono ?_; rintro e w2 ⟨rfl, rfl⟩))
          all_goals
            (try simp only [wP, wQ, hd, hdw, hv])
            have hR3 := hR2.drew
            have hK3 := hK2.drew
            (try simp only [setV] at hR3); (try simp only [setV] at hK3)
            clear hR2 hK2 hR hK t0 f0
            go_wp2_with fail
            go_roundg (E - (j + 1))
            case measure => omega
            case rel => exact ⟨j + 1, by omega, by omega, rfl, by go_num, hK3, hR3⟩
        · obtain rfl : j = E := by omega
          go_wp2_with fail
          go_roundg (r - (k + 1))
          case measure => omega
          case rel => exact ⟨k + 1, by omega, rfl, by rw [HE.out], by go_num, hK, hR.congr (fun i _ => by rw [hpt.out])⟩
    · obtain rfl : k = r := by omega
      go_wp2_with fail
      go_ret
      exact ⟨g, rfl, hrs, hR, hK⟩
end Go.Proofs.YtfbiinjpljmapaaDoor
