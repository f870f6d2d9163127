/-
  The program's matrices, more: determinant.
-/
import Derived.Test.YtlnpipkhofhlnaaM
import Derived.Lib.Hide
namespace Go.Proofs.Ytlnpipkhofhlnaa
open Go.RowKit Go.Deep

def swapI (p k i : Nat) : Nat := if i = p then k else if i = k then p else i
def swapM (M : Nat → Nat → Int) (p k : Nat) (i j : Nat) : Int := M (swapI p k i) j
/-- the determinant without its sign, from step k on, as the program computes it -/
def detS (n : Nat) : Nat → Nat → (Nat → Nat → Int) → Int → Int
  | 0, _, _, last => max last (wrap64 (-last))
  | g + 1, k, M, last => if pivI n M k < 0 then 0 else detS n g (k + 1) (elimM (swapM M (pivI n M k).toNat k) k last) (M (pivI n M k).toNat k)
def detI (n : Nat) (M : Nat → Nat → Int) : Int := detS n n 0 M 1
theorem pivI_spec {n : Nat} {M : Nat → Nat → Int} {k : Nat} (h : ¬ pivI n M k < 0) : ∃ p : Nat, pivI n M k = p ∧ k ≤ p ∧ p < n ∧ M p k ≠ 0 := by
  unfold pivI at h ⊢
  by_cases e : least (fun d => M (k + d) k != 0) (n - k) < n - k
  · rw [if_pos e] at h ⊢
    exact ⟨_, rfl, by omega, by omega, by simpa using (least_some e).1⟩
  · rw [if_neg e] at h; omega
theorem MatOwn.swap {base : Nat} {w w' : World} {n b : Nat} {br : Nat → Nat} {M : Nat → Nat → Int} {p k : Nat} (hp : p < n) (hk : k < n) (h : MatOwn base w n b br M) (hX : KeptX (fun i => i = b) w w') (ht : w'.rowIs b 97 n (fun i => .slice (some ⟨br (swapI p k i), 0, none⟩) n n)) :
    MatOwn base w' n b (fun i => br (swapI p k i)) (swapM M p k) := by
  have hs : ∀ i, i < n → swapI p k i < n := fun i hi => by unfold swapI; split <;> (try split) <;> omega
  refine ⟨ht, fun i hi => hX.row (h.row _ (hs i hi)) (h.ne _ (hs i hi)), h.b0, fun i hi => h.br0 _ (hs i hi), fun i hi => h.ne _ (hs i hi), fun i j hi hj hij => h.rr _ _ (hs i hi) (hs j hj) ?_⟩
  unfold swapI
  (repeat' split) <;> omega

set_option maxRecDepth 100000 in
set_option maxHeartbeats 2000000 in
theorem determinant_any (w : World) (v : Value) (n : Nat) (M : Nat → Nat → Int) (hM : MatRead w v n M) (hn : n ≤ 1000) :
    Calls Try.prog 44 #[v] w fun e w' => e = .returned (.int .i64 (detI n M)) ∧ Kept w w' := by
  go_enter Try.func44, Try.ntmps44
  go_wp2_with fail
  refine (clone_any w v n M hM hn).mono ?_
  rintro e w1 ⟨b, br, rfl, hK1, hO1⟩
  go_wp2_with fail
  go_loopg [3, 10] n (fun g s3 s10 wr => ∃ (k : Nat) (last : Int) (br : Nat → Nat) (N : Nat → Nat → Int), k + g = n ∧ s10 = .int .i64 k ∧ s3 = .int .i64 last ∧ last ≠ 0 ∧ Hid (detI n M = detS n g k N last) ∧ Kept w wr ∧ MatOwn w.heap.size wr n b br N)
  case atStart => exact ⟨0, 1, br, M, by omega, rfl, rfl, by decide, rfl, hK1, hO1⟩
  case round =>
    clear hK1 hO1 hM
    obtain ⟨k, last, br, N, hkg, rfl, rfl, hl, hD, hK, hO⟩ := hrel
    cases gk with
    | zero =>
      obtain rfl : k = n := by omega
      go_wp2_with fail
      all_goals
        go_ret
        exact ⟨ret_int (by rw [hD.out]; simp only [detS]; omega), hK⟩
    | succ g =>
      have hkn : k < n := by omega
      have sk : (k : Int) < (n : Int) := by omega
      obtain ⟨pv, HP⟩ : ∃ pv, Hid (pv = pivI n N k) := ⟨_, rfl⟩
      go_wp2_with fail
      refine (pivot_any wr n b br N k _ hO (by omega) hn).mono ?_
      rintro e w2 ⟨rfl, rfl⟩
      rw [← HP.out]
      by_cases hneg : pv < 0
      · have hfin : Hid (detI n M = 0) := by rw [hD.out]; show _ = _; simp only [detS]; rw [if_pos (by rw [← HP.out]; exact hneg)]
        go_wp2_with fail
        go_ret
        exact ⟨ret_int hfin.out.symm, hK⟩
      · obtain ⟨p, hp, hkp, hpn, hne⟩ := pivI_spec (n := n) (M := N) (k := k) (by rw [← HP.out]; exact hneg)
        have hD2 : Hid (detI n M = detS n g (k + 1) (elimM (swapM N p k) k last) (N p k)) := by
          rw [hD.out]; show _ = _; simp only [detS]; rw [if_neg (by rw [← HP.out]; exact hneg), hp]; rfl
        obtain rfl : pv = (p : Int) := by rw [HP.out]; exact hp
        clear hp HP hneg
        have t1 := hO.top.cell hkn
        have t2 := hO.top.cell hpn
        have f1 := hO.top.frozen k
        have f2 := hO.top.frozen p
        have sp : (p : Int) < (n : Int) := by omega
        have hlow : w.heap.size ≤ b := hO.b0
        have hrow : ∀ (W' : World), W'.rowIs b 97 n (fun i => if i = k then .slice (some ⟨br p, 0, none⟩) n n else if i = p then .slice (some ⟨br k, 0, none⟩) n n else .slice (some ⟨br i, 0, none⟩) n n) → W'.rowIs b 97 n (fun i => .slice (some ⟨br (swapI p k i), 0, none⟩) n n) := fun W' h => h.congr (fun i _ => by
          unfold swapI
          by_cases e1 : i = k
          · subst e1
            by_cases e2 : i = p
            · subst e2; simp
            · simp [e2]
          · by_cases e2 : i = p
            · subst e2; simp [e1]
            · simp [e1, e2])
        have hset := (hO.top.set p (.slice (some ⟨br k, 0, none⟩) n n)).set k (.slice (some ⟨br p, 0, none⟩) n n)
        have HROW := Lib.hid hrow
        have HSET := Lib.hid hset
        clear hrow hset
        by_cases hpk : p = k
        · subst hpk
          go_wp2_with fail
          go_region
          go_wp2_with fail
          refine (eliminate_any _ n b (fun i => br (swapI p p i)) (swapM N p p) p last w.heap.size ?_ hkn hn hl).mono ?_
          · exact hO.swap hpn hkn (by repeat (first | exact KeptX.refl _ _ | apply KeptX.setIn | apply KeptX.drew)) (HROW.out _ (World.rowIs.drew HSET.out))
          rintro e w3 ⟨rfl, hX3, hO3⟩
          have hpp : swapI p p p = p := by unfold swapI; split <;> simp_all
          have u1 := hO3.top.cell hkn
          have u2 := (hO3.row p hkn).cell hkn
          rw [show elimM (swapM N p p) p last p p = N p p by unfold elimM swapM; rw [if_neg (by omega), hpp]] at u2
          simp only [hpp] at u1 u2
          clear hpp
          have hKw : Kept w w3 := Kept.step (Kept.step (T := fun i => i = b) hK (by repeat (first | exact KeptX.refl _ _ | apply KeptX.setIn | apply KeptX.drew)) (fun i hi => by omega)) hX3 (fun i hi => hi)
          have HKW := Lib.hid hKw
          clear hKw hX3 hK
          go_wp2_with fail
          go_roundg g
          case measure => omega
          case rel => exact ⟨p + 1, N p p, _, _, by omega, by go_num, rfl, hne, hD2, HKW.out, hO3⟩
        · go_wp2_with fail
          go_region
          go_wp2_with fail
          refine (eliminate_any _ n b (fun i => br (swapI p k i)) (swapM N p k) k last w.heap.size ?_ hkn hn hl).mono ?_
          · exact hO.swap hpn hkn (by repeat (first | exact KeptX.refl _ _ | apply KeptX.setIn | apply KeptX.drew)) (HROW.out _ (World.rowIs.drew HSET.out))
          rintro e w3 ⟨rfl, hX3, hO3⟩
          have hpp : swapI p k k = p := by unfold swapI; split <;> simp_all
          have u1 := hO3.top.cell hkn
          have u2 := (hO3.row k hkn).cell hkn
          rw [show elimM (swapM N p k) k last k k = N p k by unfold elimM swapM; rw [if_neg (by omega), hpp]] at u2
          simp only [hpp] at u1 u2
          clear hpp
          have hKw : Kept w w3 := Kept.step (Kept.step (T := fun i => i = b) hK (by repeat (first | exact KeptX.refl _ _ | apply KeptX.setIn | apply KeptX.drew)) (fun i hi => by omega)) hX3 (fun i hi => hi)
          have HKW := Lib.hid hKw
          clear hKw hX3 hK
          go_wp2_with fail
          go_roundg g
          case measure => omega
          case rel => exact ⟨k + 1, N p k, _, _, by omega, by go_num, rfl, hne, hD2, HKW.out, hO3⟩
end Go.Proofs.Ytlnpipkhofhlnaa
