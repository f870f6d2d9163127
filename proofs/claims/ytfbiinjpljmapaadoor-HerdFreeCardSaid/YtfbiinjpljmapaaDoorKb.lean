/-
  The reference's Colors.
-/
import Derived.Test.YtfbiinjpljmapaaDoorKa
namespace Go.Proofs.YtfbiinjpljmapaaDoor
open Go.RowKit Go.Deep

theorem paintL_len (H : Nat → Nat) (few f : Nat) : ∀ (l d : List Nat), paintL H few f l = some d → d.length = l.length + f := by
  induction f with
  | zero => intro l d h; cases h; rfl
  | succ f ih =>
    intro l d h
    unfold paintL at h
    obtain ⟨c, _, hc⟩ := List.exists_of_findSome?_eq_some h
    by_cases e : diffB H (lget (l ++ [c])) l.length l.length = true
    · rw [if_pos e] at hc
      have := ih _ _ hc
      simp at this
      omega
    · rw [if_neg e] at hc
      cases hc
theorem ColorsIs.len {H : Nat → Nat} {n : Nat} {d : List Nat} (h : ColorsIs H n d) : d.length = n := by
  obtain ⟨few, _, _, h, _⟩ := h
  have := paintL_len H few n [] d h
  simpa using this
theorem ColorsIs.uniq {H : Nat → Nat} {n : Nat} {d d' : List Nat} (h : ColorsIs H n d) (h' : ColorsIs H n d') : d = d' := by
  obtain ⟨f1, a1, _, h1, m1⟩ := h
  obtain ⟨f2, a2, _, h2, m2⟩ := h'
  rcases Nat.lt_trichotomy f1 f2 with e | e | e
  · rw [m2 f1 a1 e] at h1; cases h1
  · subst e
    rw [h1] at h2
    exact Option.some.inj h2
  · rw [m1 f2 a2 e] at h2; cases h2
def RColsPost (w : World) (n : Nat) (H : Nat → Nat) (e : Ending) (w' : World) : Prop := ∃ (v : Value) (d : List Nat), e = .returned v ∧ ColorsIs H n d ∧ NatsAt w' v d ∧ Kept w w'
set_option maxRecDepth 100000 in
set_option maxHeartbeats 4000000 in
theorem refColors_any (W : World) (v : Value) (n : Nat) (F : Nat → Nat → Bool) (H : Nat → Nat) (hG : GridAt W v n F) (hn1 : 1 ≤ n) (hn : n ≤ 14) (hF : ∀ i j, i < n → j < n → F i j = (H j).testBit i) :
    Calls Tryd.prog 16 #[v] W (RColsPost W n H) := by
  obtain ⟨g, gcap, R, rfl, hG⟩ := hG
  have CC := Lib.hid (fun (w : World) (k : Nat) (hk : k ≤ 100) (h : GridIn w 0 g n R F) => refcolors_any g n gcap k R F H hn1 hn hk hF n w [] none 0 (by simp) h ⟨none, 0, 0, 0, rfl, fun h => absurd h (by simp), fun i hi => absurd hi (by simp)⟩ (fun _ => ⟨rfl, rfl⟩))
  go_enter Tryd.func16, Tryd.ntmps16
  go_wp2_with fail
  go_loopg [3] (n - 1) (fun q s3 wr => ∃ k : Nat, 1 ≤ k ∧ k ≤ n ∧ q = n - k ∧ s3 = .int .i64 k ∧ Kept W wr ∧ Hid (∀ m, 1 ≤ m → m < k → paintL H m n [] = none))
  case atStart => exact ⟨1, Nat.le_refl _, hn1, rfl, rfl, Kept.refl _, fun m h1 h2 => absurd h1 (by omega)⟩
  case round =>
    obtain ⟨k, hk1, hk, rfl, rfl, hK, hN⟩ := hrel
    have CK := Lib.hid (CC.out wr k (by omega) (hG.kept hK))
    have hsm := paintL_some H k n [] 
    obtain ⟨r, HRR⟩ : ∃ r, Hid (r = paintL H k n []) := ⟨_, rfl⟩
    rw [← HRR.out] at CK hsm
    cases r with
    | none =>
      have hkn : k < n := by
        rcases Nat.lt_or_ge k n with h | h
        · exact h
        · have := hsm (by simpa using h)
          cases this
      clear hsm
      go_wp2_with (first | (go_at_call 41; refine CK.out.mono ?_; clear CK; intro e w3 CQ; obtain ⟨hk3, rfl⟩ := rcol_none CQ; clear CQ))
      go_roundg (n - (k + 1))
      case measure => omega
      case rel => exact ⟨k + 1, by omega, by omega, rfl, by first | rfl | go_num, hK.trans hk3, fun m h1 h2 => by
        by_cases e : m = k
        · rw [e]; exact HRR.out.symm
        · exact hN.out m h1 (by omega)⟩
    | some d =>
      clear hsm
      go_wp2_with (first | (go_at_call 41; refine CK.out.mono ?_; clear CK; intro e w3 CQ; obtain ⟨hk3, ar, capr, rfl, hD⟩ := rcol_some CQ; clear CQ))
      go_ret
      exact ⟨_, d, rfl, ⟨k, hk1, hk, HRR.out.symm, hN.out⟩, hD, hK.trans hk3⟩
end Go.Proofs.YtfbiinjpljmapaaDoor
