/-
  Burn, as the package exports it.
-/
import Derived.Test.YtlnpipkhofhlnaaV
import Derived.Test.YtlnpipkhofhlnaaJ
namespace Go.Proofs.Ytlnpipkhofhlnaa
open Go.RowKit Go.Deep

def BurnFn (w : World) (n : Int) (A B : Nat → Int) (m l : Nat) (hp : Nat → Int) (e : Ending) (w' : World) : Prop :=
  Kept w w' ∧ (code1 n A B m 0 l hp ≠ 0 → e = .returned (.tuple #[.slice none 0 0, .bool false, .int .i64 (code1 n A B m 0 l hp)])) ∧
  (code1 n A B m 0 l hp = 0 → stableB (degN A B m) hp n.toNat = false → e = .returned (.tuple #[.slice none 0 0, .bool false, .int .i64 6])) ∧
  (code1 n A B m 0 l hp = 0 → stableB (degN A B m) hp n.toNat = true → ∃ ov, e = .returned (.tuple #[ov, .bool (decide ((burnAll n.toNat (btwN A B m) hp).length = n.toNat - 1)), .int .i64 0]) ∧ ∃ base, w.heap.size ≤ base ∧ w'.ownsRow base 3 1 ov (burnAll n.toNat (btwN A B m) hp).length (nats (burnAll n.toNat (btwN A B m) hp)))

set_option maxRecDepth 100000 in
set_option maxHeartbeats 1000000 in
theorem Burn_any (w : World) (n : Int) (ev hv : Value) (A B : Nat → Int) (m l : Nat) (hp : Nat → Int) (hE : PairsAt w ev m A B) (hH : IntsAt w hv l hp) (hm : m ≤ 1000000) :
    Calls Try.prog 26 #[.int .i64 n, ev, hv] w (BurnFn w n A B m l hp) := by
  obtain ⟨ea, eb, eo, ecap, rfl, hea, hec⟩ := hE
  have hE' : PairsAt w (.slice ea m ecap) m A B := ⟨ea, eb, eo, ecap, rfl, hea, hec⟩
  have hH' := hH
  obtain ⟨a, b, o, cap, rfl, ha, hc⟩ := hH
  have hl1 := list1 hH' 25
  have hk0 : Kept w (w.alloc (.cells #[.slice a l cap] 25)) := (Kept.refl w).alloc _
  clear hec hc hea ha
  go_enter Try.func26, Try.ntmps26
  go_wp2_with fail
  refine (yardOf_any _ n _ _ A B m 0 1 (fun _ => l) (fun _ => hp) (hE'.kept hk0) hl1 hm (by omega)).mono ?_
  rintro e w1 ⟨hk1, hpost⟩
  have hK1 := hk0.trans hk1
  cases hg : goodB n A B m
  · rw [hg, if_neg (by simp)] at hpost
    have hcode : Hid (code1 n A B m 0 l hp = 1) := code1_arg hg
    subst hpost
    clear hg hl1
    unfold zeroYard
    go_wp2_with fail
    go_ret3
    exact ⟨hK1.alloc _, (fun _ => by rw [hcode.out]; rfl), (fun h => by rw [hcode.out] at h; cases h), (fun h => by rw [hcode.out] at h; cases h)⟩
  · rw [hg, if_pos rfl] at hpost
    obtain ⟨ok, ⟨p, hpk⟩, hm20, _⟩ := good_ok hg
    obtain ⟨N, rfl⟩ : ∃ N : Nat, n = (N : Int) := ⟨n.toNat, by have := ok.n2; omega⟩
    unfold BurnFn
    simp only [Int.toNat_natCast] at ok hpk hpost ⊢
    cases hh : holdsB N 0 l hp
    · rw [if_neg (by simp [allN, hh])] at hpost
      have hcode : Hid (code1 (N : Int) A B m 0 l hp = 2) := code1_form hg hh
      subst hpost
      clear hg hl1 hh
      unfold zeroYard
      go_wp2_with fail
      go_ret3
      exact ⟨hK1.alloc _, (fun _ => by rw [hcode.out]; rfl), (fun h => by rw [hcode.out] at h; cases h), (fun h => by rw [hcode.out] at h; cases h)⟩
    · rw [if_pos (by simp [allN, hh])] at hpost
      have hcode : Hid (code1 (N : Int) A B m 0 l hp = 0) := code1_ok hg hh
      obtain ⟨bd, bj, br, rfl, hO⟩ := hpost
      obtain ⟨hl, hr⟩ := holds_range hh
      have hn2 := ok.n2
      have hn8 := ok.n8
      have hJ40 : ∀ i j, i < N → j < N → btwN A B m i j ≤ 40 := ok.J40
      have HL := Lib.hid hl
      have hH1 : IntsAt w1 (.slice a l cap) (N - 1) hp := by have := hH'.kept hK1; rw [HL.out] at this ⊢; exact this
      clear hg hl1 hh hl
      unfold YardV
      go_wp2_with fail
      have hkA := hK1.alloc (.cells #[.int .i64 N, .int .i64 m, .slice (some ⟨bd, 0, none⟩) N N, .slice (some ⟨bj, 0, none⟩) N N] 78)
      have hYA := hO.yard.kept ((Kept.refl w1).alloc (.cells #[.int .i64 N, .int .i64 m, .slice (some ⟨bd, 0, none⟩) N N, .slice (some ⟨bj, 0, none⟩) N N] 78))
      have hHA := hH1.kept ((Kept.refl w1).alloc (.cells #[.int .i64 N, .int .i64 m, .slice (some ⟨bd, 0, none⟩) N N, .slice (some ⟨bj, 0, none⟩) N N] 78))
      obtain ⟨c0, c1, c2, c3⟩ := YBox.new w1 N m bd bj 78
      obtain ⟨g, HGG⟩ : ∃ g, Hid (g = w1.heap.size) := ⟨_, rfl⟩
      rw [← HGG.out] at c0 c1 c2 c3 ⊢
      generalize w1.alloc (.cells #[.int .i64 N, .int .i64 m, .slice (some ⟨bd, 0, none⟩) N N, .slice (some ⟨bj, 0, none⟩) N N] 78) = W at *
      refine (stable_any W N m bd bj br (degN A B m) (btwN A B m) _ hp hYA (by omega) (by omega) hHA).mono ?_
      rintro e w2 ⟨rfl, hk2⟩
      have hK2 := hkA.trans hk2
      cases hs : stableB (degN A B m) hp N
      · have HS := Lib.hid hs
        clear hs
        go_wp2_with fail
        go_ret3
        exact ⟨hK2, (fun h => absurd hcode.out h), (fun _ _ => rfl), (fun _ h => by have h' : stableB (degN A B m) hp N = true := h; rw [HS.out] at h'; cases h')⟩
      · have HS := Lib.hid hs
        clear hs
        have hY2 := hYA.kept hk2
        have hH2 := hHA.kept hk2
        have d0 := hk2.cellSome c0
        have d1 := hk2.cellSome c1
        have d2 := hk2.cellSome c2
        have d3 := hk2.cellSome c3
        clear c0 c1 c2 c3
        go_wp2_with fail
        refine (burn_any w2 N m bd bj br (degN A B m) (btwN A B m) _ hp hY2 (by omega) (by omega) hJ40 hH2).mono ?_
        rintro e w3 ⟨ov, rfl, hk3, how⟩
        have hK3 := hK2.trans hk3
        obtain ⟨oa, ocap, rfl⟩ := own_shape how
        have c0 := hk3.cellSome d0
        have c1 := hk3.cellSome d1
        have c2 := hk3.cellSome d2
        have c3 := hk3.cellSome d3
        clear d0 d1 d2 d3
        go_wp2_with fail
        refine (all_any w3 N m bd bj oa _ ocap (by omega) (by omega)).mono ?_
        rintro e w4 ⟨rfl, hk4⟩
        go_wp2_with fail
        go_ret3
        have hsz := Kept.size hK2
        exact ⟨hK3.trans hk4, (fun h => absurd hcode.out h), (fun _ h => by have h' : stableB (degN A B m) hp N = false := h; rw [HS.out] at h'; cases h'), (fun _ _ => ⟨_, rfl, w2.heap.size, hsz, own_kept how hk4⟩)⟩
end Go.Proofs.Ytlnpipkhofhlnaa
