/-
  Settle and Burn, as the package exports them.
-/
import Derived.Test.YtlnpipkhofhlnaaI
namespace Go.Proofs.Ytlnpipkhofhlnaa
open Go.RowKit Go.Deep

theorem list1 {w : World} {a : Option Addr} {l cap : Nat} {f : Nat → Int} (h : IntsAt w (.slice a l cap) l f) (t : TypeId) : ListsAt (w.alloc (.cells #[.slice a l cap] t)) (.slice (some ⟨w.heap.size, 0, none⟩) 1 1) 1 (fun _ => l) (fun _ => f) := by
  refine ⟨fun _ => .slice a l cap, ⟨_, w.heap.size, 0, 1, rfl, fun _ => rfl, fun i hi => ?_⟩, fun i _ => h.kept ((Kept.refl w).alloc _)⟩
  have : i = 0 := by omega
  subst this
  unfold World.cell?
  dsimp only
  rw [blk_alloc_new]; rfl
theorem list2 {w : World} {a a2 : Option Addr} {l cap l2 cap2 : Nat} {f f2 : Nat → Int} (h : IntsAt w (.slice a l cap) l f) (h2 : IntsAt w (.slice a2 l2 cap2) l2 f2) (t : TypeId) :
    ListsAt (w.alloc (.cells #[.slice a l cap, .slice a2 l2 cap2] t)) (.slice (some ⟨w.heap.size, 0, none⟩) 2 2) 2 (fun i => if i = 0 then l else l2) (fun i => if i = 0 then f else f2) := by
  refine ⟨fun i => if i = 0 then .slice a l cap else .slice a2 l2 cap2, ⟨_, w.heap.size, 0, 2, rfl, fun _ => rfl, fun i hi => ?_⟩, fun i hi => ?_⟩
  · have : i = 0 ∨ i = 1 := by omega
    rcases this with rfl | rfl <;> (unfold World.cell?; dsimp only; rw [blk_alloc_new]; rfl)
  · have : i = 0 ∨ i = 1 := by omega
    rcases this with rfl | rfl
    · exact h.kept ((Kept.refl w).alloc _)
    · exact h2.kept ((Kept.refl w).alloc _)

/-- the code that a function with one list of heaps returns before it begins -/
def code1 (n : Int) (A B : Nat → Int) (m : Nat) (least : Int) (l : Nat) (f : Nat → Int) : Int := if goodB n A B m then (if holdsB n.toNat least l f then 0 else 2) else 1
theorem code1_arg {n : Int} {A B : Nat → Int} {m : Nat} {least : Int} {l : Nat} {f : Nat → Int} (h : goodB n A B m = false) : code1 n A B m least l f = 1 := by
  unfold code1; rw [if_neg (by rw [h]; simp)]
theorem code1_form {n : Int} {A B : Nat → Int} {m : Nat} {least : Int} {l : Nat} {f : Nat → Int} (h : goodB n A B m = true) (h2 : holdsB n.toNat least l f = false) : code1 n A B m least l f = 2 := by
  unfold code1; rw [if_pos h, if_neg (by rw [h2]; simp)]
theorem code1_ok {n : Int} {A B : Nat → Int} {m : Nat} {least : Int} {l : Nat} {f : Nat → Int} (h : goodB n A B m = true) (h2 : holdsB n.toNat least l f = true) : code1 n A B m least l f = 0 := by
  unfold code1; rw [if_pos h, if_pos h2]
def SettleOk (w : World) (n : Nat) (D : Nat → Nat) (J : Nat → Nat → Nat) (h : Nat → Int) (e : Ending) (w' : World) : Prop :=
  ∃ (r t : Nat) (f x : Nat → Int), e = .returned (.tuple #[.slice (some ⟨r, 1, none⟩) (n - 1) (n - 1), .slice (some ⟨t, 0, none⟩) (n - 1) (n - 1), .int .i64 0]) ∧ w.heap.size ≤ r ∧ w.heap.size ≤ t ∧ r ≠ t ∧
    w'.rowIs r 3 n (fun u => .int .i64 (f u)) ∧ w'.rowIs t 3 (n - 1) (fun i => .int .i64 (x (i + 1))) ∧ Odo n D J h x ∧ (∀ u, u < n → f u = fin n D J h x u) ∧ ∀ u, u < n → 0 ≤ f u
def SettleFn (w : World) (n : Int) (A B : Nat → Int) (m l : Nat) (hp : Nat → Int) (e : Ending) (w' : World) : Prop :=
  Kept w w' ∧ (code1 n A B m 0 l hp = 0 → SettleOk w n.toNat (degN A B m) (btwN A B m) (atV hp) e w') ∧ (code1 n A B m 0 l hp ≠ 0 → e = .returned (.tuple #[.slice none 0 0, .slice none 0 0, .int .i64 (code1 n A B m 0 l hp)]))
theorem holds_range {n : Nat} {l : Nat} {hp : Nat → Int} (h : holdsB n 0 l hp = true) : l = n - 1 ∧ ∀ i, i < n - 1 → 0 ≤ hp i ∧ hp i ≤ 1000 := by
  simp only [holdsB, Bool.and_eq_true, decide_eq_true_eq] at h
  obtain ⟨rfl, h2⟩ := h
  refine ⟨rfl, fun i hi => ?_⟩
  have := allN_true.1 h2 i hi
  simpa using this

set_option maxRecDepth 100000 in
set_option maxHeartbeats 1000000 in
theorem Settle_any (w : World) (n : Int) (ev hv : Value) (A B : Nat → Int) (m l : Nat) (hp : Nat → Int) (hE : PairsAt w ev m A B) (hH : IntsAt w hv l hp) (hm : m ≤ 1000000) :
    Calls Try.prog 31 #[.int .i64 n, ev, hv] w (SettleFn w n A B m l hp) := by
  obtain ⟨ea, eb, eo, ecap, rfl, hea, hec⟩ := hE
  have hE' : PairsAt w (.slice ea m ecap) m A B := ⟨ea, eb, eo, ecap, rfl, hea, hec⟩
  have hH' := hH
  obtain ⟨a, b, o, cap, rfl, ha, hc⟩ := hH
  have hl1 := list1 hH' 25
  have hk0 : Kept w (w.alloc (.cells #[.slice a l cap] 25)) := (Kept.refl w).alloc _
  clear hec hc hea ha
  go_enter Try.func31, Try.ntmps31
  go_wp2_with fail
  refine (yardOf_any _ n _ _ A B m 0 1 (fun _ => l) (fun _ => hp) (hE'.kept hk0) hl1 hm (by omega)).mono ?_
  rintro e w1 ⟨hk1, hpost⟩
  have hK1 := hk0.trans hk1
  cases hg : goodB n A B m
  · rw [hg, if_neg (by simp)] at hpost
    have hcode : Hid (code1 n A B m 0 l hp = 1) := code1_arg hg
    subst hpost
    clear hg hl1
    unfold zeroYard
    go_wp2_with fail
    go_ret3
    exact ⟨hK1.alloc _, (fun h => by rw [hcode.out] at h; cases h), (fun _ => by rw [hcode.out]; rfl)⟩
  · rw [hg, if_pos rfl] at hpost
    obtain ⟨ok, ⟨p, hpk⟩, hm20, _⟩ := good_ok hg
    obtain ⟨N, rfl⟩ : ∃ N : Nat, n = (N : Int) := ⟨n.toNat, by have := ok.n2; omega⟩
    unfold SettleFn
    simp only [Int.toNat_natCast] at ok hpk hpost ⊢
    cases hh : holdsB N 0 l hp
    · rw [if_neg (by simp [allN, hh])] at hpost
      have hcode : Hid (code1 (N : Int) A B m 0 l hp = 2) := code1_form hg hh
      subst hpost
      clear hg hl1 hh
      unfold zeroYard
      go_wp2_with fail
      go_ret3
      exact ⟨hK1.alloc _, (fun h => by rw [hcode.out] at h; cases h), (fun _ => by rw [hcode.out]; rfl)⟩
    · rw [if_pos (by simp [allN, hh])] at hpost
      have hcode : Hid (code1 (N : Int) A B m 0 l hp = 0) := code1_ok hg hh
      obtain ⟨bd, bj, br, rfl, hO⟩ := hpost
      obtain ⟨hl, hr⟩ := holds_range hh
      obtain ⟨y, hy, hyB⟩ := hpk.stab (D := degN A B m) (h := atV hp) (K := 1000) ok (by omega) (fun v hv => by
        unfold atV
        by_cases e : v = 0
        · rw [if_pos e]; omega
        · rw [if_neg e]; exact (hr (v - 1) (by omega)).2)
      have HL := Lib.hid hl
      clear hg hl1 hh hl
      unfold YardV
      go_wp2_with fail
      refine (settle_any _ N m bd bj br (degN A B m) (btwN A B m) _ hp y (hO.yard.kept ((Kept.refl _).alloc _)) ok (by have := hH'.kept (hK1.alloc (.cells #[.int .i64 N, .int .i64 m, .slice (some ⟨bd, 0, none⟩) N N, .slice (some ⟨bj, 0, none⟩) N N] 78)); rw [HL.out] at this ⊢; exact this) (fun i hi => ⟨(hr i hi).1, by have := (hr i hi).2; omega⟩) hy (fun v hv => Int.le_trans (hyB v hv) (by decide))).mono ?_
      rintro e w2 ⟨r, t, f, x, rfl, hk2, hr1, ht1, hrt, hR, hT, hodo, hf, hf0⟩
      go_wp2_with fail
      go_ret3
      have hs := Kept.size hK1
      refine ⟨(hK1.alloc _).trans hk2, fun _ => ⟨r, t, f, x, rfl, ?_, ?_, hrt, hR, hT, hodo, hf, hf0⟩, fun h => absurd hcode.out h⟩
      · simp at hr1; omega
      · simp at ht1; omega
end Go.Proofs.Ytlnpipkhofhlnaa
