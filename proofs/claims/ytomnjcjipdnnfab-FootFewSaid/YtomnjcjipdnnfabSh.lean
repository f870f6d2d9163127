/-
  Short, as the package exports it.
-/
import Derived.Test.YtomnjcjipdnnfabSt
import Derived.Test.YtomnjcjipdnnfabC
namespace Go.Proofs.Ytomnjcjipdnnfab
open Go.RowKit Go.Deep

theorem outs1 {w : World} {a : Option Addr} {l cap : Nat} {X Y : Nat → Int} (h : PairsAt w (.slice a l cap) l X Y) (t : TypeId) :
    OutsAt (w.alloc (.cells #[.slice a l cap] t)) (.slice (some ⟨w.heap.size, 0, none⟩) 1 1) 1 (fun _ => l) (fun _ => X) (fun _ => Y) := by
  refine ⟨fun _ => a, fun _ => cap, ⟨_, w.heap.size, 0, 1, rfl, fun _ => rfl, fun i hi => ?_⟩, fun i hi => h.kept ((Kept.refl w).alloc _)⟩
  obtain rfl : i = 0 := by omega
  unfold World.cell?; dsimp only; rw [blk_alloc_new]; rfl
/-- the code of an outline and a limit -/
def code1 (limit : Int) (m : Nat) (X Y : Nat → Int) : Int := if m ≤ 30 then (if formB m X Y = true then (if limit < 0 then 1 else 0) else 2) else 3
theorem checkC1 {limit : Int} {m : Nat} {X Y : Nat → Int} : checkC limit 1 (fun _ => m) (fun _ => X) (fun _ => Y) = code1 limit m X Y := by
  unfold checkC code1
  simp only [allN, Bool.true_and, decide_eq_true_eq]
theorem code1_ok {limit : Int} {m : Nat} {X Y : Nat → Int} (h : code1 limit m X Y = 0) : m ≤ 30 ∧ formB m X Y = true ∧ 0 ≤ limit := by
  unfold code1 at h
  by_cases h1 : m ≤ 30
  · rw [if_pos h1] at h
    by_cases h2 : formB m X Y = true
    · rw [if_pos h2] at h
      by_cases h3 : limit < 0
      · rw [if_pos h3] at h; omega
      · exact ⟨h1, h2, by omega⟩
    · rw [if_neg h2] at h; omega
  · rw [if_neg h1] at h; omega
theorem code1_limit {limit : Int} {m : Nat} {X Y : Nat → Int} : code1 limit m X Y = if code1 0 m X Y = 0 then (if limit < 0 then 1 else 0) else code1 0 m X Y := by
  unfold code1
  by_cases h1 : m ≤ 30
  · rw [if_pos h1, if_pos h1]
    by_cases h2 : formB m X Y = true
    · rw [if_pos h2, if_pos h2, if_neg (by omega : ¬ (0 : Int) < 0), if_pos rfl]
    · rw [if_neg h2, if_neg h2, if_neg (by decide)]
  · rw [if_neg h1, if_neg h1, if_neg (by decide)]
theorem code1_good {limit : Int} {m : Nat} {X Y : Nat → Int} (h1 : m ≤ 30) (h2 : formB m X Y = true) (h3 : 0 ≤ limit) : code1 limit m X Y = 0 := by
  unfold code1; rw [if_pos h1, if_pos h2, if_neg (by omega)]
/-- the first of the short forms with the fewest indices -/
def ShortAt (w : World) (n : Nat) (J : Nat → Nat → Prop) (v : Value) : Prop := ∃ (F s : Nat → Nat) (a : Option Addr) (cap : Nat), v = .slice a (F 0 + 1) cap ∧ IntsAt w (.slice a (F 0 + 1) cap) (F 0 + 1) (fun t => (s t : Int)) ∧ FewAt n J F 0 ∧ ShortTo n J F s (F 0)
theorem ShortAt.kept {w w' : World} {n : Nat} {J : Nat → Nat → Prop} {v : Value} (h : ShortAt w n J v) (k : Kept w w') : ShortAt w' n J v := by
  obtain ⟨F, s, a, cap, h1, h2, h3, h4⟩ := h
  exact ⟨F, s, a, cap, h1, h2.kept k, h3, h4⟩
theorem ShortPost.at {w w' : World} {n : Nat} {J : Nat → Nat → Prop} {e : Ending} (h : ShortPost w n J e w') : ∃ v, e = .returned v ∧ ShortAt w' n J v ∧ Kept w w' := by
  obtain ⟨F, s, v, h1, h2, h3, h4, h5⟩ := h
  obtain ⟨a, cap, rfl, _⟩ := own_form h2
  exact ⟨_, h1, ⟨F, s, a, cap, rfl, ints_at h2, h3, h4⟩, h5⟩
/-- two shortest forms of one outline are the same -/
theorem short_one {w : World} {n : Nat} {J : Nat → Nat → Prop} {v v' : Value} (hn : 1 ≤ n) (h : ShortAt w n J v) (g : ShortAt w n J v') : ∃ (a a' : Option Addr) (L cap cap' : Nat) (f f' : Nat → Int), v = .slice a L cap ∧ v' = .slice a' L cap' ∧ IntsAt w (.slice a L cap) L f ∧ IntsAt w (.slice a' L cap') L f' ∧ same L f L f' = true := by
  obtain ⟨F, s, a, cap, rfl, h2, h3, h4⟩ := h
  obtain ⟨G, r, a', cap', rfl, g2, g3, g4⟩ := g
  have e0 := few_same h3 g3 0 (by omega)
  rw [← e0] at g2 g4 ⊢
  have h5 := short_other (by omega) (few_same h3 g3) h4
  have e1 := short_same h5 g4
  refine ⟨a, a', _, cap, cap', _, _, rfl, rfl, h2, g2, ?_⟩
  unfold same
  rw [Bool.and_eq_true]
  exact ⟨by simp, allN_true.2 (fun i hi => by show ((s i : Int) == (r i : Int)) = true; rw [e1 i (by omega)]; simp)⟩
def ShortFn (w : World) (m : Nat) (X Y : Nat → Int) (limit : Int) (e : Ending) (w' : World) : Prop :=
  Kept w w' ∧ (code1 limit m X Y = 0 → ∃ v, e = .returned (.tuple #[v, .int .i64 0]) ∧ ShortAt w' m (SkipsAt X Y limit) v) ∧ (code1 limit m X Y ≠ 0 → e = .returned (.tuple #[.slice none 0 0, .int .i64 (code1 limit m X Y)]))
set_option maxRecDepth 100000 in
set_option maxHeartbeats 2000000 in
theorem Short_any (w : World) (m cap : Nat) (a : Option Addr) (X Y : Nat → Int) (limit : Int) (hA : PairsAt w (.slice a m cap) m X Y) (hm2 : m ≤ 1000000) (hcap : m ≤ cap) :
    Calls Try.prog 10 #[.slice a m cap, .int .i64 limit] w (ShortFn w m X Y limit) := by
  have hO := outs1 hA 23
  have hk0 : Kept w (w.alloc (.cells #[.slice a m cap] 23)) := (Kept.refl w).alloc _
  go_enter Try.func10, Try.ntmps10
  go_wp2_with fail
  refine (check_any _ limit _ 1 _ _ _ hO (by omega) (fun i _ => hm2)).mono ?_
  rw [checkC1]
  rintro e w1 ⟨rfl, hk1⟩
  have hK1 := hk0.trans hk1
  by_cases hc0 : code1 limit m X Y = 0
  · obtain ⟨h1, h2, h3⟩ := code1_ok hc0
    obtain ⟨r1, p1⟩ := formB_in h2
    have HC0 := Lib.hid hc0
    rw [HC0.out]
    have hA1 := hA.kept hK1
    have HR1 := Lib.hid r1
    clear hc0 h2 r1
    go_wp2_with fail
    refine (short_any _ m cap a X Y limit hA1 HR1.out p1 (by omega) hcap).mono ?_
    intro e w2 h
    obtain ⟨v, rfl, hS, hk2⟩ := h.at
    have HS := Lib.hid hS
    clear h hS
    go_wp2_with fail
    go_ret2
    exact ⟨hK1.trans hk2, (fun _ => ⟨v, rfl, HS.out⟩), (fun h => absurd HC0.out h)⟩
  · have HC0 := Lib.hid hc0
    obtain ⟨cc, HCC⟩ : ∃ cc, Hid (cc = code1 limit m X Y) := ⟨_, rfl⟩
    rw [← HCC.out] at hc0 ⊢
    have c2 : (cc != 0) = true := by simpa using hc0
    clear hc0
    go_wp2_with fail
    go_ret2
    exact ⟨hK1, (fun h => absurd h HC0.out), (fun _ => by rw [← HCC.out]; rfl)⟩
end Go.Proofs.Ytomnjcjipdnnfab
