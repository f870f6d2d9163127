/-
  Villages in plain terms: what a smith does, and what each call makes of a village. No program is named here.
-/
import Derived.WalkKit
namespace Go.Proofs.Ytjjeoloifggdpaa

/-- a message: from whom, to whom, the token or a request -/
structure Msg where
  src : Nat
  dst : Nat
  tok : Bool
deriving DecidableEq
/-- a village: n smiths, on what each lives, its way, its list, whether it has asked, whether it is at the forge; the messages, the oldest first; how many were sent -/
structure Vil where
  n : Nat
  on : Nat → Nat
  way : Nat → Nat
  lst : Nat → List Nat
  asked : Nat → Bool
  forg : Nat → Bool
  fl : List Msg
  sent : Nat
def upd {α : Type} (f : Nat → α) (i : Nat) (x : α) : Nat → α := fun j => if j = i then x else f j
theorem upd_same {α : Type} (f : Nat → α) (i : Nat) (x : α) : upd f i x i = x := by simp [upd]
theorem upd_other {α : Type} (f : Nat → α) {i j : Nat} (x : α) (h : j ≠ i) : upd f i x j = f j := by simp [upd, h]
/-- the first of the list gets what it waits for -/
def Vil.grant (V : Vil) (i : Nat) : Vil :=
  match V.lst i with
  | [] => V
  | f :: r => if f = i then { V with lst := upd V.lst i r, forg := upd V.forg i true }
    else { V with lst := upd V.lst i r, way := upd V.way i f, asked := upd V.asked i false, fl := V.fl ++ [⟨i, f, true⟩], sent := V.sent + 1 }
/-- a request along the way -/
def Vil.ask (V : Vil) (i : Nat) : Vil := { V with asked := upd V.asked i true, fl := V.fl ++ [⟨i, V.way i, false⟩], sent := V.sent + 1 }
def Vil.may (V : Vil) (i : Nat) : Bool := decide (V.way i = i) && (!V.forg i && decide (V.lst i ≠ []))
def Vil.must (V : Vil) (i : Nat) : Bool := decide (V.way i ≠ i) && (decide (V.lst i ≠ []) && !V.asked i)
/-- what follows whenever something has happened at a smith -/
def Vil.first (V : Vil) (i : Nat) : Vil := if V.may i then V.grant i else V
def Vil.go (V : Vil) (i : Nat) : Vil := if (V.first i).must i then (V.first i).ask i else V.first i
/-- one more at the end of a list -/
def Vil.push (V : Vil) (i j : Nat) : Vil := { V with lst := upd V.lst i (V.lst i ++ [j]) }
def Vil.want (V : Vil) (i : Nat) : Vil := (V.push i i).go i
def Vil.leave (V : Vil) (i : Nat) : Vil := ({ V with forg := upd V.forg i false } : Vil).go i
/-- a message that is no longer on its way arrives -/
def Vil.recv (V : Vil) (m : Msg) : Vil :=
  if m.tok then ({ V with way := upd V.way m.dst m.dst, asked := upd V.asked m.dst false } : Vil).go m.dst else (V.push m.dst m.src).go m.dst
/-- all numbers are small -/
structure Vil.Small (V : Vil) (b : Nat) : Prop where
  n : V.n ≤ 8
  lst : ∀ i, (V.lst i).length ≤ b
  fl : V.fl.length ≤ b
  sent : V.sent ≤ b
theorem Vil.Small.mono {V : Vil} {b c : Nat} (h : V.Small b) (hc : b ≤ c) : V.Small c := ⟨h.n, fun i => Nat.le_trans (h.lst i) hc, Nat.le_trans h.fl hc, Nat.le_trans h.sent hc⟩
theorem upd_len {f : Nat → List Nat} {b : Nat} (h : ∀ i, (f i).length ≤ b) {i : Nat} {l : List Nat} (hl : l.length ≤ b) : ∀ j, (upd f i l j).length ≤ b := by
  intro j; unfold upd; split
  · exact hl
  · exact h j
theorem Vil.Small.grant {V : Vil} {b : Nat} (h : V.Small b) (i : Nat) : (V.grant i).Small (b + 1) := by
  unfold Vil.grant
  cases e : V.lst i with
  | nil => exact h.mono (by omega)
  | cons f r =>
    have hl := h.lst i
    rw [e, List.length_cons] at hl
    have hu := upd_len (i := i) (l := r) h.lst (by omega)
    dsimp only
    split
    · exact ⟨h.n, fun j => Nat.le_trans (hu j) (by omega), Nat.le_trans h.fl (by omega), Nat.le_trans h.sent (by omega)⟩
    · exact ⟨h.n, fun j => Nat.le_trans (hu j) (by omega), by have := h.fl; simp; omega, by have := h.sent; simp; omega⟩
theorem Vil.Small.ask {V : Vil} {b : Nat} (h : V.Small b) (i : Nat) : (V.ask i).Small (b + 1) :=
  ⟨h.n, fun j => Nat.le_trans (h.lst j) (by omega), by have := h.fl; simp [Vil.ask]; omega, by have := h.sent; simp [Vil.ask]; omega⟩
theorem Vil.Small.first {V : Vil} {b : Nat} (h : V.Small b) (i : Nat) : (V.first i).Small (b + 1) := by
  unfold Vil.first; split
  · exact h.grant i
  · exact h.mono (by omega)
theorem Vil.Small.go {V : Vil} {b : Nat} (h : V.Small b) (i : Nat) : (V.go i).Small (b + 2) := by
  unfold Vil.go; split
  · exact (h.first i).ask i
  · exact (h.first i).mono (by omega)
theorem Vil.Small.push {V : Vil} {b : Nat} (h : V.Small b) (i j : Nat) : (V.push i j).Small (b + 1) :=
  ⟨h.n, upd_len (fun j => Nat.le_trans (h.lst j) (by omega)) (by have := h.lst i; simp; omega), Nat.le_trans h.fl (by omega), Nat.le_trans h.sent (by omega)⟩
theorem Vil.Small.want {V : Vil} {b : Nat} (h : V.Small b) (i : Nat) : (V.want i).Small (b + 3) := (h.push i i).go i
theorem Vil.Small.leave {V : Vil} {b : Nat} (h : V.Small b) (i : Nat) : (V.leave i).Small (b + 2) := (Vil.Small.go (V := { V with forg := upd V.forg i false }) ⟨h.n, h.lst, h.fl, h.sent⟩ i)
theorem Vil.Small.recv {V : Vil} {b : Nat} (h : V.Small b) (m : Msg) : (V.recv m).Small (b + 3) := by
  unfold Vil.recv; split
  · exact (Vil.Small.go (V := { V with way := upd V.way m.dst m.dst, asked := upd V.asked m.dst false }) ⟨h.n, h.lst, h.fl, h.sent⟩ m.dst).mono (by omega)
  · exact (h.push m.dst m.src).go m.dst
end Go.Proofs.Ytjjeoloifggdpaa
