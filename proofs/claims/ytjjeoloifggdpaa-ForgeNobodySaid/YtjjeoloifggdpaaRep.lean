/-
  What values read as in a world, and what a call leaves as it was. No program is named here.
-/
import Derived.WalkKit
import Derived.WalkSpells
import Derived.WalkLawsBesides
import Derived.Deep.LoopGhost
import Derived.Deep.OwnRows
namespace Go.Proofs.Ytjjeoloifggdpaa
open Go.RowKit Go.Deep

/-- All blocks that were there, but those of S, are as they were. -/
structure KeptX (S : Nat → Prop) (w w' : World) : Prop where
  os : w'.os = w.os
  tape : w'.tape = w.tape
  output : w'.output = w.output
  size : w.heap.size ≤ w'.heap.size
  block : ∀ k, k < w.heap.size → ¬ S k → w'.heap[k]? = w.heap[k]?

def Kept (w w' : World) : Prop := KeptX (fun _ => False) w w'

theorem KeptX.refl (S : Nat → Prop) (w : World) : KeptX S w w := ⟨rfl, rfl, rfl, Nat.le_refl _, fun _ _ _ => rfl⟩
theorem KeptX.trans {S : Nat → Prop} {a b c : World} (h : KeptX S a b) (k : KeptX S b c) : KeptX S a c :=
  ⟨k.os.trans h.os, k.tape.trans h.tape, k.output.trans h.output, Nat.le_trans h.size k.size, fun i hi hs => (k.block i (Nat.lt_of_lt_of_le hi h.size) hs).trans (h.block i hi hs)⟩
/-- What may turn in the second step may turn in the whole, or is new. -/
theorem KeptX.step {S T : Nat → Prop} {a b c : World} (h : KeptX S a b) (k : KeptX T b c) (hT : ∀ i, T i → S i ∨ a.heap.size ≤ i) : KeptX S a c :=
  ⟨k.os.trans h.os, k.tape.trans h.tape, k.output.trans h.output, Nat.le_trans h.size k.size, fun i hi hs => (k.block i (Nat.lt_of_lt_of_le hi h.size) (fun ht => (hT i ht).elim hs (fun hle => absurd hi (by omega)))).trans (h.block i hi hs)⟩
theorem KeptX.weaken {S T : Nat → Prop} {a b : World} (h : KeptX S a b) (hT : ∀ i, S i → T i) : KeptX T a b :=
  ⟨h.os, h.tape, h.output, h.size, fun i hi hs => h.block i hi (fun t => hs (hT i t))⟩
theorem KeptX.drew {S : Nat → Prop} {a b : World} (h : KeptX S a b) : KeptX S a b.drew := ⟨h.os, h.tape, h.output, h.size, h.block⟩
theorem KeptX.drewN {S : Nat → Prop} {a b : World} (h : KeptX S a b) (n : Nat) : KeptX S a (b.drewN n) := by
  exact ⟨h.os, h.tape, h.output, h.size, h.block⟩
theorem KeptX.alloc {S : Nat → Prop} {a b : World} (h : KeptX S a b) (o : Obj) : KeptX S a (b.alloc o) :=
  h.step (T := fun _ => False) ⟨rfl, rfl, rfl, by rw [nblk_alloc]; omega, fun k hk _ => blk_alloc_lt _ _ _ hk⟩ (fun _ h => h.elim)
theorem KeptX.setCell {S : Nat → Prop} {a b : World} (h : KeptX S a b) {p : Addr} (hp : S p.block ∨ a.heap.size ≤ p.block) (v : Value) : KeptX S a (b.setCell p v) :=
  h.step (T := fun i => i = p.block) ⟨rfl, rfl, rfl, by rw [nblk_setCell]; exact Nat.le_refl _, fun k _ hs => blk_setCell_other _ _ _ _ hs⟩ (fun i hi => by subst hi; exact hp)
theorem KeptX.setIn {r : Nat} {a b : World} (h : KeptX (fun k => k = r) a b) (i : Nat) (v : Value) : KeptX (fun k => k = r) a (b.setCell ⟨r, i, none⟩ v) := KeptX.setCell h (p := ⟨r, i, none⟩) (Or.inl rfl) v
theorem KeptX.grown {S : Nat → Prop} {a b c : World} {row : Option Nat} (h : KeptX S a b) (hg : b.grownBy c row) (hr : ∀ k, row = some k → S k ∨ a.heap.size ≤ k) : KeptX S a c :=
  h.step (T := fun i => some i = row) ⟨hg.os, hg.tape, hg.output, hg.size, fun k hk hs => hg.block k hk hs⟩ (fun i hi => hr i hi.symm)
theorem KeptX.cell {S : Nat → Prop} {w w' : World} (h : KeptX S w w') {a : Addr} (ha : a.block < w.heap.size) (hs : ¬ S a.block) : w'.cell? a = w.cell? a := World.cell?_of_block (w := w) (h.block _ ha hs)
theorem KeptX.cellSome {S : Nat → Prop} {w w' : World} (h : KeptX S w w') {a : Addr} {v : Value} (hc : w.cell? a = some v) (hs : ¬ S a.block) : w'.cell? a = some v := by
  rw [h.cell (World.block_lt_of_cell? _ _ hc) hs]; exact hc
theorem KeptX.frozen {S : Nat → Prop} {w w' : World} (h : KeptX S w w') {a : Addr} (ha : a.block < w.heap.size) (hs : ¬ S a.block) : w'.frozen? a = w.frozen? a := World.frozen?_of_block (w := w) (h.block _ ha hs)
theorem KeptX.row {S : Nat → Prop} {w w' : World} (h : KeptX S w w') {b : Nat} {t : TypeId} {n : Nat} {f : Nat → Value} (hr : w.rowIs b t n f) (hs : ¬ S b) : w'.rowIs b t n f :=
  hr.of_block (h.block b hr.lt hs)
theorem Kept.cellSome {w w' : World} (h : Kept w w') {a : Addr} {v : Value} (hc : w.cell? a = some v) : w'.cell? a = some v := KeptX.cellSome h hc id
theorem Kept.row {w w' : World} (h : Kept w w') {b : Nat} {t : TypeId} {n : Nat} {f : Nat → Value} (hr : w.rowIs b t n f) : w'.rowIs b t n f := KeptX.row h hr id
theorem Kept.refl (w : World) : Kept w w := KeptX.refl _ w
theorem Kept.trans {a b c : World} (h : Kept a b) (k : Kept b c) : Kept a c := KeptX.trans h k
theorem Kept.alloc {a b : World} (h : Kept a b) (o : Obj) : Kept a (b.alloc o) := KeptX.alloc h o
theorem Kept.drew {a b : World} (h : Kept a b) : Kept a b.drew := KeptX.drew h
theorem Kept.drewN {a b : World} (h : Kept a b) (n : Nat) : Kept a (b.drewN n) := KeptX.drewN h n
theorem Kept.setCell {a b : World} (h : Kept a b) {p : Addr} (hp : a.heap.size ≤ p.block) (v : Value) : Kept a (b.setCell p v) := KeptX.setCell h (Or.inr hp) v
theorem Kept.grown {a b c : World} {row : Option Nat} (h : Kept a b) (hg : b.grownBy c row) (hr : ∀ k, row = some k → a.heap.size ≤ k) : Kept a c := KeptX.grown h hg (fun k hk => Or.inr (hr k hk))
theorem Kept.size {a b : World} (h : Kept a b) : a.heap.size ≤ b.heap.size := KeptX.size h
theorem Kept.step {T : Nat → Prop} {a b c : World} (h : Kept a b) (k : KeptX T b c) (hT : ∀ i, T i → a.heap.size ≤ i) : Kept a c := KeptX.step h k (fun i hi => Or.inr (hT i hi))
theorem Kept.since {a b : World} (h : Kept a b) : Below a.heap.size a b := ⟨KeptX.os h, KeptX.tape h, KeptX.output h, KeptX.size h, fun k hk => KeptX.block h k hk id⟩
theorem Kept.below {a b : World} (h : Below a.heap.size a b) : Kept a b := ⟨h.os, h.tape, h.output, h.size, fun k hk _ => h.block k hk⟩

/-- v reads as n cells f, one after the other. -/
def CellsAt (w : World) (v : Value) (n : Nat) (f : Nat → Value) : Prop :=
  ∃ (a : Option Addr) (b o cap : Nat), v = .slice a n cap ∧ (0 < n → a = some ⟨b, o, none⟩) ∧ ∀ i, i < n → w.cell? ⟨b, o + i, none⟩ = some (f i)
/-- v reads as n pairs of ints. -/
def PairsAt (w : World) (v : Value) (n : Nat) (A B : Nat → Int) : Prop :=
  ∃ (a : Option Addr) (b o cap : Nat), v = .slice a n cap ∧ (0 < n → a = some ⟨b, o, none⟩) ∧ ∀ i, i < n → w.cell? ⟨b, o + i * 2, none⟩ = some (.int .i64 (A i)) ∧ w.cell? ⟨b, o + i * 2 + 1, none⟩ = some (.int .i64 (B i))
abbrev IntsAt (w : World) (v : Value) (n : Nat) (f : Nat → Int) : Prop := CellsAt w v n (fun i => .int .i64 (f i))
abbrev BoolsAt (w : World) (v : Value) (n : Nat) (f : Nat → Bool) : Prop := CellsAt w v n (fun i => .bool (f i))

theorem CellsAt.kept {w w' : World} {v : Value} {n : Nat} {f : Nat → Value} (h : CellsAt w v n f) (k : Kept w w') : CellsAt w' v n f := by
  obtain ⟨a, b, o, cap, e, ha, hc⟩ := h
  exact ⟨a, b, o, cap, e, ha, fun i hi => k.cellSome (hc i hi)⟩
theorem PairsAt.kept {w w' : World} {v : Value} {n : Nat} {A B : Nat → Int} (h : PairsAt w v n A B) (k : Kept w w') : PairsAt w' v n A B := by
  obtain ⟨a, b, o, cap, e, ha, hc⟩ := h
  exact ⟨a, b, o, cap, e, ha, fun i hi => ⟨k.cellSome (hc i hi).1, k.cellSome (hc i hi).2⟩⟩
theorem CellsAt.of_row {w : World} {b : Nat} {t : TypeId} {n cap : Nat} {f : Nat → Value} (h : w.rowIs b t n f) : CellsAt w (.slice (some ⟨b, 0, none⟩) n cap) n f :=
  ⟨_, b, 0, cap, rfl, fun _ => rfl, fun i hi => by rw [Nat.zero_add]; exact h.cell hi⟩
theorem CellsAt.of_row1 {w : World} {b : Nat} {t : TypeId} {n cap : Nat} {f : Nat → Value} (h : w.rowIs b t (n + 1) f) : CellsAt w (.slice (some ⟨b, 1, none⟩) n cap) n (fun i => f (i + 1)) :=
  ⟨_, b, 1, cap, rfl, fun _ => rfl, fun i hi => by rw [Nat.add_comm]; exact h.cell (by omega)⟩
theorem CellsAt.congr {w : World} {v : Value} {n : Nat} {f g : Nat → Value} (h : CellsAt w v n f) (e : ∀ i, i < n → f i = g i) : CellsAt w v n g := by
  obtain ⟨a, b, o, cap, e0, ha, hc⟩ := h
  exact ⟨a, b, o, cap, e0, ha, fun i hi => by rw [← e i hi]; exact hc i hi⟩
/-- a slice that the call has made by append -/
theorem CellsAt.of_own {w : World} {base e : Nat} {v : Value} {n : Nat} {xs : List Value} (h : w.ownsRow base e 1 v n xs) : CellsAt w v n (fun i => xs.getD i undef) := by
  obtain ⟨hl, h⟩ := h
  rcases h with ⟨rfl, rfl⟩ | ⟨g, cap, cur, rfl, _, hg, hc, _, hs, ht⟩
  · exact ⟨none, 0, 0, 0, rfl, fun h => absurd h (by omega), fun i hi => absurd hi (by omega)⟩
  · refine ⟨_, g, 0, cap, rfl, fun _ => rfl, fun i hi => ?_⟩
    rw [Nat.mul_one] at hl ht hs
    simp only [World.cell?, hg, Nat.zero_add]
    subst ht
    have h1 : i < cur.size := by omega
    simp [List.getD, hi, h1]

/-- how many of the first k have p -/
def cnt (p : Nat → Bool) : Nat → Nat
  | 0 => 0
  | k + 1 => cnt p k + (if p k then 1 else 0)
theorem cnt_le (p : Nat → Bool) (k : Nat) : cnt p k ≤ k := by
  induction k with
  | zero => simp [cnt]
  | succ k ih => simp only [cnt]; split <;> omega
theorem ret_int {k : IntKind} {a b : Int} (h : a = b) : Ending.returned (.int k a) = .returned (.int k b) := by rw [h]
theorem ret_bool {a b : Bool} (h : a = b) : Ending.returned (.bool a) = .returned (.bool b) := by rw [h]
/-- a call that only reads: at most draws -/
def Quiet (w w' : World) : Prop := ∃ n, w' = w.drewN n
theorem Quiet.refl (w : World) : Quiet w w := ⟨0, rfl⟩
theorem Quiet.drewN {w w' : World} (h : Quiet w w') (k : Nat) : Quiet w (w'.drewN k) := by obtain ⟨n, rfl⟩ := h; exact ⟨n + k, by simp⟩
theorem Quiet.drew {w w' : World} (h : Quiet w w') : Quiet w w'.drew := by obtain ⟨n, rfl⟩ := h; exact ⟨n + 1, rfl⟩
theorem CellsAt.dN {w : World} {v : Value} {n : Nat} {f : Nat → Value} (h : CellsAt w v n f) (k : Nat) : CellsAt (w.drewN k) v n f := h.kept ((Kept.refl _).drewN k)
theorem PairsAt.dN {w : World} {v : Value} {n : Nat} {A B : Nat → Int} (h : PairsAt w v n A B) (k : Nat) : PairsAt (w.drewN k) v n A B := h.kept ((Kept.refl _).drewN k)
/-- a call that leaves the world alone, inside a quiet region -/
theorem quietS {P : Program} {f : FuncId} {args : Array Value} {w : World} {n : Nat} {v : Value}
    (h : Calls P f args (w.drewN n) fun e w' => e = .returned v ∧ w.drewN n = w') : Calls P f args (w.drewN n) fun e w'' => e = .returned v ∧ ∃ m, w'' = w.drewN m :=
  h.mono fun _ _ ⟨he, hm⟩ => ⟨he, n, hm.symm⟩
/-- a call that only draws -/
theorem quietQ {P : Program} {f : FuncId} {args : Array Value} {w : World} {n : Nat} {v : Value}
    (h : Calls P f args (w.drewN n) fun e w' => e = .returned v ∧ Quiet (w.drewN n) w') : Calls P f args (w.drewN n) fun e w'' => e = .returned v ∧ ∃ m, w'' = w.drewN m :=
  h.mono fun _ _ ⟨he, m, hm⟩ => ⟨he, n + m, by rw [hm, World.drewN_drewN]⟩
theorem Quiet.kept {w w' : World} (h : Quiet w w') : Kept w w' := by obtain ⟨n, rfl⟩ := h; exact (Kept.refl w).drewN n
def allN (p : Nat → Bool) : Nat → Bool
  | 0 => true
  | k + 1 => allN p k && p k
theorem allN_true {p : Nat → Bool} {n : Nat} : allN p n = true ↔ ∀ i, i < n → p i = true := by
  induction n with
  | zero => simp [allN]
  | succ n ih =>
    simp only [allN, Bool.and_eq_true, ih]
    constructor
    · rintro ⟨h1, h2⟩ i hi
      by_cases e : i = n
      · subst e; exact h2
      · exact h1 i (by omega)
    · intro h
      exact ⟨fun i hi => h i (by omega), h n (by omega)⟩
theorem allN_false {p : Nat → Bool} {n k : Nat} (hk : k < n) (h : p k = false) : allN p n = false := by
  cases e : allN p n with
  | false => rfl
  | true => rw [allN_true.1 e k hk] at h; cases h
theorem allN_step {p : Nat → Bool} {k : Nat} (h : allN p k = true) (hp : p k = true) : allN p (k + 1) = true := by simp [allN, h, hp]
/-- the lexicographic order, from k on, r places being left in both -/
def bef (fa fb : Nat → Int) (na nb : Nat) : Nat → Nat → Bool
  | 0, _ => decide (na < nb)
  | r + 1, k => if fa k = fb k then bef fa fb na nb r (k + 1) else decide (fa k < fb k)
def before (na : Nat) (fa : Nat → Int) (nb : Nat) (fb : Nat → Int) : Bool := bef fa fb na nb (min na nb) 0
def same (na : Nat) (fa : Nat → Int) (nb : Nat) (fb : Nat → Int) : Bool := decide (na = nb) && allN (fun i => fa i == fb i) na
theorem bef_same (fa fb : Nat → Int) (na nb : Nat) (r k : Nat) : (!bef fa fb na nb r k && !bef fb fa nb na r k) = (decide (na = nb) && allN (fun i => fa (k + i) == fb (k + i)) r) := by
  induction r generalizing k with
  | zero => simp only [bef, allN, Bool.and_true]; rw [Bool.eq_iff_iff]; simp; omega
  | succ r ih =>
    simp only [bef]
    have hs : allN (fun i => fa (k + i) == fb (k + i)) (r + 1) = ((fa k == fb k) && allN (fun i => fa (k + 1 + i) == fb (k + 1 + i)) r) := by
      rw [Bool.eq_iff_iff, Bool.and_eq_true, allN_true, allN_true]
      constructor
      · intro h
        exact ⟨h 0 (by omega), fun i hi => by have := h (i + 1) (by omega); rwa [show k + (i + 1) = k + 1 + i by omega] at this⟩
      · rintro ⟨h0, h⟩ i hi
        cases i with
        | zero => exact h0
        | succ i => have := h i (by omega); rwa [show k + 1 + i = k + (i + 1) by omega] at this
    rw [hs]
    by_cases e : fa k = fb k
    · rw [if_pos e, if_pos e.symm, ih]; simp [e]
    · rw [if_neg e, if_neg (fun h => e h.symm)]
      have : (fa k == fb k) = false := by simpa using e
      rw [this, Bool.false_and, Bool.and_false, Bool.eq_iff_iff]
      simp; omega
theorem before_same (na : Nat) (fa : Nat → Int) (nb : Nat) (fb : Nat → Int) : (!before na fa nb fb && !before nb fb na fa) = same na fa nb fb := by
  unfold before same
  rw [Nat.min_comm nb na, bef_same]
  by_cases e : na = nb
  · subst e; simp
  · simp [e]
theorem keep1 {w w' : World} {a1 : Addr} {v1 : Value} (h1 : w.cell? a1 = some v1) (hk : Kept w w') : w'.cell? a1 = some v1 ∧ Kept w w' := ⟨hk.cellSome h1, hk⟩
theorem keep2 {w w' : World} {a1 a2 : Addr} {v1 v2 : Value} (h1 : w.cell? a1 = some v1) (h2 : w.cell? a2 = some v2) (hk : Kept w w') : w'.cell? a1 = some v1 ∧ w'.cell? a2 = some v2 ∧ Kept w w' := ⟨hk.cellSome h1, hk.cellSome h2, hk⟩
theorem keep3 {w w' : World} {a1 a2 a3 : Addr} {v1 v2 v3 : Value} (h1 : w.cell? a1 = some v1) (h2 : w.cell? a2 = some v2) (h3 : w.cell? a3 = some v3) (hk : Kept w w') : w'.cell? a1 = some v1 ∧ w'.cell? a2 = some v2 ∧ w'.cell? a3 = some v3 ∧ Kept w w' := ⟨hk.cellSome h1, hk.cellSome h2, hk.cellSome h3, hk⟩
theorem keep4 {w w' : World} {a1 a2 a3 a4 : Addr} {v1 v2 v3 v4 : Value} (h1 : w.cell? a1 = some v1) (h2 : w.cell? a2 = some v2) (h3 : w.cell? a3 = some v3) (h4 : w.cell? a4 = some v4) (hk : Kept w w') : w'.cell? a1 = some v1 ∧ w'.cell? a2 = some v2 ∧ w'.cell? a3 = some v3 ∧ w'.cell? a4 = some v4 ∧ Kept w w' := ⟨hk.cellSome h1, hk.cellSome h2, hk.cellSome h3, hk.cellSome h4, hk⟩
theorem keep5 {w w' : World} {a1 a2 a3 a4 a5 : Addr} {v1 v2 v3 v4 v5 : Value} (h1 : w.cell? a1 = some v1) (h2 : w.cell? a2 = some v2) (h3 : w.cell? a3 = some v3) (h4 : w.cell? a4 = some v4) (h5 : w.cell? a5 = some v5) (hk : Kept w w') : w'.cell? a1 = some v1 ∧ w'.cell? a2 = some v2 ∧ w'.cell? a3 = some v3 ∧ w'.cell? a4 = some v4 ∧ w'.cell? a5 = some v5 ∧ Kept w w' := ⟨hk.cellSome h1, hk.cellSome h2, hk.cellSome h3, hk.cellSome h4, hk.cellSome h5, hk⟩
theorem keep6 {w w' : World} {a1 a2 a3 a4 a5 a6 : Addr} {v1 v2 v3 v4 v5 v6 : Value} (h1 : w.cell? a1 = some v1) (h2 : w.cell? a2 = some v2) (h3 : w.cell? a3 = some v3) (h4 : w.cell? a4 = some v4) (h5 : w.cell? a5 = some v5) (h6 : w.cell? a6 = some v6) (hk : Kept w w') : w'.cell? a1 = some v1 ∧ w'.cell? a2 = some v2 ∧ w'.cell? a3 = some v3 ∧ w'.cell? a4 = some v4 ∧ w'.cell? a5 = some v5 ∧ w'.cell? a6 = some v6 ∧ Kept w w' := ⟨hk.cellSome h1, hk.cellSome h2, hk.cellSome h3, hk.cellSome h4, hk.cellSome h5, hk.cellSome h6, hk⟩
theorem keep7 {w w' : World} {a1 a2 a3 a4 a5 a6 a7 : Addr} {v1 v2 v3 v4 v5 v6 v7 : Value} (h1 : w.cell? a1 = some v1) (h2 : w.cell? a2 = some v2) (h3 : w.cell? a3 = some v3) (h4 : w.cell? a4 = some v4) (h5 : w.cell? a5 = some v5) (h6 : w.cell? a6 = some v6) (h7 : w.cell? a7 = some v7) (hk : Kept w w') : w'.cell? a1 = some v1 ∧ w'.cell? a2 = some v2 ∧ w'.cell? a3 = some v3 ∧ w'.cell? a4 = some v4 ∧ w'.cell? a5 = some v5 ∧ w'.cell? a6 = some v6 ∧ w'.cell? a7 = some v7 ∧ Kept w w' := ⟨hk.cellSome h1, hk.cellSome h2, hk.cellSome h3, hk.cellSome h4, hk.cellSome h5, hk.cellSome h6, hk.cellSome h7, hk⟩
theorem keep8 {w w' : World} {a1 a2 a3 a4 a5 a6 a7 a8 : Addr} {v1 v2 v3 v4 v5 v6 v7 v8 : Value} (h1 : w.cell? a1 = some v1) (h2 : w.cell? a2 = some v2) (h3 : w.cell? a3 = some v3) (h4 : w.cell? a4 = some v4) (h5 : w.cell? a5 = some v5) (h6 : w.cell? a6 = some v6) (h7 : w.cell? a7 = some v7) (h8 : w.cell? a8 = some v8) (hk : Kept w w') : w'.cell? a1 = some v1 ∧ w'.cell? a2 = some v2 ∧ w'.cell? a3 = some v3 ∧ w'.cell? a4 = some v4 ∧ w'.cell? a5 = some v5 ∧ w'.cell? a6 = some v6 ∧ w'.cell? a7 = some v7 ∧ w'.cell? a8 = some v8 ∧ Kept w w' := ⟨hk.cellSome h1, hk.cellSome h2, hk.cellSome h3, hk.cellSome h4, hk.cellSome h5, hk.cellSome h6, hk.cellSome h7, hk.cellSome h8, hk⟩
theorem own_base {w : World} {base base' e size : Nat} {v : Value} {n : Nat} {xs : List Value} (h : w.ownsRow base' e size v n xs) (hb : base ≤ base') : w.ownsRow base e size v n xs := by
  obtain ⟨h1, h⟩ := h
  refine ⟨h1, ?_⟩
  rcases h with h | ⟨g, cap, cur, e1, e2, rest⟩
  · exact .inl h
  · exact .inr ⟨g, cap, cur, e1, by omega, rest⟩
theorem own_keptX {S : Nat → Prop} {w w' : World} {base e size : Nat} {v : Value} {n : Nat} {xs : List Value} (h : w.ownsRow base e size v n xs) (k : KeptX S w w') (hS : ∀ b, S b → b < base) : w'.ownsRow base e size v n xs := by
  obtain ⟨h1, h⟩ := h
  refine ⟨h1, ?_⟩
  rcases h with h | ⟨g, cap, cur, e1, e2, e3, rest⟩
  · exact .inl h
  · have hlt : g < w.heap.size := (Array.getElem?_eq_some_iff.1 e3).1
    exact .inr ⟨g, cap, cur, e1, e2, (k.block g hlt (fun hs => by have := hS g hs; omega)).trans e3, rest⟩
theorem own_kept {w w' : World} {base e size : Nat} {v : Value} {n : Nat} {xs : List Value} (h : w.ownsRow base e size v n xs) (k : Kept w w') : w'.ownsRow base e size v n xs := own_keptX h k (fun _ h => h.elim)
/-- an append to a slice from base on turns no older block -/
theorem Kept.grew {a b c : World} {base e size : Nat} {v : Value} {n : Nat} {xs : List Value} (h : Kept a b) (hg : b.grownBy c v.ownBlock) (ho : b.ownsRow base e size v n xs) (hb : a.heap.size ≤ base) : Kept a c :=
  h.grown hg (fun k hk => by have := (ho.lt k hk).1; omega)
theorem grew_X {b c : World} {base e size : Nat} {v : Value} {n : Nat} {xs : List Value} (hg : b.grownBy c v.ownBlock) (ho : b.ownsRow base e size v n xs) : KeptX (fun k => base ≤ k) b c :=
  (KeptX.refl _ b).grown hg (fun k hk => Or.inl (ho.lt k hk).1)
theorem add_at (b o j : Nat) : ((⟨b, o, none⟩ : Addr).add j) = ⟨b, o + j, none⟩ := by
  by_cases h : j = 0
  · subst h; simp [Addr.add]
  · simp [Addr.add, h]
theorem made_rep (z : Value) (n : Nat) : madeCells #[z] n = (List.replicate n z).toArray := by
  apply Array.ext
  · simp [size_madeCells]
  · intro i h1 h2; simp [madeCells, Nat.mod_one]
def intsL (f : Nat → Int) (n : Nat) : List Value := (List.range n).map fun i => Value.int .i64 (f i)
theorem intsL_get {f : Nat → Int} {n i : Nat} (h : i < n) : (intsL f n)[i]? = some (.int .i64 (f i)) := by simp [intsL, h]
theorem intsL_some {f : Nat → Int} {n i : Nat} {v : Value} (h : (intsL f n)[i]? = some v) : i < n ∧ v = .int .i64 (f i) := by
  have hl : i < n := by
    have := (List.getElem?_eq_some_iff.1 h).1
    simpa [intsL] using this
  rw [intsL_get hl] at h
  exact ⟨hl, (Option.some.inj h).symm⟩
theorem intsL_one {f : Nat → Int} {n : Nat} : ∀ v ∈ intsL f n, v.oneCell' = true := by
  intro v hv
  simp only [intsL, List.mem_map] at hv
  obtain ⟨i, _, rfl⟩ := hv
  rfl
theorem made_get (z : Value) (n i : Nat) (h : i < n) : (madeCells #[z] n)[i]? = some z := by simp [madeCells, h, Nat.mod_one]
theorem row_made_set (W : World) (z v : Value) (n i : Nat) (t : TypeId) : (W.alloc (.cells ((madeCells #[z] n).setIfInBounds i v) t)).rowIs W.heap.size t n (fun j => if j = i then v else z) := by
  have h := World.rowIs_alloc W ((madeCells #[z] n).setIfInBounds i v) t (fun j => if j = i then v else z) (fun j hj => by
    simp only [Array.size_setIfInBounds, size_madeCells] at hj
    rw [Array.getElem?_setIfInBounds]
    by_cases e : i = j
    · subst e; simp [size_madeCells, hj]
    · rw [if_neg e, if_neg (fun h => e h.symm)]; exact made_get z n j hj)
  simpa [size_madeCells] using h
def sumN (f : Nat → Nat) : Nat → Nat
  | 0 => 0
  | k + 1 => sumN f k + f k
theorem sumN_le (f : Nat → Nat) (c n : Nat) (h : ∀ i, i < n → f i ≤ c) : sumN f n ≤ c * n := by
  induction n with
  | zero => simp [sumN]
  | succ n ih =>
    have h1 := ih (fun i hi => h i (by omega))
    have h2 := h n (by omega)
    simp only [sumN, Nat.mul_succ]
    omega
/-- the first number below n that has p, or n -/
def least (p : Nat → Bool) : Nat → Nat
  | 0 => 0
  | n + 1 => if least p n < n then least p n else if p n then n else n + 1
theorem least_le (p : Nat → Bool) (n : Nat) : least p n ≤ n := by
  induction n with
  | zero => simp [least]
  | succ n ih => simp only [least]; split <;> (try split) <;> omega
theorem least_none {p : Nat → Bool} {n : Nat} : least p n = n ↔ ∀ i, i < n → p i = false := by
  induction n with
  | zero => simp [least]
  | succ n ih =>
    have hle := least_le p n
    simp only [least]
    constructor
    · intro h
      by_cases e : least p n < n
      · rw [if_pos e] at h; omega
      · rw [if_neg e] at h
        have hn : least p n = n := by omega
        cases e2 : p n with
        | true => rw [e2, if_pos rfl] at h; omega
        | false =>
          intro i hi
          by_cases ei : i = n
          · subst ei; exact e2
          · exact ih.1 hn i (by omega)
    · intro h
      have hn : least p n = n := ih.2 (fun i hi => h i (by omega))
      rw [hn, if_neg (by omega), h n (by omega)]
      simp
theorem least_some {p : Nat → Bool} {n : Nat} (h : least p n < n) : p (least p n) = true ∧ ∀ i, i < least p n → p i = false := by
  induction n with
  | zero => simp [least] at h
  | succ n ih =>
    have hle := least_le p n
    simp only [least] at h ⊢
    by_cases e : least p n < n
    · rw [if_pos e]; exact ih e
    · rw [if_neg e] at h ⊢
      cases e2 : p n with
      | true => rw [if_pos rfl]; exact ⟨e2, least_none.1 (by omega)⟩
      | false => rw [e2] at h; simp at h
theorem least_hit {p : Nat → Bool} {n k : Nat} (h : least p k = k) (hp : p k = true) (hk : k < n) : least p n = k := by
  have h0 := least_none.1 h
  have hn : least p n < n := by
    rcases Nat.lt_or_ge (least p n) n with h1 | h1
    · exact h1
    · have := least_none.1 (Nat.le_antisymm (least_le p n) h1) k hk
      rw [hp] at this; cases this
  obtain ⟨h1, h2⟩ := least_some hn
  rcases Nat.lt_trichotomy (least p n) k with h3 | h3 | h3
  · rw [h0 _ h3] at h1; cases h1
  · exact h3
  · rw [h2 _ h3] at hp; cases hp
theorem least_step {p : Nat → Bool} {k : Nat} (h : least p k = k) (hp : p k = false) : least p (k + 1) = k + 1 := by
  simp only [least]; rw [h, if_neg (by omega), hp]; simp
end Go.Proofs.Ytjjeoloifggdpaa
