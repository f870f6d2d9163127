/-
  Roads in plain words: spots of a tree, ancestors, where the ways to the place 0 meet, distances.
-/
import Derived.Test.YtlgpclnmonpkjaaRep
namespace Go.Proofs.Ytlgpclnmonpkjaa

/-- a road: how many places, on which each hangs, how long its way is -/
structure Road where
  n : Nat
  on : Nat → Nat
  len : Nat → Nat
structure Road.Ok (R : Road) : Prop where
  pos : 1 ≤ R.n
  max : R.n ≤ 10
  on0 : R.on 0 = 0
  len0 : R.len 0 = 0
  low : ∀ i, 1 ≤ i → i < R.n → R.on i < i
  one : ∀ i, 1 ≤ i → i < R.n → 1 ≤ R.len i
  big : ∀ i, i < R.n → R.len i ≤ 20
/-- a spot: a place, and how far from it towards the place that it hangs on -/
abbrev Sp := Nat × Nat
def Road.spot (R : Road) (s : Sp) : Prop := s.1 < R.n ∧ (s.2 = 0 ∨ s.2 < R.len s.1)
def Road.up (R : Road) (s : Sp) : Sp := if s.2 + 1 < R.len s.1 then (s.1, s.2 + 1) else (R.on s.1, 0)
def Road.deepT (R : Road) : Nat → Nat → Nat
  | 0, _ => 0
  | f + 1, p => if p = 0 then 0 else R.deepT f (R.on p) + R.len p
def Road.deep (R : Road) (p : Nat) : Nat := R.deepT p p
theorem Road.deepT_any {R : Road} (h : R.Ok) : ∀ f g p, p < R.n → p ≤ f → p ≤ g → R.deepT f p = R.deepT g p := by
  intro f
  induction f with
  | zero =>
    intro g p hp h1 h2
    obtain rfl : p = 0 := by omega
    cases g with
    | zero => rfl
    | succ g => simp [Road.deepT]
  | succ f ih =>
    intro g p hp h1 h2
    by_cases e : p = 0
    · subst e
      cases g with
      | zero => simp [Road.deepT]
      | succ g => simp [Road.deepT]
    · cases g with
      | zero => omega
      | succ g =>
        have := h.low p (by omega) hp
        simp only [Road.deepT, if_neg e]
        rw [ih g (R.on p) (by omega) (by omega) (by omega)]
theorem Road.deep0 (R : Road) : R.deep 0 = 0 := rfl
theorem Road.deep_on {R : Road} (h : R.Ok) {p : Nat} (h0 : 1 ≤ p) (hp : p < R.n) : R.deep p = R.deep (R.on p) + R.len p := by
  have := h.low p h0 hp
  obtain ⟨q, rfl⟩ : ∃ q, p = q + 1 := ⟨p - 1, by omega⟩
  unfold Road.deep
  rw [Road.deepT, if_neg (by omega), Road.deepT_any h q (R.on (q + 1)) _ (by omega) (by omega) (Nat.le_refl _)]
theorem Road.deep_le {R : Road} (h : R.Ok) : ∀ p, p < R.n → R.deep p ≤ 20 * p := by
  intro p
  induction p using Nat.strongRecOn with
  | ind p ih =>
    intro hp
    by_cases e : p = 0
    · subst e; simp [Road.deep0]
    · have h1 := h.low p (by omega) hp
      have h2 := ih _ h1 (by omega)
      have h3 := h.big p hp
      rw [Road.deep_on h (by omega) hp]
      omega
theorem Road.len_le_deep {R : Road} (h : R.Ok) {p : Nat} (hp : p < R.n) : R.len p ≤ R.deep p := by
  by_cases e : p = 0
  · subst e; rw [h.len0]; omega
  · rw [Road.deep_on h (by omega) hp]; omega
def Road.dep (R : Road) (s : Sp) : Nat := R.deep s.1 - s.2
theorem Road.spot_le {R : Road} (h : R.Ok) {s : Sp} (hs : R.spot s) : s.2 ≤ R.deep s.1 := by
  have := Road.len_le_deep h hs.1
  rcases hs.2 with e | e <;> omega
theorem Road.up_spot {R : Road} (h : R.Ok) {s : Sp} (hs : R.spot s) : R.spot (R.up s) := by
  unfold Road.up
  split
  · next e => exact ⟨hs.1, Or.inr e⟩
  · refine ⟨?_, Or.inl rfl⟩
    by_cases e : s.1 = 0
    · rw [e, h.on0]; have := h.pos; omega
    · have := h.low s.1 (by omega) hs.1
      have := hs.1
      simp only
      omega
theorem Road.dep_up {R : Road} (h : R.Ok) {s : Sp} (hs : R.spot s) : R.dep (R.up s) = R.dep s - 1 := by
  obtain ⟨p, u⟩ := s
  have h1 := Road.len_le_deep h hs.1
  have h2 := hs.2
  have h3 := hs.1
  simp only at h1 h2 h3
  unfold Road.up Road.dep
  simp only
  split
  · simp only; omega
  · by_cases e : p = 0
    · subst e; rw [h.on0]; simp [Road.deep0]
    · simp only
      have h4 := Road.deep_on h (p := p) (by omega) h3
      have h5 := h.one p (by omega) h3
      omega
theorem Road.dep_zero {R : Road} (h : R.Ok) {s : Sp} (hs : R.spot s) (h0 : R.dep s = 0) : s = (0, 0) := by
  obtain ⟨p, u⟩ := s
  unfold Road.dep at h0
  have h2 := hs.2
  have h3 := hs.1
  simp only at h0 h2 h3
  by_cases e : p = 0
  · subst e; rw [h.len0] at h2; simp only [Prod.mk.injEq, true_and]; omega
  · have h4 := Road.deep_on h (p := p) (by omega) h3
    have h5 := h.one p (by omega) h3
    omega
/-- k steps up -/
def Road.ups (R : Road) : Nat → Sp → Sp
  | 0, s => s
  | k + 1, s => R.ups k (R.up s)
theorem Road.ups_spot {R : Road} (h : R.Ok) : ∀ k s, R.spot s → R.spot (R.ups k s) := by
  intro k
  induction k with
  | zero => intro s hs; exact hs
  | succ k ih => intro s hs; exact ih _ (Road.up_spot h hs)
theorem Road.dep_ups {R : Road} (h : R.Ok) : ∀ k s, R.spot s → R.dep (R.ups k s) = R.dep s - k := by
  intro k
  induction k with
  | zero => intro s hs; rfl
  | succ k ih => intro s hs; rw [Road.ups, ih _ (Road.up_spot h hs), Road.dep_up h hs]; omega
theorem Road.ups_ups (R : Road) : ∀ k j s, R.ups j (R.ups k s) = R.ups (k + j) s := by
  intro k
  induction k with
  | zero => intro j s; simp [Road.ups]
  | succ k ih => intro j s; rw [Road.ups, ih, show k + 1 + j = k + j + 1 by omega, Road.ups]
/-- the spot at a depth, on the way from s to the place 0 -/
def Road.au (R : Road) (s : Sp) (d : Nat) : Sp := R.ups (R.dep s - d) s
theorem Road.au_spot {R : Road} (h : R.Ok) {s : Sp} (hs : R.spot s) (d : Nat) : R.spot (R.au s d) := Road.ups_spot h _ _ hs
theorem Road.au_dep {R : Road} (h : R.Ok) {s : Sp} (hs : R.spot s) {d : Nat} (hd : d ≤ R.dep s) : R.dep (R.au s d) = d := by
  unfold Road.au
  rw [Road.dep_ups h _ _ hs]
  omega
theorem Road.au_self (R : Road) (s : Sp) : R.au s (R.dep s) = s := by simp [Road.au, Road.ups]
theorem Road.au_au {R : Road} (h : R.Ok) {s : Sp} (hs : R.spot s) {d e : Nat} (he : e ≤ d) (hd : d ≤ R.dep s) : R.au (R.au s d) e = R.au s e := by
  have h1 := Road.au_dep h hs hd
  unfold Road.au at h1 ⊢
  rw [h1, Road.ups_ups]
  congr 1
  omega
theorem Road.au_up {R : Road} {s : Sp} (h0 : 1 ≤ R.dep s) : R.au s (R.dep s - 1) = R.up s := by
  unfold Road.au
  rw [show R.dep s - (R.dep s - 1) = 1 by omega]
  rfl
theorem Road.au_zero {R : Road} (h : R.Ok) {s : Sp} (hs : R.spot s) : R.au s 0 = (0, 0) := Road.dep_zero h (Road.au_spot h hs 0) (Road.au_dep h hs (Nat.zero_le _))
def Road.topT (R : Road) (a b : Sp) : Nat → Nat
  | 0 => 0
  | d + 1 => if R.au a (d + 1) = R.au b (d + 1) then d + 1 else R.topT a b d
/-- the depth of the spot where the ways from a and b to the place 0 meet -/
def Road.top (R : Road) (a b : Sp) : Nat := R.topT a b (min (R.dep a) (R.dep b))
theorem Road.topT_spec {R : Road} (h : R.Ok) {a b : Sp} (ha : R.spot a) (hb : R.spot b) : ∀ d, R.topT a b d ≤ d ∧ R.au a (R.topT a b d) = R.au b (R.topT a b d) ∧ ∀ e, R.topT a b d < e → e ≤ d → R.au a e ≠ R.au b e := by
  intro d
  induction d with
  | zero => exact ⟨Nat.le_refl _, by simp only [Road.topT]; rw [Road.au_zero h ha, Road.au_zero h hb], fun e h1 h2 => by simp only [Road.topT] at h1; omega⟩
  | succ d ih =>
    simp only [Road.topT]
    split
    · next e => exact ⟨Nat.le_refl _, e, fun e h1 h2 => by omega⟩
    · next ne =>
      obtain ⟨h1, h2, h3⟩ := ih
      refine ⟨by omega, h2, fun e he1 he2 => ?_⟩
      by_cases ee : e = d + 1
      · subst ee; exact ne
      · exact h3 e he1 (by omega)
theorem Road.top_le {R : Road} (h : R.Ok) {a b : Sp} (ha : R.spot a) (hb : R.spot b) : R.top a b ≤ R.dep a ∧ R.top a b ≤ R.dep b := by
  have h1 := (Road.topT_spec h ha hb (min (R.dep a) (R.dep b))).1
  unfold Road.top
  omega
theorem Road.top_au {R : Road} (h : R.Ok) {a b : Sp} (ha : R.spot a) (hb : R.spot b) : R.au a (R.top a b) = R.au b (R.top a b) := (Road.topT_spec h ha hb _).2.1
/-- up to their meeting the ways are the same -/
theorem Road.top_ge {R : Road} (h : R.Ok) {a b : Sp} (ha : R.spot a) (hb : R.spot b) {d : Nat} (h1 : d ≤ R.dep a) (h2 : d ≤ R.dep b) : d ≤ R.top a b ↔ R.au a d = R.au b d := by
  obtain ⟨t1, t2, t3⟩ := Road.topT_spec h ha hb (min (R.dep a) (R.dep b))
  constructor
  · intro hd
    have := Road.top_le h ha hb
    rw [← Road.au_au h ha hd this.1, Road.top_au h ha hb, Road.au_au h hb hd this.2]
  · intro e
    rcases Nat.lt_or_ge (R.top a b) d with hlt | hge
    · exact absurd e (t3 d hlt (by omega))
    · exact hge
theorem Road.top_comm {R : Road} (h : R.Ok) {a b : Sp} (ha : R.spot a) (hb : R.spot b) : R.top a b = R.top b a := by
  have h1 := Road.top_le h ha hb
  have h2 := Road.top_le h hb ha
  have h3 := (Road.top_ge h hb ha (d := R.top a b) h1.2 h1.1).2 (Road.top_au h ha hb).symm
  have h4 := (Road.top_ge h ha hb (d := R.top b a) h2.2 h2.1).2 (Road.top_au h hb ha).symm
  omega
theorem Road.top_self {R : Road} (h : R.Ok) {a : Sp} (ha : R.spot a) : R.top a a = R.dep a := by
  have h1 := Road.top_le h ha ha
  have h2 := (Road.top_ge h ha ha (Nat.le_refl _) (Nat.le_refl _)).2 rfl
  omega
theorem Road.top_same {R : Road} (h : R.Ok) {a b : Sp} (ha : R.spot a) (hb : R.spot b) (h1 : R.top a b = R.dep a) (h2 : R.top a b = R.dep b) : a = b := by
  have h3 := Road.top_au h ha hb
  have e1 := Road.au_self R a
  have e2 := Road.au_self R b
  rw [h1, e1, ← h1, h2, e2] at h3
  exact h3
theorem Road.top_three {R : Road} (h : R.Ok) {a b c : Sp} (ha : R.spot a) (hb : R.spot b) (hc : R.spot c) : min (R.top a b) (R.top b c) ≤ R.top a c := by
  have h1 := Road.top_le h ha hb
  have h2 := Road.top_le h hb hc
  refine (Road.top_ge h ha hc (by omega) (by omega)).2 ?_
  rw [(Road.top_ge h ha hb (d := min (R.top a b) (R.top b c)) (by omega) (by omega)).1 (by omega)]
  exact (Road.top_ge h hb hc (by omega) (by omega)).1 (by omega)
theorem Road.top_at {R : Road} (h : R.Ok) {a b : Sp} (ha : R.spot a) (hb : R.spot b) {d : Nat} (hd : d ≤ R.dep a) : R.top (R.au a d) b = min d (R.top a b) := by
  have hs := Road.au_spot h ha d
  have e1 := Road.au_dep h ha hd
  have t1 := Road.top_le h hs hb
  have t2 := Road.top_le h ha hb
  have g1 : R.top (R.au a d) b ≤ R.top a b := by
    refine (Road.top_ge h ha hb (by omega) (by omega)).2 ?_
    have := Road.top_au h hs hb
    rw [Road.au_au h ha (by omega) hd] at this
    exact this
  have g2 : min d (R.top a b) ≤ R.top (R.au a d) b := by
    refine (Road.top_ge h hs hb (by omega) (by omega)).2 ?_
    rw [Road.au_au h ha (by omega) hd]
    exact (Road.top_ge h ha hb (by omega) (by omega)).1 (by omega)
  omega
def Road.dist (R : Road) (a b : Sp) : Nat := R.dep a + R.dep b - 2 * R.top a b
theorem Road.dist_comm {R : Road} (h : R.Ok) {a b : Sp} (ha : R.spot a) (hb : R.spot b) : R.dist a b = R.dist b a := by
  unfold Road.dist
  rw [Road.top_comm h ha hb]
  omega
theorem Road.dist_zero {R : Road} (h : R.Ok) {a b : Sp} (ha : R.spot a) (hb : R.spot b) : R.dist a b = 0 ↔ a = b := by
  have t1 := Road.top_le h ha hb
  unfold Road.dist
  constructor
  · intro e; exact Road.top_same h ha hb (by omega) (by omega)
  · intro e; subst e; rw [Road.top_self h ha]; omega
theorem Road.dist_three {R : Road} (h : R.Ok) {a b c : Sp} (ha : R.spot a) (hb : R.spot b) (hc : R.spot c) : R.dist a c ≤ R.dist a b + R.dist b c := by
  have t1 := Road.top_le h ha hb
  have t2 := Road.top_le h hb hc
  have t3 := Road.top_le h ha hc
  have t4 := Road.top_three h ha hb hc
  unfold Road.dist
  omega
theorem Road.dep_le {R : Road} (h : R.Ok) {s : Sp} (hs : R.spot s) : R.dep s ≤ 180 := by
  have h1 := Road.deep_le h s.1 hs.1
  have h2 := h.max
  have h3 := hs.1
  unfold Road.dep
  omega
theorem Road.dist_le {R : Road} (h : R.Ok) {a b : Sp} (ha : R.spot a) (hb : R.spot b) : R.dist a b ≤ 360 := by
  have h1 := Road.dep_le h ha
  have h2 := Road.dep_le h hb
  unfold Road.dist
  omega
/-- places as spots -/
theorem Road.place_spot {R : Road} {p : Nat} (hp : p < R.n) : R.spot (p, 0) := ⟨hp, Or.inl rfl⟩
theorem Road.dep_place (R : Road) (p : Nat) : R.dep (p, 0) = R.deep p := rfl
/-- a spot lies on the way from its place -/
theorem Road.ups_place {R : Road} (p : Nat) : ∀ u, u = 0 ∨ u < R.len p → R.ups u (p, 0) = (p, u) := by
  intro u
  induction u with
  | zero => intro _; rfl
  | succ u ih =>
    intro hu
    have e := ih (by omega)
    rw [show u + 1 = u + 1 from rfl, ← Road.ups_ups, e]
    simp only [Road.ups, Road.up]
    rw [if_pos (by omega)]
theorem Road.au_place {R : Road} (h : R.Ok) {s : Sp} (hs : R.spot s) : R.au (s.1, 0) (R.dep s) = s := by
  have h1 := Road.spot_le h hs
  unfold Road.au
  rw [Road.dep_place]
  unfold Road.dep
  rw [show R.deep s.1 - (R.deep s.1 - s.2) = s.2 by omega, Road.ups_place s.1 s.2 hs.2]
theorem Road.up_place_le {R : Road} (h : R.Ok) {s : Sp} (hs : R.spot s) : (R.up s).1 ≤ s.1 := by
  unfold Road.up
  split
  · exact Nat.le_refl _
  · by_cases e : s.1 = 0
    · rw [e, h.on0]; exact Nat.le_refl _
    · have := h.low s.1 (by omega) hs.1; simp only; omega
theorem Road.ups_place_le {R : Road} (h : R.Ok) : ∀ k s, R.spot s → (R.ups k s).1 ≤ s.1 := by
  intro k
  induction k with
  | zero => intro s hs; exact Nat.le_refl _
  | succ k ih => intro s hs; exact Nat.le_trans (ih _ (Road.up_spot h hs)) (Road.up_place_le h hs)
/-- the place that p hangs on, as a spot on the way from p -/
theorem Road.au_on {R : Road} (h : R.Ok) {p : Nat} (h0 : 1 ≤ p) (hp : p < R.n) : R.au (p, 0) (R.deep (R.on p)) = (R.on p, 0) := by
  have h1 := Road.deep_on h h0 hp
  have h2 := h.one p h0 hp
  unfold Road.au
  rw [Road.dep_place, show R.deep p - R.deep (R.on p) = (R.len p - 1) + 1 by omega, ← Road.ups_ups, Road.ups_place p _ (by omega)]
  simp only [Road.ups, Road.up]
  rw [if_neg (by omega)]
theorem Road.top_on {R : Road} (h : R.Ok) {p q : Nat} (hp : p < R.n) (hq : q < p) : R.top (p, 0) (q, 0) = R.top (R.on p, 0) (q, 0) := by
  have hP := Road.place_spot (R := R) hp
  have hQ := Road.place_spot (R := R) (p := q) (by omega)
  have h1 := Road.deep_on h (p := p) (by omega) hp
  have e := Road.top_at h hP hQ (d := R.deep (R.on p)) (by rw [Road.dep_place]; omega)
  rw [Road.au_on h (by omega) hp] at e
  rw [e]
  have t := Road.top_le h hP hQ
  rcases Nat.lt_or_ge (R.deep (R.on p)) (R.top (p, 0) (q, 0)) with hlt | hge
  · exfalso
    have e2 := Road.top_au h hP hQ
    have e3 : R.au (p, 0) (R.top (p, 0) (q, 0)) = (p, R.deep p - R.top (p, 0) (q, 0)) := by
      unfold Road.au
      rw [Road.dep_place]
      exact Road.ups_place p _ (by omega)
    have e4 : (R.au (q, 0) (R.top (p, 0) (q, 0))).1 ≤ q := Road.ups_place_le h _ _ hQ
    rw [← e2, e3] at e4
    simp only at e4
    omega
  · omega
/-- a step up from the greater place: the meeting stays -/
theorem Road.meet_left {R : Road} (h : R.Ok) {p q : Nat} (hp : p < R.n) (hq : q < p) : R.on p < R.n ∧ R.on p < p ∧ R.top (R.on p, 0) (q, 0) = R.top (p, 0) (q, 0) ∧ R.au (R.on p, 0) (R.top (p, 0) (q, 0)) = R.au (p, 0) (R.top (p, 0) (q, 0)) := by
  have h1 := h.low p (by omega) hp
  have h2 := Road.top_on h hp hq
  have h3 := Road.deep_on h (p := p) (by omega) hp
  have hO := Road.place_spot (R := R) (p := R.on p) (by omega)
  have t := (Road.top_le h hO (Road.place_spot (R := R) (p := q) (by omega))).1
  rw [Road.dep_place] at t
  refine ⟨by omega, h1, h2.symm, ?_⟩
  rw [← Road.au_on h (by omega) hp, Road.au_au h (Road.place_spot hp) (by rw [h2]; exact t) (by rw [Road.dep_place]; omega)]
theorem Road.meet_right {R : Road} (h : R.Ok) {p q : Nat} (hp : p < R.n) (hq : q < p) : R.on p < R.n ∧ R.on p < p ∧ R.top (q, 0) (R.on p, 0) = R.top (q, 0) (p, 0) := by
  obtain ⟨h1, h2, h3, _⟩ := Road.meet_left h hp hq
  have hQ := Road.place_spot (R := R) (p := q) (by omega)
  exact ⟨h1, h2, by rw [Road.top_comm h hQ (Road.place_spot h1), h3, Road.top_comm h (Road.place_spot hp) hQ]⟩
/-- the place where the ways of two places meet -/
def Road.meet (R : Road) (p q : Nat) : Nat := (R.au (p, 0) (R.top (p, 0) (q, 0))).1
theorem Road.meet_ex {R : Road} (h : R.Ok) : ∀ f p q, p + q ≤ f → p < R.n → q < R.n → ∃ m, m < R.n ∧ (m, 0) = R.au (p, 0) (R.top (p, 0) (q, 0)) := by
  intro f
  induction f with
  | zero =>
    intro p q hf hp hq
    obtain rfl : p = 0 := by omega
    obtain rfl : q = 0 := by omega
    exact ⟨0, hp, by rw [Road.top_self h (Road.place_spot hp), Road.au_self]⟩
  | succ f ih =>
    intro p q hf hp hq
    by_cases e : p = q
    · subst e; exact ⟨p, hp, by rw [Road.top_self h (Road.place_spot hp), Road.au_self]⟩
    · by_cases hlt : q < p
      · obtain ⟨g1, g2, g3, g4⟩ := Road.meet_left h hp hlt
        obtain ⟨m, m1, m2⟩ := ih (R.on p) q (by omega) g1 hq
        exact ⟨m, m1, by rw [m2, g3, g4]⟩
      · obtain ⟨g1, g2, g3⟩ := Road.meet_right h hq (show p < q by omega)
        obtain ⟨m, m1, m2⟩ := ih p (R.on q) (by omega) hp g1
        exact ⟨m, m1, by rw [m2, g3]⟩
theorem Road.meet_spec {R : Road} (h : R.Ok) {p q : Nat} (hp : p < R.n) (hq : q < R.n) : R.meet p q < R.n ∧ (R.meet p q, 0) = R.au (p, 0) (R.top (p, 0) (q, 0)) ∧ R.deep (R.meet p q) = R.top (p, 0) (q, 0) := by
  obtain ⟨m, m1, m2⟩ := Road.meet_ex h _ p q (Nat.le_refl _) hp hq
  have e : R.meet p q = m := by unfold Road.meet; rw [← m2]
  have h1 := Road.au_dep h (Road.place_spot hp) (Road.top_le h (Road.place_spot hp) (Road.place_spot hq)).1
  rw [← m2] at h1
  rw [e]
  exact ⟨m1, m2, h1⟩
/-- as the program writes it -/
theorem Road.top_prog {R : Road} (h : R.Ok) {a b : Sp} (ha : R.spot a) (hb : R.spot b) : R.top a b = min (min (R.top (a.1, 0) (b.1, 0)) (R.dep a)) (R.dep b) := by
  have hA := Road.place_spot (R := R) ha.1
  have hB := Road.place_spot (R := R) hb.1
  have e1 := Road.au_place h ha
  have e2 := Road.au_place h hb
  have d1 : R.dep a ≤ R.dep (a.1, 0) := by unfold Road.dep; simp only; omega
  have d2 : R.dep b ≤ R.dep (b.1, 0) := by unfold Road.dep; simp only; omega
  have f1 := Road.top_at h hA hb (d := R.dep a) d1
  have f2 := Road.top_at h hB hA (d := R.dep b) d2
  rw [e1] at f1
  rw [e2, Road.top_comm h hB hA, Road.top_comm h hb hA] at f2
  rw [f1, f2]
  omega
/-- the spot next to s on its way to t -/
def Road.to (R : Road) (s t : Sp) : Sp := if R.top s t < R.dep s then R.up s else R.au t (R.dep s + 1)
end Go.Proofs.Ytlgpclnmonpkjaa
