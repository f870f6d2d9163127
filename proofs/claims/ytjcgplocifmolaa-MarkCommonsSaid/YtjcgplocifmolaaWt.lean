/-
  Words of digits: their steps; no two words of one code of digits have a shorter word in common. Words read backwards. No program is named here.
-/
import Derived.Test.YtjcgplocifmolaaWr
namespace Go.Proofs.Ytjcgplocifmolaa
open Go.Lib

/-- one step -/
def stp (a b : UInt8) : UInt8 := if a ≤ b then 49 else 48
/-- the steps from a letter on -/
def stpsFrom : UInt8 → Wd → Wd
  | _, [] => []
  | a, b :: t => stp a b :: stpsFrom b t
def stps : Wd → Wd
  | [] => []
  | a :: t => stpsFrom a t
theorem stpsFrom_len (a : UInt8) (t : Wd) : (stpsFrom a t).length = t.length := by
  induction t generalizing a with
  | nil => rfl
  | cons b t ih => simp [stpsFrom, ih]
theorem stps_len (l : Wd) : (stps l).length = l.length - 1 := by
  cases l with
  | nil => rfl
  | cons a t => simp [stps, stpsFrom_len]
theorem stp_bin (a b : UInt8) : stp a b = 48 ∨ stp a b = 49 := by unfold stp; split <;> simp
theorem stpsFrom_bin (a : UInt8) (t : Wd) : Bin (stpsFrom a t) := by
  induction t generalizing a with
  | nil => intro c hc; simp [stpsFrom] at hc
  | cons b t ih =>
    intro c hc
    simp only [stpsFrom, List.mem_cons] at hc
    rcases hc with rfl | hc
    · exact stp_bin a b
    · exact ih b c hc
theorem stps_bin (l : Wd) : Bin (stps l) := by
  cases l with
  | nil => intro c hc; simp [stps] at hc
  | cons a t => exact stpsFrom_bin a t
theorem stp_yes {a b : UInt8} : stp a b = 49 ↔ a ≤ b := by unfold stp; split <;> simp_all
theorem stp_no {a b : UInt8} : stp a b = 48 ↔ b < a := by
  unfold stp
  split
  · rename_i h
    exact ⟨fun h2 => absurd h2 (by decide), fun h2 => absurd (UInt8.lt_of_lt_of_le h2 h) (UInt8.lt_irrefl _)⟩
  · rename_i h
    exact ⟨fun _ => UInt8.not_le.1 h, fun _ => rfl⟩
/-- over a letter that goes the step is one of the two -/
theorem stp_mid (p a d : UInt8) : stp p d = stp p a ∨ stp p d = stp a d := by
  rcases stp_bin p a with h1 | h1 <;> rcases stp_bin a d with h2 | h2 <;> rcases stp_bin p d with h3 | h3 <;> rw [h1, h2, h3] <;> simp
  · rw [stp_no] at h1 h2; rw [stp_yes] at h3
    exact absurd (UInt8.lt_of_le_of_lt h3 (UInt8.lt_trans h2 h1)) (UInt8.lt_irrefl _)
  · rw [stp_yes] at h1 h2; rw [stp_no] at h3
    exact absurd (UInt8.lt_of_lt_of_le h3 (UInt8.le_trans h1 h2)) (UInt8.lt_irrefl _)
/-- the steps of what is left are the steps but one -/
theorem stpsFrom_del (p a : UInt8) (D : Wd) : ∀ A : Wd, ∃ i, i < (stpsFrom p (A ++ a :: D)).length ∧ stpsFrom p (A ++ D) = del (stpsFrom p (A ++ a :: D)) i := by
  intro A
  induction A generalizing p with
  | nil =>
    cases D with
    | nil => exact ⟨0, by simp [stpsFrom], rfl⟩
    | cons d D =>
      rcases stp_mid p a d with h | h
      · exact ⟨1, by simp [stpsFrom], by simp [stpsFrom, del, h]⟩
      · exact ⟨0, by simp [stpsFrom], by simp [stpsFrom, del, h]⟩
  | cons b A ih =>
    obtain ⟨i, hi, e⟩ := ih b
    refine ⟨i + 1, by simp only [List.cons_append, stpsFrom, List.length_cons]; omega, ?_⟩
    simp only [List.cons_append, stpsFrom]
    rw [e]; rfl
theorem stps_del (a : UInt8) (A D : Wd) (h : 0 < (A ++ D).length) : ∃ i, i < (stps (A ++ a :: D)).length ∧ stps (A ++ D) = del (stps (A ++ a :: D)) i := by
  cases A with
  | nil =>
    cases D with
    | nil => simp at h
    | cons d D => exact ⟨0, by simp [stps, stpsFrom], by simp [stps, stpsFrom, del]⟩
  | cons b A => exact stpsFrom_del b a D A
/-- a chain of equal steps that comes back: all its letters are the same -/
theorem chain_same {a : UInt8} {B : Wd} (h : stpsFrom a (B ++ [a]) = stps ((B ++ [a]) ++ [(B ++ [a]).headD a])) : a :: B = B ++ [a] := by
  cases B with
  | nil => rfl
  | cons b B =>
    simp only [List.cons_append, List.headD_cons, stps, stpsFrom] at h
    -- all steps are the first one
    have key : ∀ (v : UInt8) (C : Wd) (x y z : UInt8), stp x y = v → v :: stpsFrom y C = stpsFrom y C ++ [z] → ∀ s ∈ stpsFrom y C, s = v := by
      intro v C
      induction C generalizing v with
      | nil => intro x y z _ _ s hs; simp [stpsFrom] at hs
      | cons c C ih =>
        intro x y z hv he s hs
        simp only [stpsFrom, List.cons_append, List.cons.injEq] at he hs
        obtain ⟨e1, e2⟩ := he
        rcases List.mem_cons.1 hs with rfl | hs
        · exact e1.symm
        · rw [← e1] at e2
          exact ih v y c z e1.symm e2 s hs
    have h2 : stpsFrom b ((B ++ [a]) ++ [b]) = stpsFrom b (B ++ [a]) ++ [stp a b] := by
      generalize b = e
      have : ∀ (C : Wd) (x y z : UInt8), stpsFrom x ((C ++ [y]) ++ [z]) = stpsFrom x (C ++ [y]) ++ [stp y z] := by
        intro C
        induction C with
        | nil => intro x y z; rfl
        | cons c C ih => intro x y z; simp only [List.cons_append, stpsFrom]; rw [ih]
      exact this B e a e
    rw [h2] at h
    have h3 := key (stp a b) (B ++ [a]) a b (stp a b) rfl h
    -- rising all along, or falling all along
    have up : ∀ (C : Wd) (x z : UInt8), (∀ s ∈ stpsFrom x (C ++ [z]), s = 49) → x ≤ z ∧ (z ≤ x → ∀ c ∈ C, c = x) := by
      intro C
      induction C with
      | nil => intro x z hs; exact ⟨stp_yes.1 (hs _ (by simp [stpsFrom])), fun _ c hc => by simp at hc⟩
      | cons c C ih =>
        intro x z hs
        simp only [List.cons_append, stpsFrom, List.mem_cons] at hs
        have h1 : x ≤ c := stp_yes.1 (hs _ (.inl rfl))
        obtain ⟨i1, i2⟩ := ih c z (fun s h => hs s (.inr h))
        refine ⟨UInt8.le_trans h1 i1, fun hz d hd => ?_⟩
        have hcx : c = x := UInt8.le_antisymm (UInt8.le_trans i1 hz) h1
        rcases List.mem_cons.1 hd with rfl | hd
        · exact hcx
        · rw [i2 (by rw [hcx]; exact hz) d hd, hcx]
    have dn : ∀ (C : Wd) (x z : UInt8), (∀ s ∈ stpsFrom x (C ++ [z]), s = 48) → z < x := by
      intro C
      induction C with
      | nil => intro x z hs; exact stp_no.1 (hs _ (by simp [stpsFrom]))
      | cons c C ih =>
        intro x z hs
        simp only [List.cons_append, stpsFrom, List.mem_cons] at hs
        exact UInt8.lt_trans (ih c z (fun s h => hs s (.inr h))) (stp_no.1 (hs _ (.inl rfl)))
    rcases stp_bin a b with e | e
    · rw [e] at h3
      exact absurd (UInt8.lt_trans (dn B b a h3) (stp_no.1 e)) (UInt8.lt_irrefl _)
    · rw [e] at h3
      obtain ⟨u1, u2⟩ := up B b a h3
      have hab := stp_yes.1 e
      have eab : b = a := UInt8.le_antisymm u1 hab
      have hall := u2 hab
      subst eab
      have hr : B = List.replicate B.length b := List.eq_replicate_iff.2 ⟨rfl, hall⟩
      rw [List.cons_append, List.cons.injEq]
      exact ⟨rfl, rot_of hr⟩
/-- the sum of the digits -/
def dsum : Wd → Nat
  | [] => 0
  | c :: t => (c.toNat - 48) + dsum t
theorem dsum_append (a b : Wd) : dsum (a ++ b) = dsum a + dsum b := by
  induction a with
  | nil => simp [dsum]
  | cons c t ih => simp only [List.cons_append, dsum]; rw [ih]; omega
def Dig (q : Nat) (l : Wd) : Prop := ∀ c ∈ l, 48 ≤ c.toNat ∧ c.toNat < 48 + q
/-- the same steps: the letter that goes on past B is the same as each of B -/
theorem same_steps {A B C : Wd} {a : UInt8} (h : stps (A ++ a :: (B ++ C)) = stps (A ++ (B ++ a :: C))) : a :: B = B ++ [a] := by
  have cut : ∀ (A X Y : Wd) (p : UInt8), stpsFrom p (A ++ X) = stpsFrom p (A ++ Y) → ∃ q, stpsFrom q X = stpsFrom q Y := by
    intro A
    induction A with
    | nil => intro X Y p h; exact ⟨p, h⟩
    | cons c A ih => intro X Y p h; simp only [List.cons_append, stpsFrom, List.cons.injEq] at h; exact ih X Y c h.2
  have tl : ∀ (B C : Wd) (x y : UInt8), stpsFrom x (B ++ C) = stpsFrom y (B ++ a :: C) → B.length = 0 ∨ True := fun _ _ _ _ _ => .inr trivial
  clear tl
  -- the steps inside
  have main : ∀ (B C : Wd), stps (a :: (B ++ C)) = stps (B ++ a :: C) → a :: B = B ++ [a] := by
    intro B C h
    cases B with
    | nil => rfl
    | cons b B =>
      apply chain_same
      simp only [List.cons_append, List.headD_cons, stps, stpsFrom] at h ⊢
      -- stp a b :: stpsFrom b (B ++ C) = stpsFrom b (B ++ a :: C)
      have pre : ∀ (B : Wd) (u v x : UInt8), (v :: stpsFrom u (B ++ C) = stpsFrom u (B ++ a :: C)) → v :: stpsFrom u (B ++ [a]) = stpsFrom u ((B ++ [a]) ++ [x]) ∨ ∃ t, v :: stpsFrom u B = stpsFrom u (B ++ [a]) ∧ t = x := by
        intro B
        induction B with
        | nil =>
          intro u v x h
          simp only [List.nil_append, stpsFrom, List.cons.injEq] at h
          right; exact ⟨x, by simp [stpsFrom, h.1], rfl⟩
        | cons c B ih =>
          intro u v x h
          simp only [List.cons_append, stpsFrom, List.cons.injEq] at h ⊢
          rw [h.1] at *
          rcases ih c (stp u c) x h.2 with h3 | ⟨t, h3, _⟩
          · left; exact ⟨rfl, h3⟩
          · right; exact ⟨x, ⟨rfl, h3⟩, rfl⟩
      have mid : stp a b :: stpsFrom b B = stpsFrom b (B ++ [a]) := by
        have pre2 : ∀ (B : Wd) (u v : UInt8), (v :: stpsFrom u (B ++ C) = stpsFrom u (B ++ a :: C)) → v :: stpsFrom u B = stpsFrom u (B ++ [a]) := by
          intro B
          induction B with
          | nil => intro u v h; simp only [List.nil_append, stpsFrom, List.cons.injEq] at h ⊢; exact ⟨h.1, trivial⟩
          | cons c B ih =>
            intro u v h
            simp only [List.cons_append, stpsFrom, List.cons.injEq] at h ⊢
            exact ⟨h.1, ih c _ h.2⟩
        exact pre2 B b _ h
      clear pre
      have snoc : ∀ (C : Wd) (x y z : UInt8), stpsFrom x ((C ++ [y]) ++ [z]) = stpsFrom x (C ++ [y]) ++ [stp y z] := by
        intro C
        induction C with
        | nil => intro x y z; rfl
        | cons c C ih => intro x y z; simp only [List.cons_append, stpsFrom]; rw [ih]
      -- all inside are stp a b
      have all : ∀ (v : UInt8) (B : Wd) (u : UInt8), v :: stpsFrom u B = stpsFrom u (B ++ [a]) → stpsFrom u (B ++ [a]) = List.replicate (B.length + 1) v := by
        intro v B
        induction B with
        | nil => intro u h; simp only [List.nil_append, stpsFrom, List.cons.injEq] at h ⊢; simp [h.1]
        | cons c B ih =>
          intro u h
          simp only [List.cons_append, stpsFrom, List.cons.injEq] at h ⊢
          obtain ⟨h1, h2⟩ := h
          rw [← h1] at h2 ⊢
          rw [ih c h2]; rfl
      have hr := all _ B b mid
      rw [snoc, hr, ← List.replicate_succ, List.replicate_succ']
  cases A with
  | nil => exact main B C h
  | cons p A =>
    simp only [List.cons_append, stps] at h
    obtain ⟨q, hq⟩ := cut A _ _ p h
    cases B with
    | nil => rfl
    | cons b B =>
      refine main (b :: B) C ?_
      simp only [List.cons_append, stpsFrom, List.cons.injEq] at hq
      simp only [List.cons_append, stps, stpsFrom]
      exact hq.2
/-- Tenengolts: two words of one code of digits that share what is left are one -/
theorem ten_swap {A B C : Wd} {a b : UInt8} {q : Nat} (ha : 48 ≤ a.toNat ∧ a.toNat < 48 + q) (hb : 48 ≤ b.toNat ∧ b.toNat < 48 + q) (h0 : 0 < (A ++ (B ++ C)).length)
    (hd : dsum (A ++ a :: (B ++ C)) % q = dsum (A ++ (B ++ b :: C)) % q)
    (hs : wsum 0 (stps (A ++ a :: (B ++ C))) % ((A ++ (B ++ C)).length + 1) = wsum 0 (stps (A ++ (B ++ b :: C))) % ((A ++ (B ++ C)).length + 1)) : A ++ a :: (B ++ C) = A ++ (B ++ b :: C) := by
  have e : a = b := by
    have e1 : dsum (A ++ a :: (B ++ C)) = dsum A + dsum B + dsum C + (a.toNat - 48) := by rw [dsum_append]; simp only [dsum]; rw [dsum_append]; omega
    have e2 : dsum (A ++ (B ++ b :: C)) = dsum A + dsum B + dsum C + (b.toNat - 48) := by rw [dsum_append, dsum_append]; simp only [dsum]; omega
    rw [e1, e2] at hd
    have := mod_close hd (by omega) (by omega)
    exact UInt8.toNat_inj.1 (by omega)
  subst e
  obtain ⟨i, hi, e3⟩ := stps_del a A (B ++ C) h0
  obtain ⟨j, hj, e4⟩ := stps_del a (A ++ B) C (by rw [List.append_assoc]; exact h0)
  rw [List.append_assoc, List.append_assoc] at e4
  rw [List.append_assoc] at hj
  have hl1 := stps_len (A ++ a :: (B ++ C))
  have hl2 := stps_len (A ++ (B ++ a :: C))
  have hn1 : (A ++ a :: (B ++ C)).length = (A ++ (B ++ C)).length + 1 := by simp; omega
  have hn2 : (A ++ (B ++ a :: C)).length = (A ++ (B ++ C)).length + 1 := by simp; omega
  have hb1 := stps_bin (A ++ a :: (B ++ C))
  have hb2 := stps_bin (A ++ (B ++ a :: C))
  have hsame : stps (A ++ a :: (B ++ C)) = stps (A ++ (B ++ a :: C)) := by
    have hz : del (stps (A ++ a :: (B ++ C))) i = del (stps (A ++ (B ++ a :: C))) j := by rw [← e3, ← e4]
    have hdl := del_len hi
    have hdl2 := del_len hj
    have hI : ins (del (stps (A ++ a :: (B ++ C))) i) i (stps (A ++ a :: (B ++ C)))[i] = stps (A ++ a :: (B ++ C)) := ins_del hi
    have hJ : ins (del (stps (A ++ (B ++ a :: C))) j) j (stps (A ++ (B ++ a :: C)))[j] = stps (A ++ (B ++ a :: C)) := ins_del hj
    have hu := ins_uniq (z := del (stps (A ++ a :: (B ++ C))) i) (i := i) (j := j) (bin_del hb1) (get_bin hb1 hi) (get_bin hb2 hj) (by omega) (by omega) (by
      rw [hI, hz, hJ, ← hz, show (del (stps (A ++ a :: (B ++ C))) i).length + 2 = (A ++ (B ++ C)).length + 1 by omega]; exact hs)
    rw [hI, hz, hJ] at hu
    exact hu
  have h5 := same_steps hsame
  rw [← List.cons_append, h5]; simp
/-- Two longer words of one code of digits are one. -/
theorem ten_uniq {z : Wd} {i j : Nat} {a b : UInt8} {q : Nat} (ha : 48 ≤ a.toNat ∧ a.toNat < 48 + q) (hb : 48 ≤ b.toNat ∧ b.toNat < 48 + q) (h0 : 0 < z.length) (hi : i ≤ z.length) (hj : j ≤ z.length)
    (hd : dsum (ins z i a) % q = dsum (ins z j b) % q) (hs : wsum 0 (stps (ins z i a)) % (z.length + 1) = wsum 0 (stps (ins z j b)) % (z.length + 1)) : ins z i a = ins z j b := by
  have key : ∀ {i j : Nat} {a b : UInt8}, (48 ≤ a.toNat ∧ a.toNat < 48 + q) → (48 ≤ b.toNat ∧ b.toNat < 48 + q) → i ≤ j → j ≤ z.length → dsum (ins z i a) % q = dsum (ins z j b) % q →
      wsum 0 (stps (ins z i a)) % (z.length + 1) = wsum 0 (stps (ins z j b)) % (z.length + 1) → ins z i a = ins z j b := by
    intro i j a b ha hb hij hj hd hs
    have e1 : ins z i a = z.take i ++ a :: ((z.drop i).take (j - i) ++ z.drop j) := by unfold ins; rw [← parts z hij]
    have e2 : ins z j b = z.take i ++ ((z.drop i).take (j - i) ++ b :: z.drop j) := by unfold ins; rw [take_parts z hij, List.append_assoc]
    have ez : z.take i ++ ((z.drop i).take (j - i) ++ z.drop j) = z := by rw [← parts z hij, List.take_append_drop]
    have h := ten_swap (A := z.take i) (B := (z.drop i).take (j - i)) (C := z.drop j) (q := q) ha hb (by rw [ez]; exact h0) (by rw [← e1, ← e2]; exact hd) (by rw [ez, ← e1, ← e2]; exact hs)
    rw [e1, e2]; exact h
  rcases Nat.le_total i j with hij | hij
  · exact key ha hb hij hj hd hs
  · exact (key hb ha hij hi hd.symm hs.symm).symm
end Go.Proofs.Ytjcgplocifmolaa
