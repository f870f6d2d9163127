/-
  The word of a code that is found again is the word. No program is named here.
-/
import Derived.Test.YtjcgplocifmolaaMj
namespace Go.Proofs.Ytjcgplocifmolaa

theorem find_uniq {p : Wd → Bool} {L : List Wd} {x : Wd} (hx : x ∈ L) (hp : p x = true) (h : ∀ y ∈ L, p y = true → y = x) : L.find? p = some x := by
  cases e : L.find? p with
  | none => exact absurd (List.find?_eq_none.1 e x hx) (by simp [hp])
  | some y => rw [h y (List.mem_of_find?_eq_some e) (List.find?_some e)]
theorem hasL_iff {n a : Nat} {l : Wd} : hasL n a l = true ↔ l.length = n ∧ wsum 0 l % (n + 1) = a := by
  unfold hasL
  rw [Bool.and_eq_true, decide_eq_true_iff, decide_eq_true_iff]
theorem mem_lets2 {c : UInt8} : c ∈ lets 2 ↔ c = 48 ∨ c = 49 := by rw [lets_two]; simp
/-- V1: what lost a letter is restored -/
theorem restore_is {l : Wd} (hl : Bin l) {i : Nat} (hi : i < l.length) : (srt (inss (del l i) 2)).find? (hasL l.length (wsum 0 l % (l.length + 1))) = some l := by
  have hd := del_len hi
  refine find_uniq ?_ (hasL_iff.2 ⟨rfl, rfl⟩) ?_
  · rw [srt_mem, mem_inss]
    exact ⟨i, by omega, l[i], mem_lets2.2 (get_bin hl hi), (ins_del hi).symm⟩
  · intro y hy hp
    rw [srt_mem, mem_inss] at hy
    obtain ⟨j, hj, c, hc, rfl⟩ := hy
    obtain ⟨_, h2⟩ := hasL_iff.1 hp
    have hI : ins (del l i) i l[i] = l := ins_del hi
    have h3 := ins_uniq (z := del l i) (i := j) (j := i) (bin_del hl) (mem_lets2.1 hc) (get_bin hl hi) hj (by omega) (by
      rw [hI, show (del l i).length + 2 = l.length + 1 by omega]; exact h2)
    rw [h3, hI]
/-- V1: what got a letter is restored -/
theorem remove_is {l : Wd} (hl : Bin l) {k : Nat} (hk : k ≤ l.length) {c : UInt8} (hc : c = 48 ∨ c = 49) : (srt (dels (ins l k c))).find? (hasL l.length (wsum 0 l % (l.length + 1))) = some l := by
  have hil : (ins l k c).length = l.length + 1 := ins_len
  refine find_uniq ?_ (hasL_iff.2 ⟨rfl, rfl⟩) ?_
  · rw [srt_mem, mem_dels]
    exact ⟨k, by omega, (del_ins hk).symm⟩
  · intro y hy hp
    rw [srt_mem, mem_dels] at hy
    obtain ⟨j, hj, rfl⟩ := hy
    obtain ⟨_, h2⟩ := hasL_iff.1 hp
    have h3 := del_uniq (t := ins l k c) (i := j) (j := k) (bin_ins hl hc) hj (by omega) (by
      rw [del_ins hk, hil]; exact h2)
    rw [h3, del_ins hk]
end Go.Proofs.Ytjcgplocifmolaa
