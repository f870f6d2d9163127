/-
  Package forge: one element struck out of a list, or out of the messages (the library's slices.Delete).
-/
import Derived.Test.YtjjeoloifggdpaaVd
import Derived.Test.YtjjeoloifggdpaaSd
import Derived.Test.YtjjeoloifggdpaaSe
import Derived.Shelf.SlicesE.Delete
namespace Go.Proofs.Ytjjeoloifggdpaa
open Go.RowKit Go.Deep Go.Sort

def DelPost (w : World) (base t : Nat) (v : Value) (n : Nat) (l : List Value) (e : Ending) (w' : World) : Prop :=
  ∃ v', e = .returned v' ∧ v'.ownBlock = v.ownBlock ∧ w'.ownsRow base t 1 v' n l ∧ KeptX (fun b => v.ownBlock = some b) w w'
theorem put_kept {α : Type} [Inhabited α] (enc : α → Value) (w : World) (q g : Nat) (d : Array α) : KeptX (fun b => some g = some b) w (putRow enc (Sort.ahead w q) g 0 d) := by
  refine ⟨rfl, rfl, rfl, by simp [putRow, mapBlock, Sort.ahead], fun k hk hs => ?_⟩
  have : g ≠ k := fun e => hs (by rw [e])
  simp [putRow, mapBlock, Sort.ahead, Array.getElem?_modify, this]
theorem del_end {α : Type} [Inhabited α] {enc : α → Value} {w : World} {base t g cap q i n : Nat} {zs : List α} {zr : α} (h : w.ownsRow base t 1 (.slice (some ⟨g, 0, none⟩) n cap) n (zs.map enc)) (hn : zs.length = n) (hi : i < n) :
    DelPost w base t (.slice (some ⟨g, 0, none⟩) n cap) (n - 1) ((zs.eraseIdx i).map enc) (.returned (.slice (some ⟨g, 0, none⟩) (n - (i + 1 - i)) cap)) (putRow enc (Sort.ahead w q) g 0 (zs.toArray.toList.take i ++ zs.toArray.toList.drop (i + 1) ++ List.replicate (i + 1 - i) zr).toArray) := by
  subst hn
  have e1 : i + 1 - i = 1 := by omega
  rw [e1]
  have hl : (zs.take i ++ zs.drop (i + 1) ++ List.replicate 1 zr).length = zs.length := by simp; omega
  have hc := Lib.ownsRow_putRow (q := q) (k := zs.length - 1) (ys := zs.take i ++ zs.drop (i + 1) ++ List.replicate 1 zr) h hl (by omega)
  have e2 : (zs.take i ++ zs.drop (i + 1) ++ List.replicate 1 zr).take (zs.length - 1) = zs.eraseIdx i := by
    rw [List.eraseIdx_eq_take_drop_succ, List.take_append_of_le_length (by simp; omega), List.take_of_length_le (by simp; omega)]
  rw [e2] at hc
  exact ⟨_, rfl, rfl, hc, put_kept enc w q g _⟩
theorem ne_nil_of_pos {w : World} {base t n : Nat} {v : Value} {xs : List Value} (h : w.ownsRow base t 1 v n xs) (hn : 0 < n) : v ≠ .slice none 0 0 := by
  rintro rfl
  rcases h.2 with ⟨_, h0⟩ | ⟨g, cap, cur, h0, _⟩
  · omega
  · cases h0
theorem del_int (w : World) (base : Nat) (v : Value) (l : List Nat) (i : Nat) (h : w.ownsRow base 3 1 v l.length (natsV l)) (hi : i < l.length) :
    Calls Try.prog 72 #[v, .int .i64 (i : Int), .int .i64 ((i + 1 : Nat) : Int)] w (DelPost w base 3 v (l.length - 1) (natsV (l.eraseIdx i))) := by
  obtain ⟨i0, hi0, hz0, hz1, hz2⟩ := info_parts Try.info3
  obtain ⟨g, cap, rfl, hbg, hgl, hncap, hcm, hlen, hH⟩ := Lib.holds_of_ownsRow (enc := natV) (zs := l) h (ne_nil_of_pos h (by omega))
  have hc := AnyE.slices_Delete Try.laysDelI natV (fun _ => rfl) 0 (fun w => Try.zeroValue3 w) i0 hi0 hz1 g 0 cap i (i + 1) l.toArray w hH (by simpa using hncap) (by unfold maxLen at hcm; omega) (by omega) (by simp; omega)
  refine Calls.mono (show Calls Try.prog 72 _ _ _ from hc) ?_
  rintro e w' ⟨rfl, q, rfl⟩
  exact del_end h rfl hi
def optV : Option Msg → Value
  | none => .nilIface
  | some m => msgV m
theorem optV_map (l : List Msg) : (l.map some).map optV = msgsV l := by simp [msgsV, optV, Function.comp_def]
theorem del_msg (w : World) (base : Nat) (v : Value) (l : List Msg) (i : Nat) (h : w.ownsRow base 80 1 v l.length (msgsV l)) (hi : i < l.length) :
    Calls Try.prog 55 #[v, .int .i64 (i : Int), .int .i64 ((i + 1 : Nat) : Int)] w (DelPost w base 80 v (l.length - 1) (msgsV (l.eraseIdx i))) := by
  obtain ⟨i0, hi0, hz0, hz1, hz2⟩ := info_parts Try.infoMsg
  rw [← optV_map] at h
  obtain ⟨g, cap, rfl, hbg, hgl, hncap, hcm, hlen, hH⟩ := Lib.holds_of_ownsRow (enc := optV) (zs := l.map some) h (ne_nil_of_pos h (by omega))
  have hc := AnyE.slices_Delete Try.laysDelM optV (fun o => by cases o <;> rfl) none (fun w => Try.zeroValue80 w) i0 hi0 hz1 g 0 cap i (i + 1) (l.map some).toArray w hH (by simpa using hncap) (by unfold maxLen at hcm; omega) (by omega) (by simp; omega)
  have e0 : (l.map some).toArray.size = l.length := by simp
  rw [e0] at hc
  refine Calls.mono (show Calls Try.prog 55 _ _ _ from hc) ?_
  rintro e w' ⟨rfl, q, rfl⟩
  have hd := del_end (q := q) (zr := none) h (i := i) (List.length_map _) hi
  rw [← optV_map, show (l.eraseIdx i).map some = (l.map some).eraseIdx i by rw [List.eraseIdx_eq_take_drop_succ, List.eraseIdx_eq_take_drop_succ, List.map_append, List.map_take, List.map_drop]]
  exact hd
end Go.Proofs.Ytjjeoloifggdpaa
