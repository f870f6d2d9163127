/-
  The program's matrices, more: subsets.
-/
import Derived.Test.YtlnpipkhofhlnaaL
namespace Go.Proofs.Ytlnpipkhofhlnaa
open Go.RowKit Go.Deep

theorem mkSets (m : Int) (n : Nat) (h : m = n) (hn : n ≤ 1000000) (w : World) :
    (Instr.makeSlice 63 (.int .i64 m) (.int .i64 m)).run Try.prog w = .ok (.slice (some ⟨w.heap.size, 0, none⟩) n n) (w.alloc (.cells (madeCells #[.slice none 0 0] n) 25)) := by
  subst h
  exact run_make_row' (P := Try.prog) 63 25 (.slice none 0 0) 24 Try.underlying63 (by kernel_rfl) rfl .i64 .i64 n (by omega) (by omega) w
theorem i64_and1 (n : Int) : bits .and .i64 n 1 = n % 2 := by
  have h1 : (BitVec.ofInt 64 1).toNat = 2 ^ 1 - 1 := by decide
  have key : (BitVec.ofInt 64 n &&& BitVec.ofInt 64 1).toNat = (n % ((2 ^ 64 : Nat) : Int)).toNat % 2 ^ 1 := by
    rw [BitVec.toNat_and, BitVec.toNat_ofInt, h1, Nat.and_two_pow_sub_one_eq_mod]
  show IntKind.i64.wrap ((BitVec.ofInt 64 n &&& BitVec.ofInt 64 1).toNat : Nat) = n % 2
  rw [key, IntKind.wrap_i64]
  omega
theorem bit_of (t j : Nat) : bits .and .i64 ((t : Int) / 2 ^ j) 1 = ((t / 2 ^ j % 2 : Nat) : Int) := by
  rw [i64_and1]
  simp
def bitL (s : Nat) (i : Nat) : List Nat := (List.range i).filter fun j => s / 2 ^ j % 2 == 1
theorem bitL_len (s i : Nat) : (bitL s i).length ≤ i := by
  unfold bitL
  have := List.length_filter_le (fun j => s / 2 ^ j % 2 == 1) (List.range i)
  simpa using this
theorem bitL_succ (s i : Nat) : bitL s (i + 1) = bitL s i ++ (if s / 2 ^ i % 2 == 1 then [i] else []) := by
  unfold bitL
  rw [List.range_succ, List.filter_append]
  congr 1
  by_cases e : s / 2 ^ i % 2 == 1 <;> simp [e]
/-- all rising lists of numbers below n, as slices -/
def SetsPost (w : World) (n : Nat) (e : Ending) (w' : World) : Prop := ∃ (b : Nat) (vs : Nat → Value), e = .returned (.slice (some ⟨b, 0, none⟩) (2 ^ n) (2 ^ n)) ∧ Kept w w' ∧ w.heap.size ≤ b ∧ w'.rowIs b 25 (2 ^ n) vs ∧ ∀ s, s < 2 ^ n → w'.ownsRow w.heap.size 3 1 (vs s) (bitL s n).length (nats (bitL s n))
theorem own_keptR {S : Nat → Prop} {w w' : World} {base e size : Nat} {v : Value} {n : Nat} {xs : List Value} (h : w.ownsRow base e size v n xs) (k : KeptX S w w') (hS : ∀ b, base ≤ b → b < w.heap.size → ¬ S b) : w'.ownsRow base e size v n xs := by
  obtain ⟨h1, h⟩ := h
  refine ⟨h1, ?_⟩
  rcases h with h | ⟨g, cap, cur, e1, e2, e3, rest⟩
  · exact .inl h
  · have hlt : g < w.heap.size := (Array.getElem?_eq_some_iff.1 e3).1
    exact .inr ⟨g, cap, cur, e1, e2, (k.block g hlt (hS g e2 hlt)).trans e3, rest⟩
set_option maxRecDepth 100000 in
set_option maxHeartbeats 2000000 in
theorem subsets_any (w : World) (n : Nat) (hn : n ≤ 7) : Calls Try.prog 75 #[.int .i64 n] w (SetsPost w n) := by
  have h2 : 2 ^ n ≤ 128 := Nat.pow_le_pow_right (n := 2) (by omega) hn
  have h3 : wrap64 ((2 : Int) ^ n) = ((2 ^ n : Nat) : Int) := by
    have h : n = 0 ∨ n = 1 ∨ n = 2 ∨ n = 3 ∨ n = 4 ∨ n = 5 ∨ n = 6 ∨ n = 7 := by omega
    rcases h with rfl | rfl | rfl | rfl | rfl | rfl | rfl | rfl <;> (rw [IntWalk.wrap64_in _ (by omega)]; rfl)
  obtain ⟨S, HS⟩ : ∃ S : Nat, Hid (S = 2 ^ n) := ⟨2 ^ n, rfl⟩
  rw [← HS.out] at h2 h3
  have hmk := fun W => mkSets (wrap64 ((2 : Int) ^ n)) S h3 (by omega) W
  obtain ⟨i0, hi, hz0, hz1, hz2⟩ := info_parts Try.info3
  clear h3
  unfold SetsPost
  rw [← HS.out]
  go_enter Try.func75, Try.ntmps75
  go_wp2_with fail
  have ht0 := World.rowIs_made w (.slice none 0 0) S 25
  have hk0 : Kept w (w.alloc (.cells (madeCells #[.slice none 0 0] S) 25)) := (Kept.refl w).alloc _
  generalize w.alloc (.cells (madeCells #[.slice none 0 0] S) 25) = W0 at *
  clear hmk
  go_loopg [4, 11] S (fun g s4 i wr => ∃ (t : Nat) (vs : Nat → Value), t ≤ S ∧ g = S - t ∧ i = .int .i64 t ∧ Kept w wr ∧ wr.rowIs w.heap.size 25 S (fun i => if i < t then vs i else .slice none 0 0) ∧ ∀ s, s < t → wr.ownsRow (w.heap.size + 1) 3 1 (vs s) (bitL s n).length (nats (bitL s n)))
  case atStart => exact ⟨0, fun _ => undef, Nat.zero_le _, rfl, rfl, hk0, ht0.congr (fun i _ => by simp), fun i hi => absurd hi (by omega)⟩
  case round =>
    obtain ⟨t, vs, htS, rfl, rfl, hK, hT, hV⟩ := hrel
    clear hk0 ht0
    by_cases hlt : t < S
    · have hwt : w.heap.size < wr.heap.size := hT.lt
      have hn0 : (t : Int) < (S : Int) := by omega
      obtain ⟨G, HG⟩ : ∃ G, Hid (G = wr.heap.size) := ⟨_, rfl⟩
      rw [← HG.out] at hwt
      obtain ⟨Wo, rfl⟩ : ∃ Wo : World, Wo = wr := ⟨_, rfl⟩
      go_wp2_with fail
      go_loopg [5, 15] n (fun q s5 i wi => ∃ (j : Nat) (v : Value), j ≤ n ∧ q = n - j ∧ i = .int .i64 j ∧ KeptX (fun k => k = w.heap.size ∨ G ≤ k) Wo wi ∧ wi.rowIs w.heap.size 25 S (fun i => if i < t then vs i else if i = t then v else .slice none 0 0) ∧ wi.ownsRow G 3 1 v (bitL t j).length (nats (bitL t j)))
      case atStart => exact ⟨0, .slice none 0 0, Nat.zero_le _, rfl, rfl, KeptX.refl _ _, hT.congr (fun i _ => by by_cases e : i < t <;> simp [e]), World.ownsRow_nil _ _ _ _⟩
      case round =>
        obtain ⟨j, v, hjn, rfl, rfl, hX, hTi, hO⟩ := hrel
        have hGs : G ≤ wr.heap.size := by rw [HG.out]; exact KeptX.size hX
        by_cases hlt2 : j < n
        · have hs := bitL_succ t j
          have hl8 := bitL_len t j
          have hbit := bit_of t j
          obtain ⟨tb, HTB⟩ : ∃ tb, Hid (tb = t / 2 ^ j % 2) := ⟨_, rfl⟩
          rw [← HTB.out] at hbit hs
          have hs2 := Lib.hid hs
          clear hs
          by_cases e1 : tb = 1
          · subst e1
            obtain ⟨va, vcap, rfl⟩ := own_shape hO
            have t1 := hTi.cell hlt
            rw [if_neg (by omega), if_pos rfl] at t1
            have t2 := hTi.frozen t
            have hj7 : j < 7 := by omega
            go_wp2_with (first | (at_builtin; refine wpList_append_own _ rfl _ _ 25 rfl G 3 i0 (.int .i64 0) 1 8 Try.underlying25 hi hz0 hz1 hz2 rfl (by decide) _ _ _ rfl (hO.alloc _) ⟨wr.heap.size, 0, none⟩ 1 1 [.int .i64 j] rfl rfl ?c1 ?c2 ?c3 ?c4 ?c5 ?_))
            case c1 => exact cell_one_new _ _ _
            case c2 => simp [Value.oneCell']
            case c3 => unfold maxLen; omega
            case c4 => omega
            case c5 => simp; omega
            intro ov' w2 hO3 hgr _
            have hX3 := grew_X hgr (hO.alloc _)
            have hT3 := hX3.row (hTi.alloc (.cells #[.int .i64 (j : Int)] 3)) (by omega)
            have u1 := hT3.cell hlt
            rw [if_neg (by omega), if_pos rfl] at u1
            have u2 := hT3.frozen t
            have hO4 : w2.ownsRow G 3 1 ov' (bitL t (j + 1)).length (nats (bitL t (j + 1))) := by
              have e : bitL t (j + 1) = bitL t j ++ [j] := by rw [hs2.out]; simp
              rw [e, show nats (bitL t j ++ [j]) = nats (bitL t j) ++ [.int .i64 (j : Int)] by simp [nats], show (bitL t j ++ [j]).length = (bitL t j).length + 1 by simp]; exact hO3
            have hX4 : KeptX (fun k => k = w.heap.size ∨ G ≤ k) Wo w2 := (hX.alloc _).trans (hX3.weaken (fun i hi => Or.inr hi))
            obtain ⟨va2, vcap2, rfl⟩ := own_shape hO4
            clear hO3 hgr hX3 t1 t2 hTi hO
            go_wp2_with fail
            go_roundg (n - (j + 1))
            case measure => omega
            case rel =>
              refine ⟨j + 1, .slice va2 (bitL t (j + 1)).length vcap2, by omega, rfl, by go_num, hX4.setCell (p := ⟨w.heap.size, t, none⟩) (Or.inl (Or.inl rfl)) _, (hT3.set t _).congr (fun i hi => ?_), ?_⟩
              · by_cases e : i = t
                · subst e; simp
                · simp only [if_neg e]
              · exact ownsRow_setCell_below hO4 (a := ⟨w.heap.size, t, none⟩) hwt _
          · have e2 : tb = 0 := by have := Nat.mod_lt (t / 2 ^ j) (show 0 < 2 by omega); rw [← HTB.out] at this; omega
            subst e2
            go_wp2_with fail
            go_roundg (n - (j + 1))
            case measure => omega
            case rel =>
              have e : bitL t (j + 1) = bitL t j := by rw [hs2.out]; simp
              exact ⟨j + 1, v, by omega, rfl, by go_num, hX, hTi, by rw [e]; exact hO⟩
        · obtain rfl : j = n := by omega
          go_wp2_with fail
          go_roundg (S - (t + 1))
          case measure => omega
          case rel =>
            refine ⟨t + 1, fun i => if i = t then v else vs i, by omega, rfl, by go_num, Kept.step hK hX (fun i hi => by have := Kept.size hK; have := HG.out; omega), hTi.congr (fun i _ => ?_), fun s' hs' => ?_⟩
            · by_cases e : i = t
              · subst e; simp
              · simp only [if_neg e]
                by_cases h : i < t
                · rw [if_pos h, if_pos (by omega)]
                · rw [if_neg h, if_neg (by omega)]
            · by_cases e : s' = t
              · subst e; simp only [if_true]; exact own_base hO (by omega)
              · simp only [if_neg e]
                exact own_keptR (hV s' (by omega)) hX (fun b hb1 hb2 => by have := HG.out; omega)
    · obtain rfl : t = S := by omega
      go_wp2_with fail
      go_ret
      exact ⟨w.heap.size, vs, rfl, hK, Nat.le_refl _, hT.congr (fun i hi => by rw [if_pos hi]), fun s hs => own_base (hV s hs) (by omega)⟩
end Go.Proofs.Ytlnpipkhofhlnaa
