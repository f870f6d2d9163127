/-
  The reference's numbers: decimals.
-/
import Derived.Test.YthigeafojekclaaDoorUe
import Derived.Laws.IdiomStrings
namespace Go.Proofs.YthigeafojekclaaDoor.Num
open Go.RowKit Go.Deep

/-- the value of decimal digits, the first one first -/
def decV (l : List UInt8) : Int := l.foldl (fun a b => a * 10 + ((b.toNat : Int) - 48)) 0
def DecD (l : List UInt8) : Prop := ∀ b ∈ l, 48 ≤ b.toNat ∧ b.toNat ≤ 57
def b8 (z : Int) : UInt8 := UInt8.ofNat (48 + z.toNat)
theorem b8_nat {z : Int} (h : 0 ≤ z ∧ z ≤ 9) : ((b8 z).toNat : Int) = 48 + z := by
  unfold b8
  rw [UInt8.toNat_ofNat']
  omega
theorem decV_snoc (l : List UInt8) (b : UInt8) : decV (l ++ [b]) = decV l * 10 + ((b.toNat : Int) - 48) := by
  unfold decV
  rw [List.foldl_append]
  rfl
def four (d : Int) : List UInt8 := [b8 (d / 1000), b8 (d / 100 % 10), b8 (d / 10 % 10), b8 (d % 10)]
theorem decV_four (l : List UInt8) {d : Int} (h : 0 ≤ d ∧ d < 10000) : decV (l ++ four d) = decV l * 10000 + d := by
  have e : l ++ four d = (((l ++ [b8 (d / 1000)]) ++ [b8 (d / 100 % 10)]) ++ [b8 (d / 10 % 10)]) ++ [b8 (d % 10)] := by simp [four]
  rw [e, decV_snoc, decV_snoc, decV_snoc, decV_snoc, b8_nat (by omega), b8_nat (by omega), b8_nat (by omega), b8_nat (by omega)]
  omega
theorem decD_four {l : List UInt8} (hl : DecD l) {d : Int} (h : 0 ≤ d ∧ d < 10000) : DecD (l ++ four d) := fun b hb => by
  rcases List.mem_append.1 hb with h1 | h1
  · exact hl b h1
  · simp only [four, List.mem_cons, List.not_mem_nil, or_false] at h1
    have key : ∀ z : Int, 0 ≤ z ∧ z ≤ 9 → b = b8 z → 48 ≤ b.toNat ∧ b.toNat ≤ 57 := fun z hz e => by
      have := b8_nat hz
      rw [← e] at this
      omega
    rcases h1 with h1 | h1 | h1 | h1
    · exact key _ (by omega) h1
    · exact key _ (by omega) h1
    · exact key _ (by omega) h1
    · exact key _ (by omega) h1
def strL (l : List UInt8) : ByteArray := ⟨l.toArray⟩
theorem strL_size (l : List UInt8) : (strL l).size = l.length := by simp [strL, ByteArray.size]
theorem strL_tail (h : UInt8) (tl : List UInt8) : (strL (h :: tl)).extract 1 (strL (h :: tl)).size = strL tl := by
  apply ByteArray.ext
  rw [ByteArray.data_extract, strL_size]
  unfold strL
  simp
/-- the digits of a number above 0, without a 0 in front -/
def DecL (l : List UInt8) (x : Int) : Prop := DecD l ∧ decV l = x ∧ (l.head?.map (fun b => b.toNat) ≠ some 48) ∧ l.length ≤ 4000
def FigPost (w : World) (x : Int) (e : Ending) (w' : World) : Prop := ∃ l, e = .returned (.string (strL l)) ∧ DecL l x ∧ Kept w w'
theorem strL_append (a b : List UInt8) : strL a ++ strL b = strL (a ++ b) := by
  unfold strL
  apply ByteArray.ext
  simp [ByteArray.data_append]
theorem cv4 (w : World) (a b c d : UInt8) (z1 z2 z3 z4 : Int) (h1 : z1 = (a.toNat : Int)) (h2 : z2 = (b.toNat : Int)) (h3 : z3 = (c.toNat : Int)) (h4 : z4 = (d.toNat : Int)) : (convert 42 9 (.slice (some ⟨w.heap.size, 0, none⟩) 4 4)).run Tryd.prog (w.alloc (.cells #[.int .u8 z1, .int .u8 z2, .int .u8 z3, .int .u8 z4] 5)) = .ok (.string (strL [a, b, c, d])) (w.alloc (.cells #[.int .u8 z1, .int .u8 z2, .int .u8 z3, .int .u8 z4] 5)) :=
  run_convert_bytes_back (P := Tryd.prog) _ 42 9 5 ⟨w.heap.size, 0, none⟩ 4 [a, b, c, d] Tryd.underlying42 Tryd.underlying5 Tryd.underlying9 (fun j hj => by
    have : j = 0 ∨ j = 1 ∨ j = 2 ∨ j = 3 := by simp at hj; omega
    rcases this with rfl | rfl | rfl | rfl <;> (rw [add_at]; unfold World.cell?; dsimp only; rw [blk_alloc_new]; first | (subst h1; rfl) | (subst h2; rfl) | (subst h3; rfl) | (subst h4; rfl)))
set_option maxRecDepth 100000 in
set_option maxHeartbeats 4000000 in
theorem figures_pos (w : World) (s : Value) (n : Nat) (D : Nat → Int) (m : Bool) (hS : SlAt w s n D) (hL : LeanZ D n) (hn : n ≤ 1000) (hn0 : 0 < n) :
    Calls Tryd.prog 46 #[.agg #[.bool m, s]] w (FigPost w (valZ D n)) := by
  obtain ⟨a, cap, rfl, _, _, _, ⟨a2, b, o, cap2, eqa, ha, hc⟩⟩ := hS
  cases eqa
  obtain rfl := ha hn0
  have HC := Lib.hid hc
  have HL := Lib.hid hL
  have hbx := box_row w (.bool m) (.slice (some ⟨b, o, none⟩) n cap) 37 w.heap.size rfl
  have hk0 : Kept w (w.alloc (.cells #[.bool m, .slice (some ⟨b, o, none⟩) n cap] 37)) := (Kept.refl w).alloc _
  have s0 : ¬ (n : Int) = 0 := by omega
  have e0 : ((n : Int) == 0) = false := by simpa using s0
  clear hc hL ha
  go_enter Tryd.func46, Tryd.ntmps46
  go_wp2_with fail
  generalize w.alloc (.cells #[.bool m, .slice (some ⟨b, o, none⟩) n cap] 37) = W at *
  obtain ⟨z0, HZ0⟩ : ∃ z, Hid (z = w.heap.size) := ⟨_, rfl⟩
  rw [← HZ0.out] at hbx ⊢
  clear HZ0
  have hS0 : Hid (decV [] = hiV D n 0 ∧ DecD [] ∧ ([] : List UInt8).length = 4 * 0) := ⟨rfl, (fun b h => nomatch h), rfl⟩
  go_loopg [3, 4] n (fun g s3 s4 wr => ∃ (t : Nat) (l : List UInt8), t ≤ n ∧ g = n - t ∧ s3 = .string (strL l) ∧ s4 = .int .i64 ((n : Int) - 1 - t) ∧ Kept w wr ∧ wr.rowIs z0 37 2 (bx (.bool m) (.slice (some ⟨b, o, none⟩) n cap)) ∧ Hid (decV l = hiV D n t ∧ DecD l ∧ l.length = 4 * t))
  case atStart => exact ⟨0, [], Nat.zero_le _, rfl, rfl, by go_num, hk0, hbx, hS0.out⟩
  case round =>
    clear hk0 hbx hS0
    obtain ⟨t, l, ht, rfl, rfl, rfl, hK, hZ, hl⟩ := hrel
    by_cases hlt : t < n
    · obtain ⟨c, hcc⟩ : ∃ c, c = n - 1 - t := ⟨_, rfl⟩
      have ec : (n : Int) - 1 - (t : Int) = (c : Int) := by omega
      have t1 := hK.cellSome (HC.out c (by omega))
      have hdc := HL.out.1 c (by omega)
      obtain ⟨d, HD⟩ : ∃ d, Hid (d = D c) := ⟨_, rfl⟩
      rw [← HD.out] at t1 hdc
      have s1 : (c : Int) < (n : Int) := by omega
      have s2 : (0 : Int) ≤ (c : Int) := by omega
      have hnx : Hid (decV (l ++ four d) = hiV D n (t + 1) ∧ DecD (l ++ four d) ∧ (l ++ four d).length = 4 * (t + 1)) := by
        refine ⟨?_, decD_four hl.out.2.1 hdc, by simp [four, hl.out.2.2]; omega⟩
        rw [decV_four l hdc, hl.out.1]
        simp only [hiV]
        rw [← hcc, HD.out]
      have hec : (c : Int) - 1 = (n : Int) - 1 - ((t + 1 : Nat) : Int) := by omega
      have HEC := Lib.hid hec
      obtain ⟨k0, k1, _, _⟩ := bx_cells hZ
      rw [ec]
      obtain ⟨hd0, hd1⟩ := hdc
      have u1 : Int.tdiv d 1000 = d / 1000 := Int.tdiv_eq_ediv_of_nonneg hd0
      have u2 : Int.tdiv d 100 = d / 100 := Int.tdiv_eq_ediv_of_nonneg hd0
      have u3 : Int.tdiv d 10 = d / 10 := Int.tdiv_eq_ediv_of_nonneg hd0
      have u4 : Int.tmod (d / 100) 10 = d / 100 % 10 := Int.tmod_eq_emod_of_nonneg (by omega)
      have u5 : Int.tmod (d / 10) 10 = d / 10 % 10 := Int.tmod_eq_emod_of_nonneg (by omega)
      have u6 : Int.tmod d 10 = d % 10 := Int.tmod_eq_emod_of_nonneg hd0
      have hcv := cv4 wr (b8 (d / 1000)) (b8 (d / 100 % 10)) (b8 (d / 10 % 10)) (b8 (d % 10)) (48 + d / 1000) (48 + d / 100 % 10) (48 + d / 10 % 10) (48 + d % 10) (b8_nat (by omega)).symm (b8_nat (by omega)).symm (b8_nat (by omega)).symm (b8_nat (by omega)).symm
      have HCV := Lib.hid hcv
      have v1 : 0 ≤ d / 1000 ∧ d / 1000 ≤ 9 := by omega
      have v2 : 0 ≤ d / 100 % 10 ∧ d / 100 % 10 ≤ 9 := by omega
      have v3 : 0 ≤ d / 10 % 10 ∧ d / 10 % 10 ≤ 9 := by omega
      have v4 : 0 ≤ d % 10 ∧ d % 10 ≤ 9 := by omega
      have hlen := hl.out.2.2
      have hsz : ¬ 9223372036854775807 < (strL l).size + (strL [b8 (d / 1000), b8 (d / 100 % 10), b8 (d / 10 % 10), b8 (d % 10)]).size := by
        rw [strL_size, strL_size, hlen]; simp; omega
      have hap : strL l ++ strL [b8 (d / 1000), b8 (d / 100 % 10), b8 (d / 10 % 10), b8 (d % 10)] = strL (l ++ four d) := strL_append _ _
      have hKn : Kept w (wr.alloc (.cells #[.int .u8 (48 + d / 1000), .int .u8 (48 + d / 100 % 10), .int .u8 (48 + d / 10 % 10), .int .u8 (48 + d % 10)] 5)) := hK.alloc _
      have hZn := ((Kept.refl wr).alloc (.cells #[.int .u8 (48 + d / 1000), .int .u8 (48 + d / 100 % 10), .int .u8 (48 + d / 10 % 10), .int .u8 (48 + d % 10)] 5)).row hZ
      clear hl hec ec hcc hlen
      go_wp2_with fail
      go_roundg (n - (t + 1))
      case measure => omega
      case rel => exact ⟨t + 1, l ++ four d, by omega, rfl, by rw [← hap], by rw [← HEC.out], hKn, hZn, hnx.out⟩
    · obtain rfl : t = n := by omega
      have ec : (t : Int) - 1 - (t : Int) = -1 := by omega
      rw [ec]
      have hv : Hid (decV l = valZ D t ∧ DecD l ∧ 0 < valZ D t ∧ l.length ≤ 4000) := by
        refine ⟨by rw [hl.out.1, hiV_all], hl.out.2.1, ?_, by rw [hl.out.2.2]; omega⟩
        have h1 := valZ_bd HL.out.1
        have h2 := (lean_zero HL.out)
        have h3 : valZ D t ≠ 0 := fun h => by have := h2.1 h; omega
        omega
      clear ec hl
      go_wp2_with fail
      go_loopg [3] l.length (fun g s3 wi => ∃ l2 : List UInt8, g = l2.length ∧ s3 = .string (strL l2) ∧ Kept w wi ∧ Hid (decV l2 = valZ D t ∧ DecD l2 ∧ 0 < valZ D t ∧ l2.length ≤ 4000))
      case atStart => exact ⟨l, rfl, rfl, hK, hv.out⟩
      case round =>
        clear hK hZ hv
        obtain ⟨l2, rfl, rfl, hK, hl⟩ := hrel
        cases l2 with
        | nil => exfalso; have := hl.out; simp [decV] at this; omega
        | cons h tl =>
          have hz : 0 < (strL (h :: tl)).size := by rw [strL_size]; simp
          have hd := hl.out.2.1
          by_cases h0 : h.toNat = 48
          · have hb0 : ((strL (h :: tl))[0]'hz).toNat = 48 := h0
            have hex : (strL (h :: tl)).extract 1 (strL (h :: tl)).size = strL tl := strL_tail h tl
            have hn2 : Hid (decV tl = valZ D t ∧ DecD tl ∧ 0 < valZ D t ∧ tl.length ≤ 4000) := by
              refine ⟨?_, fun b hb => hd b (List.mem_cons_of_mem _ hb), hl.out.2.2.1, by have := hl.out.2.2.2; simp at this; omega⟩
              rw [← hl.out.1]
              show _ = (h :: tl).foldl _ 0
              simp [decV, h0]
            have hms : Hid (tl.length < (h :: tl).length) := by show _ < _; simp
            clear hl hd h0
            go_wp2_with fail
            go_roundg tl.length
            case measure => exact hms.out
            case rel => exact ⟨tl, rfl, by rw [← hex], hK, hn2.out⟩
          · have hb0 : (((((strL (h :: tl))[0]'hz).toNat : Nat) : Int) == 48) = false := by
              have e : ((strL (h :: tl))[0]'hz) = h := rfl
              rw [e]
              simp
              omega
            have hf : Hid (DecL (h :: tl) (valZ D t)) := ⟨hd, hl.out.1, by simp; exact h0, hl.out.2.2.2⟩
            clear hl hd h0
            go_wp2_with fail
            go_ret
            exact ⟨h :: tl, rfl, hf.out, hK⟩
theorem fold_ge (l : List UInt8) (hl : DecD l) (a : Int) (ha : 0 ≤ a) : a ≤ l.foldl (fun a b => a * 10 + ((b.toNat : Int) - 48)) a := by
  induction l generalizing a with
  | nil => exact Int.le_refl _
  | cons b l ih =>
    have hb := hl b (List.mem_cons_self ..)
    have := ih (fun c hc => hl c (List.mem_cons_of_mem _ hc)) (a * 10 + ((b.toNat : Int) - 48)) (by omega)
    simp only [List.foldl_cons]
    omega
theorem decV_pos {l : List UInt8} (hl : DecD l) (hne : l ≠ []) (hh : l.head?.map (fun b => b.toNat) ≠ some 48) : 1 ≤ decV l := by
  cases l with
  | nil => exact absurd rfl hne
  | cons b l =>
    have hb := hl b (List.mem_cons_self ..)
    have hb2 : b.toNat ≠ 48 := fun h => hh (by simp [h])
    have := fold_ge l (fun c hc => hl c (List.mem_cons_of_mem _ hc)) ((b.toNat : Int) - 48) (by omega)
    unfold decV
    simp only [List.foldl_cons, Int.zero_mul, Int.zero_add]
    omega
theorem head_snoc (l : List UInt8) (b : UInt8) (h : l ≠ []) : (l ++ [b]).head? = l.head? := by
  cases l with
  | nil => exact absurd rfl h
  | cons c l => rfl
theorem dec_uniq : ∀ (n : Nat) (l r : List UInt8), l.length = n → DecD l → DecD r → l.head?.map (fun b => b.toNat) ≠ some 48 → r.head?.map (fun b => b.toNat) ≠ some 48 → decV l = decV r → l = r := by
  intro n
  induction n with
  | zero =>
    intro l r hn hl hr h1 h2 he
    have e : l = [] := List.length_eq_zero_iff.1 hn
    subst e
    by_cases hre : r = []
    · exact hre.symm
    · have h3 := decV_pos hr hre h2
      have h4 : decV [] = 0 := rfl
      omega
  | succ n ih =>
    intro l r hn hl hr h1 h2 he
    have hle : l ≠ [] := fun h => by rw [h] at hn; simp at hn
    have h3 := decV_pos hl hle h1
    have hre : r ≠ [] := fun h => by rw [h] at he; have h4 : decV [] = 0 := rfl; omega
    obtain ⟨l0, b, rfl⟩ : ∃ l0 b, l = l0 ++ [b] := ⟨l.dropLast, l.getLast hle, (List.dropLast_concat_getLast hle).symm⟩
    obtain ⟨r0, c, rfl⟩ : ∃ l0 b, r = l0 ++ [b] := ⟨r.dropLast, r.getLast hre, (List.dropLast_concat_getLast hre).symm⟩
    rw [decV_snoc, decV_snoc] at he
    have hb := hl b (by simp)
    have hc := hr c (by simp)
    have hbc : b.toNat = c.toNat := by omega
    have hv : decV l0 = decV r0 := by omega
    have hl0 : DecD l0 := fun x hx => hl x (by simp [hx])
    have hr0 : DecD r0 := fun x hx => hr x (by simp [hx])
    have e1 : b = c := UInt8.toNat_inj.1 hbc
    have hh1 : l0.head?.map (fun b => b.toNat) ≠ some 48 := by
      by_cases e : l0 = []
      · subst e; simp
      · rw [← head_snoc l0 b e]; exact h1
    have hh2 : r0.head?.map (fun b => b.toNat) ≠ some 48 := by
      by_cases e : r0 = []
      · subst e; simp
      · rw [← head_snoc r0 c e]; exact h2
    have := ih l0 r0 (by simp at hn; omega) hl0 hr0 hh1 hh2 hv
    rw [this, e1]
theorem DecL.same {l r : List UInt8} {x : Int} (h : DecL l x) (g : DecL r x) : l = r :=
  dec_uniq l.length l r rfl h.1 g.1 h.2.2.1 g.2.2.1 (by rw [h.2.1, g.2.1])
/-- each number above 0 has digits -/
theorem dec_ex : ∀ (k : Nat) (x : Int), 0 < x → x < 10 ^ k → ∃ l, DecD l ∧ decV l = x ∧ l.head?.map (fun b => b.toNat) ≠ some 48 ∧ l.length ≤ k := by
  intro k
  induction k with
  | zero => intro x h1 h2; simp at h2; omega
  | succ k ih =>
    intro x h1 h2
    have hd : 0 ≤ x % 10 ∧ x % 10 ≤ 9 := by omega
    have hb := b8_nat hd
    by_cases hx : x < 10
    · refine ⟨[b8 x], ?_, ?_, ?_, by simp⟩
      · have hb2 := b8_nat (z := x) ⟨by omega, by omega⟩
        intro b hb3
        simp at hb3
        subst hb3
        omega
      · have hb2 := b8_nat (z := x) ⟨by omega, by omega⟩
        simp [decV]; omega
      · have hb2 := b8_nat (z := x) ⟨by omega, by omega⟩
        simp; omega
    · obtain ⟨l, g1, g2, g3, g4⟩ := ih (x / 10) (by omega) (by
        rw [Int.pow_succ] at h2
        omega)
      have hle : l ≠ [] := fun h => by rw [h] at g2; have h4 : decV [] = 0 := rfl; omega
      refine ⟨l ++ [b8 (x % 10)], fun b hb3 => ?_, ?_, ?_, by simp; omega⟩
      · rcases List.mem_append.1 hb3 with h | h
        · exact g1 b h
        · simp at h; subst h; omega
      · rw [decV_snoc, g2]; omega
      · rw [head_snoc l _ hle]; exact g3
end Go.Proofs.YthigeafojekclaaDoor.Num
