/-
  Words as strings in memory; package mark: isWithin, single, joined, sumOf.
-/
import Derived.Test.YtjcgplocifmolaaChecked
import Derived.Test.YtjcgplocifmolaaRep
import Derived.Test.YtjcgplocifmolaaWc
import Derived.Test.YtjcgplocifmolaaWt
import Derived.Lib.Strings
import Derived.Lib.Hide
import Derived.Outline
import Derived.Laws.IdiomStrings
import Derived.Deep.QuietTactic
import Derived.BigQuiet
namespace Go.Proofs.Ytjcgplocifmolaa
open Go.RowKit Go.Deep

/-- the string of a word -/
def bs (l : Wd) : ByteArray := ⟨l.toArray⟩
/-- the word of a string -/
def wd (s : ByteArray) : Wd := s.data.toList
theorem bs_wd (s : ByteArray) : bs (wd s) = s := by obtain ⟨⟨l⟩⟩ := s; rfl
theorem wd_bs (l : Wd) : wd (bs l) = l := rfl
theorem wd_len (s : ByteArray) : (wd s).length = s.size := rfl
theorem bs_size (l : Wd) : (bs l).size = l.length := rfl
theorem bs_append (a b : Wd) : bs a ++ bs b = bs (a ++ b) := by
  have h : (bs a ++ bs b).data = (bs (a ++ b)).data := by simp [bs]
  exact ByteArray.ext h
theorem bs_extract (l : Wd) (i j : Nat) : (bs l).extract i j = bs ((l.drop i).take (j - i)) := by
  have h : ((bs l).extract i j).data.toList = (l.drop i).take (j - i) := Lib.extract_data (bs l) i j
  rw [← bs_wd ((bs l).extract i j)]
  unfold wd
  rw [h]
theorem bs_inj {a b : Wd} (h : bs a = bs b) : a = b := by
  have := congrArg wd h
  exact this
theorem bs_nil : bs [] = ⟨#[]⟩ := rfl
/-- the letter i of a string -/
def chr (s : ByteArray) (i : Nat) : Int := if h : i < s.size then ((s[i]'h).toNat : Int) else 0
theorem chr_at {s : ByteArray} {i : Nat} (h : i < s.size) : ((s[i]'h).toNat : Int) = chr s i := by unfold chr; rw [dif_pos h]
theorem chr_list (s : ByteArray) (i : Nat) (h : i < s.size) : chr s i = (((wd s).getD i 0).toNat : Int) := by
  have h2 : i < s.data.toList.length := by simpa using h
  unfold chr wd
  rw [dif_pos h, List.getD_eq_getElem?_getD, List.getElem?_eq_getElem h2]
  rfl
theorem chr_bs {l : Wd} {i : Nat} (h : i < l.length) : chr (bs l) i = (l[i].toNat : Int) := by
  rw [chr_list _ _ h, wd_bs, List.getD_eq_getElem?_getD, List.getElem?_eq_getElem h]; rfl
theorem u8_eq {c : UInt8} {n : Nat} (hn : n < 256) : ((c.toNat : Int) = (n : Int)) ↔ c = UInt8.ofNat n := by
  constructor
  · intro h
    apply UInt8.toNat_inj.1
    rw [UInt8.toNat_ofNat_of_lt' (by simpa using hn)]; omega
  · rintro rfl
    rw [UInt8.toNat_ofNat_of_lt' (by simpa using hn)]
/-- words in memory -/
abbrev WdsAt (w : World) (v : Value) (L : List Wd) : Prop := CellsAt w v L.length (fun i => .string (bs (L.getD i [])))
def wds (L : List Wd) : List Value := L.map fun l => .string (bs l)
theorem wds_len (L : List Wd) : (wds L).length = L.length := by simp [wds]
theorem wds_snoc (L : List Wd) (l : Wd) : wds (L ++ [l]) = wds L ++ [.string (bs l)] := by simp [wds]
theorem wds_own {w : World} {base e : Nat} {v : Value} {n : Nat} {L : List Wd} (h : w.ownsRow base e 1 v n (wds L)) : n = L.length ∧ WdsAt w v L := by
  have hl : n = L.length := by have := h.1; rw [wds_len] at this; omega
  subst hl
  refine ⟨rfl, (CellsAt.of_own h).congr fun i hi => ?_⟩
  simp [wds, List.getD_eq_getElem?_getD, List.getElem?_eq_getElem hi]
theorem getD_at {L : List Wd} {i : Nat} (h : i < L.length) : L.getD i [] = L[i] := by rw [List.getD_eq_getElem?_getD, List.getElem?_eq_getElem h]; rfl

theorem isWithin_any (w : World) (x a b : Int) : Calls Try.prog 62 #[.int .i64 x, .int .i64 a, .int .i64 b] w fun e w' => e = .returned (.bool (decide (a ≤ x ∧ x ≤ b))) ∧ w = w' := by
  by_cases h1 : a ≤ x
  · go_enter Try.func62, Try.ntmps62
    go_wp2_with fail
    go_ret
    exact ⟨ret_bool (by by_cases e : x ≤ b <;> simp [h1, e]), rfl⟩
  · go_enter Try.func62, Try.ntmps62
    go_wp2_with fail
    go_ret
    exact ⟨ret_bool (by simp; omega), rfl⟩
theorem single_any (w : World) (c : Nat) (hc : c < 4) : Calls Try.prog 76 #[.int .i64 c] w fun e w' => e = .returned (.string (bs [UInt8.ofNat (48 + c)])) ∧ w = w' := by
  have h4 : c = 0 ∨ c = 1 ∨ c = 2 ∨ c = 3 := by omega
  rcases h4 with rfl | rfl | rfl | rfl
  all_goals
    go_enter Try.func76, Try.ntmps76
    go_wp2_with fail
    go_ret
    exact ⟨rfl, rfl⟩
set_option maxRecDepth 100000 in
set_option maxHeartbeats 4000000 in
theorem joined_any (w : World) (b n cap : Nat) (L : List Wd) (hn : L.length = n) (hn3 : n ≤ 3) (hc : ∀ i, i < n → w.cell? ⟨b, i, none⟩ = some (.string (bs (L.getD i [])))) (hs : L.flatten.length ≤ 1000000) :
    Calls Try.prog 65 #[.slice (some ⟨b, 0, none⟩) n cap] w fun e w' => e = .returned (.string (bs L.flatten)) ∧ w = w' := by
  have HC := Lib.hid hc
  have HN := Lib.hid hn
  clear hc hn
  have h0 : Hid ((⟨#[]⟩ : ByteArray) = bs (L.take 0).flatten) := rfl
  go_enter Try.func65, Try.ntmps65
  go_wp2_with fail
  rw [h0.out]
  go_loopg [3, 8] n (fun g s3 s8 wr => ∃ i : Nat, i ≤ n ∧ g = n - i ∧ s8 = .int .i64 i ∧ s3 = .string (bs (L.take i).flatten) ∧ w = wr)
  case atStart => exact ⟨0, Nat.zero_le _, rfl, rfl, rfl, rfl⟩
  case round =>
    obtain ⟨i, hi, rfl, rfl, rfl, rfl⟩ := hrel
    by_cases hlt : i < n
    · have t0 := HC.out i hlt
      have s2 : (i : Int) < (n : Int) := by omega
      have s3 : (0 : Int) ≤ (i : Int) := by omega
      have hiL : i < L.length := by rw [HN.out]; exact hlt
      rw [getD_at hiL] at t0
      have hnx : Hid (bs (L.take (i + 1)).flatten = bs (L.take i).flatten ++ bs L[i]) := by
        show _ = _
        rw [bs_append, List.take_succ_eq_append_getElem hiL, List.flatten_append]; simp
      have hb1 : (bs (L.take i).flatten).size + (bs L[i]).size ≤ 1000000 := by
        rw [bs_size, bs_size]
        have h1 : (L.take (i + 1)).flatten.length ≤ L.flatten.length := by
          conv => rhs; rw [← List.take_append_drop (i + 1) L, List.flatten_append, List.length_append]
          omega
        rw [List.take_succ_eq_append_getElem hiL, List.flatten_append, List.length_append] at h1
        simp only [List.flatten_cons, List.flatten_nil, List.append_nil] at h1
        omega
      obtain ⟨R', HR'⟩ : ∃ R', R' = bs (L.take (i + 1)).flatten := ⟨_, rfl⟩
      rw [← HR'] at hnx
      generalize bs (L.take i).flatten = R at *
      generalize bs L[i] = X at *
      have s5 : ¬ 9223372036854775807 < R.size + X.size := by omega
      go_wp2_with fail
      go_roundg (n - (i + 1))
      case measure => omega
      case rel => exact ⟨i + 1, by omega, rfl, by first | rfl | go_num, by rw [← HR', hnx.out], rfl⟩
    · obtain rfl : i = n := by omega
      have s2 : ¬ (i : Int) < (i : Int) := by omega
      have hfin : Hid (bs (L.take i).flatten = bs L.flatten) := by show _ = _; rw [← HN.out, List.take_length]
      generalize bs (L.take i).flatten = R at *
      go_wp2_with fail
      go_ret
      exact ⟨by rw [hfin.out]; rfl, rfl⟩
theorem wsum_take {l : Wd} {i : Nat} (h : i < l.length) : wsum 0 (l.take (i + 1)) = wsum 0 (l.take i) + if l[i] = 49 then i + 1 else 0 := by
  rw [List.take_succ_eq_append_getElem h, wsum_append]
  have : (l.take i).length = i := by simp; omega
  simp [wsum, this]
theorem wsum_bound {l : Wd} {i m : Nat} (hi : i ≤ m) (hl : l.length ≤ m) : wsum 0 (l.take i) ≤ m * m := by
  have h := wsum_le (l.take i) 0
  have h2 : (l.take i).length ≤ m := by simp; omega
  exact Nat.le_trans h (Nat.mul_le_mul (by omega) h2)
set_option maxRecDepth 100000 in
set_option maxHeartbeats 4000000 in
theorem sumOf_any (w : World) (l : Wd) (hl : l.length ≤ 1000) : Calls Try.prog 61 #[.string (bs l)] w fun e w' => e = .returned (.int .i64 (wsum 0 l : Nat)) ∧ w = w' := by
  obtain ⟨n, HN⟩ : ∃ n, Hid (n = l.length) := ⟨_, rfl⟩
  obtain ⟨s, HSS⟩ : ∃ s, Hid (s = bs l) := ⟨_, rfl⟩
  have hsz : s.size = n := by rw [HSS.out, HN.out]; exact bs_size l
  rw [← HN.out] at hl
  rw [← HSS.out]
  go_enter Try.func61, Try.ntmps61
  go_wp2_with fail
  go_loopg [3, 7] n (fun g s3 s7 wr => ∃ i x : Nat, i ≤ n ∧ g = n - i ∧ s7 = .int .i64 i ∧ s3 = .int .i64 x ∧ w = wr ∧ x ≤ 1000000 ∧ Hid (x = wsum 0 (l.take i)))
  case atStart => exact ⟨0, 0, Nat.zero_le _, rfl, rfl, rfl, rfl, by omega, rfl⟩
  case round =>
    obtain ⟨i, x, hi, rfl, rfl, rfl, rfl, hx, HX⟩ := hrel
    by_cases hlt : i < n
    · have s2 : (i : Int) < (n : Int) := by omega
      have s3 : (0 : Int) ≤ (i : Int) := by omega
      have hiL : i < l.length := by rw [← HN.out]; exact hlt
      have hat := chr_at (s := s) (i := i) (by rw [hsz]; exact hlt)
      have hc : chr s i = (l[i].toNat : Int) := by rw [HSS.out]; exact chr_bs hiL
      have hst := wsum_take hiL
      have hbd : wsum 0 (l.take (i + 1)) ≤ 1000000 := wsum_bound (m := 1000) (by omega) (by rw [← HN.out]; exact hl)
      rw [← HX.out] at hst
      by_cases h1 : l[i] = 49
      · have e1 : (chr s i == 49) = true := by rw [hc, h1]; rfl
        rw [if_pos h1] at hst
        have HS := Lib.hid hst
        have hb2 : x + (i + 1) ≤ 1000000 := by omega
        generalize chr s i = c at *
        clear hc h1 hst hbd
        go_wp2_with fail
        go_roundg (n - (i + 1))
        case measure => omega
        case rel => exact ⟨i + 1, x + (i + 1), by omega, rfl, by first | rfl | go_num, by first | rfl | go_num, rfl, hb2, HS.out.symm⟩
      · have e1 : (chr s i == 49) = false := by
          rw [hc]; simp only [beq_eq_false_iff_ne]; intro h; exact h1 ((u8_eq (n := 49) (by omega)).1 h)
        rw [if_neg h1] at hst
        have HS := Lib.hid hst
        generalize chr s i = c at *
        clear hc h1 hst hbd
        go_wp2_with fail
        go_roundg (n - (i + 1))
        case measure => omega
        case rel => exact ⟨i + 1, x, by omega, rfl, by first | rfl | go_num, by first | rfl | go_num, rfl, hx, HS.out.symm⟩
    · obtain rfl : i = n := by omega
      have s2 : ¬ (i : Int) < (i : Int) := by omega
      go_wp2_with fail
      go_ret
      exact ⟨by rw [HX.out, HN.out, List.take_length]; rfl, rfl⟩
end Go.Proofs.Ytjcgplocifmolaa
