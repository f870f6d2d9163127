/-
  Package mark: isBelow, check, better.
-/
import Derived.Test.YtjcgplocifmolaaMa
namespace Go.Proofs.Ytjcgplocifmolaa
open Go.RowKit Go.Deep

/-- all letters are below q -/
def belB (q : Nat) (l : Wd) : Bool := l.all fun c => decide (48 ≤ c.toNat ∧ c.toNat < 48 + q)
theorem belB_take {q : Nat} {l : Wd} {i : Nat} (h : i < l.length) : belB q (l.take (i + 1)) = (belB q (l.take i) && decide (48 ≤ l[i].toNat ∧ l[i].toNat < 48 + q)) := by
  unfold belB
  rw [List.take_succ_eq_append_getElem h, List.all_append]; simp
theorem belB_bad {q : Nat} {l : Wd} {i : Nat} (h : i < l.length) (hb : ¬ (48 ≤ l[i].toNat ∧ l[i].toNat < 48 + q)) : belB q l = false := by
  unfold belB
  rw [List.all_eq_false]
  exact ⟨l[i], List.getElem_mem h, by simpa using hb⟩
theorem belB_dig {q : Nat} {l : Wd} : belB q l = true ↔ Dig q l := by
  unfold belB Dig
  rw [List.all_eq_true]
  exact ⟨fun h c hc => by simpa using h c hc, fun h c hc => by simpa using h c hc⟩
theorem bin_dig {l : Wd} : Dig 2 l ↔ Bin l := by
  unfold Dig Bin
  refine ⟨fun h c hc => ?_, fun h c hc => ?_⟩
  · have := h c hc
    rcases (by omega : c.toNat = 48 ∨ c.toNat = 49) with e | e
    · exact .inl (UInt8.toNat_inj.1 e)
    · exact .inr (UInt8.toNat_inj.1 e)
  · rcases h c hc with e | e <;> rw [e] <;> decide
set_option maxRecDepth 100000 in
set_option maxHeartbeats 4000000 in
theorem isBelow_any (w : World) (l : Wd) (q : Nat) (hl : l.length ≤ 1000) : Calls Try.prog 52 #[.string (bs l), .int .i64 q] w fun e w' => e = .returned (.bool (belB q l)) ∧ w = w' := by
  obtain ⟨n, HN⟩ : ∃ n, Hid (n = l.length) := ⟨_, rfl⟩
  obtain ⟨s, HSS⟩ : ∃ s, Hid (s = bs l) := ⟨_, rfl⟩
  have hsz : s.size = n := by rw [HSS.out, HN.out]; exact bs_size l
  rw [← HN.out] at hl
  rw [← HSS.out]
  go_enter Try.func52, Try.ntmps52
  go_wp2_with fail
  go_loopg [9] n (fun g s9 wr => ∃ i : Nat, i ≤ n ∧ g = n - i ∧ s9 = .int .i64 i ∧ w = wr ∧ Hid (belB q (l.take i) = true))
  case atStart => exact ⟨0, Nat.zero_le _, rfl, rfl, rfl, rfl⟩
  case round =>
    obtain ⟨i, hi, rfl, rfl, rfl, HX⟩ := hrel
    by_cases hlt : i < n
    · have s2 : (i : Int) < (n : Int) := by omega
      have s3 : (0 : Int) ≤ (i : Int) := by omega
      have hiL : i < l.length := by rw [← HN.out]; exact hlt
      have hat := chr_at (s := s) (i := i) (by rw [hsz]; exact hlt)
      have hc : Hid (chr s i = (l[i].toNat : Int)) := by show _ = _; rw [HSS.out]; exact chr_bs hiL
      have hub : l[i].toNat < 256 := l[i].toNat_lt
      have hst := Lib.hid (belB_take (q := q) hiL)
      by_cases h1 : 48 ≤ l[i].toNat ∧ l[i].toNat < 48 + q
      · have hst2 : Hid (belB q (l.take (i + 1)) = true) := by show _ = _; rw [hst.out, HX.out, decide_eq_true h1]; rfl
        obtain ⟨h2, h3⟩ := h1
        have b1 : (48 : Int) ≤ chr s i := by rw [hc.out]; omega
        have b2 : chr s i < 48 + (q : Int) := by rw [hc.out]; omega
        have b3 : chr s i < 256 := by rw [hc.out]; omega
        clear hst hub h2 h3 hc
        generalize chr s i = c at *
        go_wp2_with fail
        go_roundg (n - (i + 1))
        case measure => omega
        case rel => exact ⟨i + 1, by omega, rfl, by first | rfl | go_num, rfl, hst2.out⟩
      · have hbad : Hid (belB q l = false) := belB_bad hiL h1
        by_cases h2 : l[i].toNat < 48
        · have b1 : chr s i < 48 := by rw [hc.out]; omega
          have b0 : (0 : Int) ≤ chr s i := by rw [hc.out]; omega
          clear hst hub h1 h2 hc
          generalize chr s i = c at *
          go_wp2_with fail
          go_ret
          exact ⟨ret_bool hbad.out.symm, rfl⟩
        · have b1 : 48 + (q : Int) ≤ chr s i := by rw [hc.out]; omega
          have b0 : (48 : Int) ≤ chr s i := by rw [hc.out]; omega
          have b3 : chr s i < 256 := by rw [hc.out]; omega
          clear hst hub h1 h2 hc
          generalize chr s i = c at *
          go_wp2_with fail
          go_ret
          exact ⟨ret_bool hbad.out.symm, rfl⟩
    · obtain rfl : i = n := by omega
      have s2 : ¬ (i : Int) < (i : Int) := by omega
      go_wp2_with fail
      go_ret
      exact ⟨ret_bool (by rw [← HX.out, HN.out, List.take_length]), rfl⟩
/-- what is wrong with words of at most so many letters below q: first whether one is too long -/
def checkC (most q : Nat) (L : List Wd) : Int := if L.all (fun l => decide (l.length ≤ most)) then (if L.all (belB q) then 0 else 2) else 3
theorem all_take {p : Wd → Bool} {L : List Wd} {i : Nat} (h : i < L.length) : (L.take (i + 1)).all p = ((L.take i).all p && p L[i]) := by
  rw [List.take_succ_eq_append_getElem h, List.all_append]; simp
theorem all_bad {p : Wd → Bool} {L : List Wd} {i : Nat} (h : i < L.length) (hb : p L[i] = false) : L.all p = false :=
  List.all_eq_false.2 ⟨L[i], List.getElem_mem h, by simp [hb]⟩
set_option maxRecDepth 100000 in
set_option maxHeartbeats 4000000 in
theorem check_any (w : World) (most q b n cap : Nat) (L : List Wd) (hn : L.length = n) (hn3 : n ≤ 3) (hc : ∀ i, i < n → w.cell? ⟨b, i, none⟩ = some (.string (bs (L.getD i [])))) (hs : ∀ l ∈ L, l.length ≤ 1000) :
    Calls Try.prog 48 #[.int .i64 most, .int .i64 q, .slice (some ⟨b, 0, none⟩) n cap] w fun e w' => e = .returned (.int .i64 (checkC most q L)) ∧ w = w' := by
  have HC := Lib.hid hc
  have HN := Lib.hid hn
  have HS := Lib.hid hs
  have IB := Lib.hid (fun (W : World) (l : Wd) (hl : l.length ≤ 1000) => isBelow_any W l q hl)
  clear hc hn hs
  go_enter Try.func48, Try.ntmps48
  go_wp2_with fail
  go_loopg [13] n (fun g s13 wr => ∃ i : Nat, i ≤ n ∧ g = n - i ∧ s13 = .int .i64 i ∧ w = wr ∧ Hid ((L.take i).all (fun l => decide (l.length ≤ most)) = true))
  case atStart => exact ⟨0, Nat.zero_le _, rfl, rfl, rfl, rfl⟩
  case round =>
    obtain ⟨i, hi, rfl, rfl, rfl, HX⟩ := hrel
    by_cases hlt : i < n
    · have t0 := HC.out i hlt
      have s2 : (i : Int) < (n : Int) := by omega
      have s3 : (0 : Int) ≤ (i : Int) := by omega
      have hiL : i < L.length := by rw [HN.out]; exact hlt
      rw [getD_at hiL] at t0
      have hst := Lib.hid (all_take (p := fun l => decide (l.length ≤ most)) hiL)
      obtain ⟨X, HXX⟩ : ∃ X : ByteArray, Hid (X = bs L[i]) := ⟨bs L[i], Lib.hid rfl⟩
      have hsz : X.size = L[i].length := by rw [HXX.out]; rfl
      rw [← HXX.out] at t0
      have hb := HS.out _ (List.getElem_mem hiL)
      by_cases h1 : L[i].length ≤ most
      · have hst2 : Hid ((L.take (i + 1)).all (fun l => decide (l.length ≤ most)) = true) := by show _ = _; rw [hst.out, HX.out, decide_eq_true h1]; rfl
        have b1 : ¬ (X.size : Int) > (most : Int) := by omega
        clear hst h1 hsz hb
        go_wp2_with fail
        go_roundg (n - (i + 1))
        case measure => omega
        case rel => exact ⟨i + 1, by omega, rfl, by first | rfl | go_num, rfl, hst2.out⟩
      · have hbad : Hid (checkC most q L = 3) := by
          show _ = _
          unfold checkC
          rw [all_bad hiL (by exact decide_eq_false h1)]; rfl
        have b1 : (X.size : Int) > (most : Int) := by omega
        clear hst h1 hsz hb
        go_wp2_with fail
        go_ret
        exact ⟨ret_int hbad.out.symm, rfl⟩
    · obtain rfl : i = n := by omega
      have s2 : ¬ (i : Int) < (i : Int) := by omega
      have hgo : Hid (checkC most q L = if L.all (belB q) then 0 else 2) := by
        show _ = _
        have h1 := HX.out
        rw [← HN.out, List.take_length] at h1
        unfold checkC
        rw [h1]; rfl
      clear HX
      go_wp2_with fail
      go_loopg [24] i (fun g s24 wr => ∃ j : Nat, j ≤ i ∧ g = i - j ∧ s24 = .int .i64 j ∧ w = wr ∧ Hid ((L.take j).all (belB q) = true))
      case atStart => exact ⟨0, Nat.zero_le _, rfl, rfl, rfl, rfl⟩
      case round =>
        obtain ⟨j, hj, rfl, rfl, rfl, HX⟩ := hrel
        by_cases hlt : j < i
        · have t0 := HC.out j hlt
          have s2 : (j : Int) < (i : Int) := by omega
          have s3 : (0 : Int) ≤ (j : Int) := by omega
          have hjL : j < L.length := by rw [HN.out]; exact hlt
          rw [getD_at hjL] at t0
          have hst := Lib.hid (all_take (p := belB q) hjL)
          have IB2 := Lib.hid (fun W => IB.out W L[j] (HS.out _ (List.getElem_mem hjL)))
          obtain ⟨X, HXX⟩ : ∃ X : ByteArray, Hid (X = bs L[j]) := ⟨bs L[j], Lib.hid rfl⟩
          rw [← HXX.out] at t0 IB2
          by_cases h1 : belB q L[j] = true
          · have hst2 : Hid ((L.take (j + 1)).all (belB q) = true) := by show _ = _; rw [hst.out, HX.out, h1]; rfl
            rw [h1] at IB2
            clear hst h1
            go_wp2_with (first | (go_at_call 52; refine (IB2.out _).mono ?_; rintro e w1 ⟨rfl, rfl⟩))
            go_roundg (i - (j + 1))
            case measure => omega
            case rel => exact ⟨j + 1, by omega, rfl, by first | rfl | go_num, rfl, hst2.out⟩
          · have h1 : belB q L[j] = false := by simpa using h1
            have hbad : Hid (checkC most q L = 2) := by
              show _ = _
              rw [hgo.out, all_bad hjL h1]; rfl
            rw [h1] at IB2
            clear hst h1
            go_wp2_with (first | (go_at_call 52; refine (IB2.out _).mono ?_; rintro e w1 ⟨rfl, rfl⟩))
            go_ret
            exact ⟨ret_int hbad.out.symm, rfl⟩
        · obtain rfl : j = i := by omega
          have s2 : ¬ (j : Int) < (j : Int) := by omega
          have hok : Hid (checkC most q L = 0) := by
            show _ = _
            have h1 := HX.out
            rw [← HN.out, List.take_length] at h1
            rw [hgo.out, h1]; rfl
          go_wp2_with fail
          go_ret
          exact ⟨ret_int hok.out.symm, rfl⟩
end Go.Proofs.Ytjcgplocifmolaa
