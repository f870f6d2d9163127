/-
  The law's meet and cut; the reference's Word.
-/
import Derived.Test.YtjcgplocifmolaaMh
import Derived.Test.YtjcgplocifmolaaQs
namespace Go.Proofs.Ytjcgplocifmolaa
open Go.RowKit Go.Deep

def cutS (m : Nat) (s : ByteArray) : ByteArray := if s.size ≤ m then s else s.extract 0 m
theorem cutS_size (m : Nat) (s : ByteArray) : (cutS m s).size ≤ m := by
  unfold cutS
  split
  · assumption
  · rw [ByteArray.size_extract]; omega
set_option maxRecDepth 100000 in
set_option maxHeartbeats 1000000 in
theorem cut_any (w : World) (s : ByteArray) (m : Nat) (hs : s.size ≤ 9223372036854775807) :
    Calls Try.prog 18 #[.string s, .int .i64 m] w fun e w' => e = .returned (.string (cutS m s)) ∧ w = w' := by
  unfold cutS
  by_cases h : s.size ≤ m
  · rw [if_pos h]
    have s1 : (s.size : Int) ≤ (m : Int) := by omega
    have s2 : min (s.size : Int) (m : Int) = (s.size : Int) := by omega
    have s3 : (0 : Int) ≤ (s.size : Int) := by omega
    have w1 : IntKind.i64.wrap (s.size : Int) = (s.size : Int) := IntWalk.i64_in _ (by omega)
    go_enter Try.func18, Try.ntmps18
    go_wp2_with fail
    go_ret
    exact ⟨rfl, rfl⟩
  · rw [if_neg h]
    have s1 : ¬ (s.size : Int) ≤ (m : Int) := by omega
    have s2 : min (s.size : Int) (m : Int) = (m : Int) := by omega
    have s3 : (m : Int) ≤ (s.size : Int) := by omega
    have s4 : m ≤ s.size := by omega
    go_enter Try.func18, Try.ntmps18
    go_wp2_with fail
    go_ret
    exact ⟨rfl, rfl⟩
set_option maxRecDepth 100000 in
set_option maxHeartbeats 1000000 in
theorem rWord_any (w : World) (l : Wd) (q most : Nat) (hl : l.length ≤ 1000) : Calls Try.prog 21 #[.string (bs l), .int .i64 q, .int .i64 most] w fun e w' => e = .returned (.int .i64 (wordC most q l)) ∧ w = w' := by
  obtain ⟨n, HN⟩ : ∃ n, Hid (n = l.length) := ⟨_, rfl⟩
  obtain ⟨s, HSS⟩ : ∃ s : ByteArray, Hid (s = bs l) := ⟨_, Lib.hid rfl⟩
  have hsz : s.size = n := by rw [HSS.out, HN.out]; exact bs_size l
  have hdef : Hid (wordC most q l = if n ≤ most then (if belB q l then 0 else 2) else 3) := by show _ = _; rw [HN.out]; rfl
  obtain ⟨R, HR⟩ : ∃ R, Hid (R = wordC most q l) := ⟨_, rfl⟩
  rw [← HN.out] at hl
  rw [← HSS.out, ← HR.out]
  rw [← HR.out] at hdef
  by_cases hm : n ≤ most
  · have hd2 : Hid (R = if belB q l then 0 else 2) := by show _ = _; rw [hdef.out, if_pos hm]
    have s0 : ¬ (most : Int) < (n : Int) := by omega
    clear hdef hm
    go_enter Try.func21, Try.ntmps21
    go_wp2_with fail
    go_loopg [7] n (fun g s7 wr => ∃ i : Nat, i ≤ n ∧ g = n - i ∧ s7 = .int .i64 i ∧ w = wr ∧ Hid (belB q (l.take i) = true))
    case atStart => exact ⟨0, Nat.zero_le _, rfl, rfl, rfl, rfl⟩
    case round =>
      obtain ⟨i, hi, rfl, rfl, rfl, HX⟩ := hrel
      by_cases hlt : i < n
      · have s2 : (i : Int) < (n : Int) := by omega
        have s3 : (0 : Int) ≤ (i : Int) := by omega
        have hiL : i < l.length := by rw [← HN.out]; exact hlt
        have his : i < s.size := by rw [hsz]; exact hlt
        have hat := chr_at his
        have hc : Hid (chr s i = (l[i].toNat : Int)) := by show _ = _; rw [HSS.out]; exact chr_bs hiL
        have hub : l[i].toNat < 256 := l[i].toNat_lt
        have hst := Lib.hid (belB_take (q := q) hiL)
        by_cases h1 : 48 ≤ l[i].toNat ∧ l[i].toNat < 48 + q
        · have hst2 : Hid (belB q (l.take (i + 1)) = true) := by show _ = _; rw [hst.out, HX.out, decide_eq_true h1]; rfl
          obtain ⟨h2, h3⟩ := h1
          have b1 : (48 : Int) ≤ chr s i := by rw [hc.out]; omega
          have b2 : chr s i - 48 < (q : Int) := by rw [hc.out]; omega
          have b3 : chr s i < 256 := by rw [hc.out]; omega
          have b4 : IntKind.u8.wrap (chr s i - 48) = chr s i - 48 := IntWalk.u8_in _ (by omega)
          have b5 : ¬ chr s i < 48 := by omega
          clear hst hub h2 h3 hc
          generalize chr s i = c at *
          go_wp2_with fail
          go_roundg (n - (i + 1))
          case measure => omega
          case rel => exact ⟨i + 1, by omega, rfl, by first | rfl | go_num, rfl, hst2.out⟩
        · have hbad : Hid (R = 2) := by show _ = _; rw [hd2.out, belB_bad hiL h1]; rfl
          by_cases h2 : l[i].toNat < 48
          · have b1 : chr s i < 48 := by rw [hc.out]; omega
            clear hst hub h1 h2 hc
            generalize chr s i = c at *
            go_wp2_with fail
            go_ret
            exact ⟨ret_int hbad.out.symm, rfl⟩
          · have b1 : ¬ chr s i < 48 := by rw [hc.out]; omega
            have b2 : (q : Int) ≤ chr s i - 48 := by rw [hc.out]; omega
            have b3 : chr s i < 256 := by rw [hc.out]; omega
            have b4 : IntKind.u8.wrap (chr s i - 48) = chr s i - 48 := IntWalk.u8_in _ (by rw [hc.out]; omega)
            clear hst hub h1 h2 hc
            generalize chr s i = c at *
            go_wp2_with fail
            go_ret
            exact ⟨ret_int hbad.out.symm, rfl⟩
      · obtain rfl : i = n := by omega
        have s2 : ¬ (i : Int) < (i : Int) := by omega
        have hok : Hid (R = 0) := by
          show _ = _
          have h1 := HX.out
          rw [HN.out, List.take_length] at h1
          rw [hd2.out, h1]; rfl
        go_wp2_with fail
        go_ret
        exact ⟨ret_int hok.out.symm, rfl⟩
  · have hd2 : Hid (R = 3) := by show _ = _; rw [hdef.out, if_neg hm]
    have s0 : (most : Int) < (n : Int) := by omega
    clear hdef hm
    go_enter Try.func21, Try.ntmps21
    go_wp2_with fail
    go_ret
    exact ⟨ret_int hd2.out.symm, rfl⟩
/-- two lists have a word in common -/
def meetB (L M : List Wd) : Bool := L.any fun x => M.any fun y => decide (x = y)
set_option maxRecDepth 100000 in
set_option maxHeartbeats 1000000 in
theorem meet_no (w : World) (va vb : Value) (L M : List Wd) (ha : WdsAt w va L) (hb : WdsAt w vb M) (hn : L.length ≤ 1000000) (hm : M.length ≤ 1000000) (hno : ∀ x ∈ L, ∀ y ∈ M, x ≠ y) :
    Calls Try.prog 28 #[va, vb] w fun e w' => e = .returned (.bool false) ∧ Quiet w w' := by
  obtain ⟨a, b, o, cap, rfl, ha, hc⟩ := ha
  obtain ⟨a2, b2, o2, cap2, rfl, ha2, hc2⟩ := hb
  have HC := Lib.hid hc
  have HC2 := Lib.hid hc2
  have HNO := Lib.hid hno
  clear hc hc2 hno
  obtain ⟨n, HN⟩ : ∃ n, Hid (n = L.length) := ⟨_, rfl⟩
  obtain ⟨m, HM⟩ : ∃ n, Hid (n = M.length) := ⟨_, rfl⟩
  rw [← HN.out] at ha hn HC ⊢
  rw [← HM.out] at ha2 hm HC2 ⊢
  go_enter Try.func28, Try.ntmps28
  go_wp2_with fail
  go_loopg [5] n (fun g s5 wr => ∃ i : Nat, i ≤ n ∧ g = n - i ∧ s5 = .int .i64 i ∧ Quiet w wr)
  case atStart => exact ⟨0, Nat.zero_le _, rfl, rfl, Quiet.refl _⟩
  case round =>
    obtain ⟨i, hi, rfl, rfl, hQ⟩ := hrel
    by_cases hlt : i < n
    · have s2 : (i : Int) < (n : Int) := by omega
      have s3 : (0 : Int) ≤ (i : Int) := by omega
      have hiL : i < L.length := by rw [← HN.out]; exact hlt
      obtain rfl := ha (by omega)
      go_wp2_with fail
      go_loopg [6] m (fun g s6 wr => ∃ j : Nat, j ≤ m ∧ g = m - j ∧ s6 = .int .i64 j ∧ Quiet w wr)
      case atStart => exact ⟨0, Nat.zero_le _, rfl, rfl, hQ⟩
      case round =>
        clear hQ
        obtain ⟨j, hj, rfl, rfl, hQ⟩ := hrel
        by_cases hlj : j < m
        · have s4 : (j : Int) < (m : Int) := by omega
          have s5 : (0 : Int) ≤ (j : Int) := by omega
          have hjM : j < M.length := by rw [← HM.out]; exact hlj
          obtain rfl := ha2 (by omega)
          have t0 := hQ.kept.cellSome (HC.out i hlt)
          have t1 := hQ.kept.cellSome (HC2.out j hlj)
          (try dsimp only at t0 t1)
          rw [getD_at hiL] at t0
          rw [getD_at hjM] at t1
          have e2 := beq_no (a := bs L[i]) (b := bs M[j]) (fun h => HNO.out _ (List.getElem_mem hiL) _ (List.getElem_mem hjM) (bs_inj h))
          generalize bs L[i] = x at *
          generalize bs M[j] = y at *
          go_wp2_with fail
          go_quiet (fail)
          go_wp2_with fail
          go_roundg (m - (j + 1))
          case measure => omega
          case rel => exact ⟨j + 1, by omega, rfl, by first | rfl | go_num, hQ.drewN _⟩
        · obtain rfl : j = m := by omega
          have s4 : ¬ (j : Int) < (j : Int) := by omega
          go_wp2_with fail
          go_roundg (n - (i + 1))
          case measure => omega
          case rel => exact ⟨i + 1, by omega, rfl, by first | rfl | go_num, hQ⟩
    · obtain rfl : i = n := by omega
      have s2 : ¬ (i : Int) < (i : Int) := by omega
      go_wp2_with fail
      go_ret
      exact ⟨rfl, hQ⟩
end Go.Proofs.Ytjcgplocifmolaa
