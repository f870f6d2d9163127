/-
  The reference of mark: Shorter, Longer.
-/
import Derived.Test.YtgphaggkgcnidaaRa
import Derived.Test.YtgphaggkgcnidaaMe
namespace Go.Proofs.Ytgphaggkgcnidaa
open Go.RowKit Go.Deep Go.Sort

theorem puts_len_le (L : List Wd) : (puts L).length ≤ L.length := by
  rw [puts_srt]
  have h := Lib.compact_length_le (L.mergeSort fun x y => decide (x ≤ y))
  have h2 : (L.mergeSort fun x y => decide (x ≤ y)).length = L.length := List.length_mergeSort L
  unfold srt
  omega
set_option maxRecDepth 100000 in
set_option maxHeartbeats 1000000 in
theorem rShorter_any (w : World) (l : Wd) (hl : l.length ≤ 1000) :
    Calls Try.prog 26 #[.string (bs l)] w (SrtPost w (dels l)) := by
  obtain ⟨n, HN⟩ : ∃ n, Hid (n = l.length) := ⟨_, rfl⟩
  obtain ⟨s, HSS⟩ : ∃ s : ByteArray, Hid (s = bs l) := ⟨bs l, Lib.hid rfl⟩
  have hsz : s.size = n := by rw [HSS.out, HN.out]; exact bs_size l
  have hO0 := own_zero w w.heap.size 9 (Nat.le_refl _)
  rw [← HN.out] at hl
  rw [← HSS.out]
  go_enter Try.func26, Try.ntmps26
  go_wp2_with fail
  go_loopg [3, 4] n (fun g s2 s4 wr => ∃ i gb m cap : Nat, i ≤ n ∧ g = n - i ∧ s4 = .int .i64 i ∧ s2 = .slice (some ⟨gb, 0, none⟩) m cap ∧ Kept w wr ∧ Hid (m = (puts ((dels l).take i)).length ∧ wr.ownsRow w.heap.size 9 1 (.slice (some ⟨gb, 0, none⟩) m cap) m (wds (puts ((dels l).take i)))))
  case atStart => exact ⟨0, _, _, _, Nat.zero_le _, rfl, rfl, rfl, (Kept.refl _).alloc _, Lib.hid ⟨rfl, hO0⟩⟩
  case round =>
    clear hO0
    obtain ⟨i, gb, m, cap, hi, rfl, rfl, rfl, hK, HO⟩ := hrel
    by_cases hlt : i < n
    · have s2 : (i : Int) < (n : Int) := by omega
      have s3 : (0 : Int) ≤ (i : Int) := by omega
      have hwr : IntKind.i64.wrap ((i : Int) + 1) = (i : Int) + 1 := IntWalk.i64_in _ (by omega)
      have s4 : (0 : Int) ≤ (i : Int) + 1 := by omega
      have s5 : (i : Int) + 1 ≤ (n : Int) := by omega
      have s6 : (i : Int) ≤ (n : Int) := by omega
      have et : ((i : Int) + 1).toNat = i + 1 := by omega
      have hiL : i < l.length := by rw [← HN.out]; exact hlt
      have hss : bs (del l i) = s.extract 0 i ++ s.extract (i + 1) n := by
        rw [HSS.out, HN.out, bs_extract, bs_extract, bs_append]
        congr 1
        unfold del
        rw [List.drop_zero, Nat.sub_zero, List.take_of_length_le (l := l.drop (i + 1)) (by simp)]
      have PU : Hid (Calls Try.prog 60 #[.slice (some ⟨gb, 0, none⟩) m cap, .string (s.extract 0 i ++ s.extract (i + 1) n)] wr.drew (PutPost w.heap.size wr.drew (puts ((dels l).take i)) (del l i))) := by
        obtain ⟨hm, hO⟩ := HO.out
        subst hm
        rw [← hss]
        exact Lib.hid (put_any wr.drew w.heap.size gb cap _ _ hO.drew hK.size (by have := puts_len_le ((dels l).take i); rw [List.length_take] at this; omega))
      have hnx : Hid (putL (puts ((dels l).take i)) (del l i) = puts ((dels l).take (i + 1))) := by
        show _ = _
        rw [dels_take hiL, puts_snoc]
      unfold PutPost at PU
      rw [hnx.out] at PU
      have hov : ¬ 9223372036854775807 < i + (n - (i + 1)) := by omega
      clear hss HO hnx
      go_wp2_with fail
      go_region_law (rw [if_pos (by rfl)]; go_simp; go_at_call 60; refine PU.out.mono ?_; rintro e w1 ⟨g1, c1, rfl, hO1, hk1⟩; (try dsimp only))
      go_wp2_with fail
      go_roundg (n - (i + 1))
      case measure => omega
      case rel => exact ⟨i + 1, g1, _, c1, by omega, rfl, by first | rfl | go_num, rfl, hK.drew.trans hk1, Lib.hid ⟨rfl, hO1⟩⟩
    · obtain rfl : i = n := by omega
      have s2 : ¬ (i : Int) < (i : Int) := by omega
      have hres : Hid (SrtPost w (dels l) (.returned (.slice (some ⟨gb, 0, none⟩) m cap)) wr) := by
        obtain ⟨hm, hO⟩ := HO.out
        have ht : (dels l).take i = dels l := List.take_of_length_le (by rw [HN.out]; simp [dels])
        rw [ht, puts_srt] at hO hm
        subst hm
        exact Lib.hid ⟨_, rfl, hO, hK⟩
      clear HO
      go_wp2_with fail
      go_ret
      exact hres.out
theorem sum_const (q : Nat) : ∀ i, (List.map (fun _ => q) (List.range i)).sum = q * i := by
  intro i
  induction i with
  | zero => rfl
  | succ i ih => rw [List.range_succ, List.map_append, List.sum_append, ih, Nat.mul_succ]; simp
theorem pre_len (l : Wd) (q i c : Nat) : (pre l q i c).length = q * i + c := by
  unfold pre
  rw [List.length_append, List.length_flatMap]
  simp [lets, sum_const]
set_option maxRecDepth 100000 in
set_option maxHeartbeats 1000000 in
theorem rLonger_any (w : World) (l : Wd) (q : Nat) (hl : l.length ≤ 1000) (hq : q ≤ 4) :
    Calls Try.prog 25 #[.string (bs l), .int .i64 q] w (SrtPost w (inss l q)) := by
  obtain ⟨n, HN⟩ : ∃ n, Hid (n = l.length) := ⟨_, rfl⟩
  obtain ⟨s, HSS⟩ : ∃ s : ByteArray, Hid (s = bs l) := ⟨bs l, Lib.hid rfl⟩
  have hsz : s.size = n := by rw [HSS.out, HN.out]; exact bs_size l
  have hO0 := own_zero w w.heap.size 9 (Nat.le_refl _)
  rw [← HN.out] at hl
  rw [← HSS.out]
  go_enter Try.func25, Try.ntmps25
  go_wp2_with fail
  go_loopg [5, 6] (n + 1) (fun g s2 s4 wr => ∃ i gb m cap : Nat, i ≤ n + 1 ∧ g = n + 1 - i ∧ s4 = .int .i64 i ∧ s2 = .slice (some ⟨gb, 0, none⟩) m cap ∧ Kept w wr ∧ Hid (m = (puts (pre l q i 0)).length ∧ wr.ownsRow w.heap.size 9 1 (.slice (some ⟨gb, 0, none⟩) m cap) m (wds (puts (pre l q i 0)))))
  case atStart => exact ⟨0, _, _, _, Nat.zero_le _, rfl, rfl, rfl, (Kept.refl _).alloc _, Lib.hid ⟨rfl, hO0⟩⟩
  case round =>
    clear hO0
    obtain ⟨i, gb, m, cap, hi, rfl, rfl, rfl, hK, HO⟩ := hrel
    by_cases hlt : i < n + 1
    · have s2 : (i : Int) ≤ (n : Int) := by omega
      have s3 : (0 : Int) ≤ (i : Int) := by omega
      have hHK := Lib.hid hK
      clear hK
      go_wp2_with fail
      go_loopg [5, 7] q (fun g s2 s4 wr => ∃ c gb m cap : Nat, c ≤ q ∧ g = q - c ∧ s4 = .int .i64 c ∧ s2 = .slice (some ⟨gb, 0, none⟩) m cap ∧ Kept w wr ∧ Hid (m = (puts (pre l q i c)).length ∧ wr.ownsRow w.heap.size 9 1 (.slice (some ⟨gb, 0, none⟩) m cap) m (wds (puts (pre l q i c)))))
      case atStart => exact ⟨0, gb, m, cap, Nat.zero_le _, rfl, rfl, rfl, hHK.out, HO⟩
      case round =>
        clear HO hHK
        obtain ⟨c, gb, m, cap, hc, rfl, rfl, rfl, hK, HO⟩ := hrel
        by_cases hlc : c < q
        · have s7 : (c : Int) < (q : Int) := by omega
          have s8 : (0 : Int) ≤ (c : Int) := by omega
          have hwr : IntKind.i64.wrap ((c : Int) + 1) = (c : Int) + 1 := IntWalk.i64_in _ (by omega)
          have s4 : (0 : Int) ≤ (c : Int) + 1 := by omega
          have s5 : (c : Int) + 1 ≤ 4 := by omega
          have s9 : (c : Int) ≤ (c : Int) + 1 := by omega
          have et : ((c : Int) + 1).toNat = c + 1 := by omega
          have hcc : (bs [48, 49, 50, 51]).extract c (c + 1) = bs [UInt8.ofNat (48 + c)] := by
            rcases (by omega : c = 0 ∨ c = 1 ∨ c = 2 ∨ c = 3) with rfl | rfl | rfl | rfl <;> rfl
          have hss : bs (ins l i (UInt8.ofNat (48 + c))) = s.extract 0 i ++ bs [UInt8.ofNat (48 + c)] ++ s.extract i n := by
            rw [HSS.out, HN.out, bs_extract, bs_extract, bs_append, bs_append]
            congr 1
            unfold ins
            rw [List.drop_zero, Nat.sub_zero, List.take_of_length_le (l := l.drop i) (by simp), List.append_assoc]; rfl
          have PU : Hid (Calls Try.prog 60 #[.slice (some ⟨gb, 0, none⟩) m cap, .string (s.extract 0 i ++ bs [UInt8.ofNat (48 + c)] ++ s.extract i n)] wr.drew (PutPost w.heap.size wr.drew (puts (pre l q i c)) (ins l i (UInt8.ofNat (48 + c))))) := by
            obtain ⟨hm, hO⟩ := HO.out
            subst hm
            rw [← hss]
            exact Lib.hid (put_any wr.drew w.heap.size gb cap _ _ hO.drew hK.size (by have := puts_len_le (pre l q i c); rw [pre_len] at this; have : q * i ≤ 4 * i := Nat.mul_le_mul_right _ hq; omega))
          have hnx : Hid (putL (puts (pre l q i c)) (ins l i (UInt8.ofNat (48 + c))) = puts (pre l q i (c + 1))) := by
            show _ = _
            rw [pre_succ, puts_snoc]
          unfold PutPost at PU
          rw [hnx.out] at PU
          obtain ⟨C, HCC⟩ : ∃ C : ByteArray, Hid (C = bs [UInt8.ofNat (48 + c)]) := ⟨_, Lib.hid rfl⟩
          rw [← HCC.out] at PU hcc
          unfold bs at hcc
          have hC1 : C.size = 1 := by rw [HCC.out]; rfl
          have hmi : min i n = i := by omega
          have hov : ¬ 9223372036854775807 < i + 1 := by omega
          have hov2 : ¬ 9223372036854775807 < i + 1 + (n - i) := by omega
          clear hss HO hnx
          go_wp2_with fail
          go_region_law (rw [if_pos (by rfl)]; go_simp; go_at_call 60; refine PU.out.mono ?_; rintro e w1 ⟨g1, c1, rfl, hO1, hk1⟩; (try dsimp only))
          go_wp2_with fail
          go_roundg (q - (c + 1))
          case measure => omega
          case rel => exact ⟨c + 1, g1, _, c1, by omega, rfl, by first | rfl | go_num, rfl, hK.drew.trans hk1, Lib.hid ⟨rfl, hO1⟩⟩
        · obtain rfl : c = q := by omega
          have s7 : ¬ (c : Int) < (c : Int) := by omega
          have HO5 : Hid (m = (puts (pre l c (i + 1) 0)).length ∧ wr.ownsRow w.heap.size 9 1 (.slice (some ⟨gb, 0, none⟩) m cap) m (wds (puts (pre l c (i + 1) 0)))) := by rw [pre_next]; exact HO
          clear HO
          go_wp2_with fail
          go_roundg (n + 1 - (i + 1))
          case measure => omega
          case rel => exact ⟨i + 1, gb, m, cap, by omega, rfl, by first | rfl | go_num, rfl, hK, HO5⟩
    · obtain rfl : i = n + 1 := by omega
      have s2 : ¬ (((n + 1 : Nat) : Int) ≤ (n : Int)) := by omega
      have hres : Hid (SrtPost w (inss l q) (.returned (.slice (some ⟨gb, 0, none⟩) m cap)) wr) := by
        obtain ⟨hm, hO⟩ := HO.out
        rw [HN.out, pre_full, puts_srt] at hO hm
        subst hm
        exact Lib.hid ⟨_, rfl, hO, hK⟩
      clear HO
      go_wp2_with fail
      go_ret
      exact hres.out
end Go.Proofs.Ytgphaggkgcnidaa
