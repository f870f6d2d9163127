/-
  Package mark: longer.
-/
import Derived.Test.YtjcgplocifmolaaMd
namespace Go.Proofs.Ytjcgplocifmolaa
open Go.RowKit Go.Deep Go.Sort

theorem lets_succ (c : Nat) : lets (c + 1) = lets c ++ [UInt8.ofNat (48 + c)] := by simp [lets, List.range_succ]
/-- the longer words up to letter c at place i -/
def pre (l : Wd) (q i c : Nat) : List Wd := ((List.range i).flatMap fun i => (lets q).map fun c => ins l i c) ++ (lets c).map (fun c => ins l i c)
theorem pre_succ (l : Wd) (q i c : Nat) : pre l q i (c + 1) = pre l q i c ++ [ins l i (UInt8.ofNat (48 + c))] := by
  unfold pre
  rw [lets_succ, List.map_append, ← List.append_assoc]; rfl
theorem pre_next (l : Wd) (q i : Nat) : pre l q (i + 1) 0 = pre l q i q := by
  unfold pre
  rw [List.range_succ, List.flatMap_append]
  simp [lets]
theorem pre_full (l : Wd) (q : Nat) : pre l q (l.length + 1) 0 = inss l q := by
  unfold pre inss
  simp [lets]
set_option maxRecDepth 100000 in
set_option maxHeartbeats 4000000 in
theorem longer_any (w : World) (l : Wd) (q : Nat) (hl : l.length ≤ 1000) (hq : q ≤ 4) :
    Calls Try.prog 54 #[.string (bs l), .int .i64 q] w (SrtPost w (inss l q)) := by
  obtain ⟨i0, hi0, hz0, hz1, hz2⟩ := info_parts Try.info9
  obtain ⟨n, HN⟩ : ∃ n, Hid (n = l.length) := ⟨_, rfl⟩
  obtain ⟨s, HSS⟩ : ∃ s : ByteArray, Hid (s = bs l) := ⟨bs l, Lib.hid rfl⟩
  have hsz : s.size = n := by rw [HSS.out, HN.out]; exact bs_size l
  have hO0 : w.ownsRow w.heap.size 9 1 (.slice none 0 0) 0 (wds (pre l q 0 0)) := own_none w _ _ _
  have IO := Lib.hid (fun (W : World) (v : Value) (m : Nat) (hO : W.ownsRow w.heap.size 9 1 v m (wds (inss l q))) (hm : m ≤ 1000000) => inOrder_any W w.heap.size m v (inss l q) hO hm)
  have SI := Lib.hid (fun (W : World) (c : Nat) (hc : c < 4) => single_any W c hc)
  have hwn : IntKind.i64.wrap ((n : Int) + 1) = (n : Int) + 1 := IntWalk.i64_in _ (by rw [← HN.out] at hl; omega)
  rw [← HN.out] at hl
  rw [← HSS.out]
  go_enter Try.func54, Try.ntmps54
  go_wp2_with fail
  go_loopg [5, 11] (n + 1) (fun g s5 s11 wr => ∃ i m : Nat, i ≤ n + 1 ∧ g = n + 1 - i ∧ s11 = .int .i64 i ∧ Kept w wr ∧ wr.ownsRow w.heap.size 9 1 s5 m (wds (pre l q i 0)) ∧ m ≤ 4 * i)
  case atStart => exact ⟨0, 0, Nat.zero_le _, rfl, rfl, Kept.refl _, hO0, by omega⟩
  case round =>
    obtain ⟨i, m, hi, rfl, rfl, hK, hO, hm⟩ := hrel
    clear hO0
    obtain ⟨va, vcap, rfl⟩ := own_shape hO
    by_cases hlt : i < n + 1
    · have s2 : (i : Int) < (n : Int) + 1 := by omega
      have s3 : (0 : Int) ≤ (i : Int) := by omega
      have s6 : (i : Int) ≤ (n : Int) := by omega
      have hHK := Lib.hid hK
      clear hK
      go_wp2_with fail
      go_loopg [5, 15] q (fun g s5 s15 wr => ∃ c m : Nat, c ≤ q ∧ g = q - c ∧ s15 = .int .i64 c ∧ Kept w wr ∧ wr.ownsRow w.heap.size 9 1 s5 m (wds (pre l q i c)) ∧ m ≤ 4 * i + c)
      case atStart => exact ⟨0, m, Nat.zero_le _, rfl, rfl, hHK.out, hO, by omega⟩
      case round =>
        clear hO hHK
        obtain ⟨c, m, hc, rfl, rfl, hK, hO, hm⟩ := hrel
        obtain ⟨va, vcap, rfl⟩ := own_shape hO
        by_cases hlc : c < q
        · have s7 : (c : Int) < (q : Int) := by omega
          have hsw := hK.size
          have SIc := Lib.hid (fun W => SI.out W c (by omega))
          obtain ⟨C, HCC⟩ : ∃ C : ByteArray, Hid (C = bs [UInt8.ofNat (48 + c)]) := ⟨_, Lib.hid rfl⟩
          have hC1 : C.size = 1 := by rw [HCC.out]; rfl
          have hsn : Hid (wds (pre l q i (c + 1)) = wds (pre l q i c) ++ [.string (s.extract 0 i ++ C ++ s.extract i n)]) := by
            show _ = _
            rw [pre_succ, wds_snoc, HCC.out, HSS.out, HN.out, bs_extract, bs_extract, bs_append, bs_append]
            congr 4
            unfold ins
            rw [List.drop_zero, Nat.sub_zero, List.take_of_length_le (l := l.drop i) (by simp), List.append_assoc]; rfl
          rw [← HCC.out] at SIc
          obtain ⟨Lv, HLv⟩ : ∃ Lv, Hid (Lv = wds (pre l q i c)) := ⟨_, rfl⟩
          rw [← HLv.out] at hsn hO
          have hs1 : (s.extract 0 i).size = i := by rw [ByteArray.size_extract]; omega
          have hs2 : (s.extract i n).size = n - i := by rw [ByteArray.size_extract]; omega
          have bx := sbox3 wr (.string (s.extract 0 i)) (.string C) (.string (s.extract i n)) 9
          obtain ⟨b0, b1, b2⟩ := bx
          go_wp2_with fail
          go_region_law (first
            | (refine step_append_lies _ (by rfl) _ _ _ (by rfl) w.heap.size 9 i0 (.string ⟨#[]⟩) 1 16 Try.underlying26 hi0 hz0 hz1 hz2 rfl (by omega) (.slice va m vcap) m Lv (by rfl) (((hO.alloc _).alloc _).drew) ⟨wr.heap.size + 1, 0, none⟩ 1 1 [.string (s.extract 0 i ++ C ++ s.extract i n)] (by rfl) (by rfl) (World.news_of_block (cs := #[.string (s.extract 0 i ++ C ++ s.extract i n)]) (t := 9) (fr := (0, 0)) (heap_new2 wr _ _)) (by simp [Value.oneCell']) (by omega) (by unfold maxLen; omega) (by omega) (by simp; omega) (wr.heap.size + 2) (by simp) ?_; intro g gcap w2 hO3 hgr hgl hgs)
            | (rw [if_pos (by rfl)]; go_simp; go_at_call 76; refine (SIc.out _).mono ?_; rintro e w5 ⟨rfl, rfl⟩; (try dsimp only))
            | (rw [if_pos (by rfl)]; go_simp; go_at_call 65; refine (joinB3 _ _ (s.extract 0 i) C (s.extract i n) (by (try simp only [World.cell?_drew]); exact b0) (by (try simp only [World.cell?_drew]); exact b1) (by (try simp only [World.cell?_drew]); exact b2) (by omega)).mono ?_; rintro e w5 ⟨rfl, rfl⟩; (try dsimp only)))
          have hK9 : Kept w w2 := (((hK.alloc _).alloc _).drew).step (grew_X hgr (((hO.alloc _).alloc _).drew)) (fun i hi => hi)
          have hO4 : w2.ownsRow w.heap.size 9 1 (.slice (some ⟨g, 0, none⟩) (m + 1) gcap) (m + 1) (wds (pre l q i (c + 1))) := by
            rw [hsn.out]; exact hO3
          clear hO3 hgr hO
          go_wp2_with fail
          go_roundg (q - (c + 1))
          case measure => omega
          case rel => exact ⟨c + 1, m + 1, by omega, rfl, by first | rfl | go_num, hK9, hO4, by omega⟩
        · obtain rfl : c = q := by omega
          have s7 : ¬ (c : Int) < (c : Int) := by omega
          have hO5 : wr.ownsRow w.heap.size 9 1 (.slice va m vcap) m (wds (pre l c (i + 1) 0)) := by rw [pre_next]; exact hO
          clear hO
          go_wp2_with fail
          go_roundg (n + 1 - (i + 1))
          case measure => omega
          case rel => exact ⟨i + 1, m, by omega, rfl, by first | rfl | go_num, hK, hO5, by omega⟩
    · obtain rfl : i = n + 1 := by omega
      have s2 : ¬ (((n + 1 : Nat) : Int) < (n : Int) + 1) := by omega
      have hO5 : wr.ownsRow w.heap.size 9 1 (.slice va m vcap) m (wds (inss l q)) := by
        rw [HN.out, pre_full] at hO; exact hO
      have IO2 := Lib.hid (IO.out _ _ _ hO5 (by omega))
      unfold OrdPost at IO2
      unfold SrtPost
      clear hO5 hO IO
      go_wp2_with (first | (go_at_call 77; refine IO2.out.mono ?_; rintro e w1 ⟨v1, rfl, hO1, hk1⟩))
      go_ret
      exact ⟨v1, rfl, hO1, hK.step hk1 (fun i hi => hi)⟩
end Go.Proofs.Ytjcgplocifmolaa
