/-
  The reference of mark: All.
-/
import Derived.Test.YtgphaggkgcnidaaRa
import Derived.Test.YtgphaggkgcnidaaMf
namespace Go.Proofs.Ytgphaggkgcnidaa
open Go.RowKit Go.Deep Go.Sort

set_option maxRecDepth 100000 in
set_option maxHeartbeats 1000000 in
theorem rAll_any (w : World) (n q : Nat) (hq : q ≤ 4) (hn : n ≤ 12) (hsz : ∀ k, k ≤ n → (allW q k).length ≤ 5000) :
    Calls Try.prog 68 #[.int .i64 n, .int .i64 q] w (RowPost w (allW q n)) := by
  obtain ⟨i0, hi0, hz0, hz1, hz2⟩ := info_parts Try.info9
  have HSZ := Lib.hid hsz
  have hO0 := World.ownsRow_lit (base := w.heap.size) (e := 9) (size := 1) w #[.string ⟨#[]⟩] 1 (Nat.le_refl _) (by decide) rfl
  have hK0 : Kept w (w.alloc (.cells #[.string ⟨#[]⟩] 9)) := (Kept.refl w).alloc _
  clear hsz
  go_enter Try.func68, Try.ntmps68
  go_wp2_with fail
  generalize w.alloc (.cells #[.string ⟨#[]⟩] 9) = W0 at *
  go_loopg [5, 6] n (fun g s5 s12 wr => ∃ k m : Nat, k ≤ n ∧ g = n - k ∧ s12 = .int .i64 k ∧ Kept w wr ∧ wr.ownsRow w.heap.size 9 1 s5 m (wds (allW q k)))
  case atStart => exact ⟨0, 1, Nat.zero_le _, rfl, rfl, hK0, hO0⟩
  case round =>
    obtain ⟨k, m, hk, rfl, rfl, hK, hO⟩ := hrel
    clear hO0 hK0
    obtain ⟨va, vcap, rfl⟩ := own_shape hO
    obtain ⟨hm, hA⟩ := wds_own hO
    by_cases hlt : k < n
    · have s2 : (k : Int) < (n : Int) := by omega
      have s3 : (0 : Int) ≤ (k : Int) := by omega
      have hmb : m ≤ 5000 := by rw [hm]; exact HSZ.out k hk
      obtain ⟨ad, bb, o, cap, hsl, ha, hc⟩ := hA
      obtain ⟨rfl, rfl, rfl⟩ : va = ad ∧ m = (allW q k).length ∧ vcap = cap := by simpa using hsl
      clear hsl
      obtain ⟨L, HL⟩ : ∃ L, Hid (L = allW q k) := ⟨_, rfl⟩
      rw [← HL.out] at hc ha hmb hm hO ⊢
      generalize wr = W1 at *
      have hHK := Lib.hid hK
      have hHC := Lib.hid hc
      have hO1 : (W1.alloc (.cells #[] 9)).ownsRow W1.heap.size 9 1 (.slice (some ⟨W1.heap.size, 0, none⟩) 0 0) 0 (wds (nxt q L 0 0)) := by rw [nxt_zero]; exact own_zero W1 _ _ (Nat.le_refl _)
      have hK1 : Kept W1 (W1.alloc (.cells #[] 9)) := (Kept.refl W1).alloc _
      obtain ⟨m, HLm⟩ : ∃ m, Hid (m = L.length) := ⟨_, rfl⟩
      rw [← HLm.out] at hHC ha hmb ⊢
      clear hK hc hm hO
      go_wp2_with fail
      generalize W1.alloc (.cells #[] 9) = W2 at *
      go_loopg [7, 8] m (fun g s6 s16 wx => ∃ j m2 : Nat, j ≤ m ∧ g = m - j ∧ s16 = .int .i64 j ∧ Kept W1 wx ∧ wx.ownsRow W1.heap.size 9 1 s6 m2 (wds (nxt q L j 0)) ∧ m2 ≤ 4 * j)
      case atStart => exact ⟨0, 0, Nat.zero_le _, rfl, rfl, hK1, hO1, by omega⟩
      case round =>
        obtain ⟨j, m2, hj, rfl, rfl, hK, hO, hm2⟩ := hrel
        clear hO1 hK1
        obtain ⟨vb, vbcap, rfl⟩ := own_shape hO
        by_cases hlj : j < m
        · obtain rfl := ha (by omega)
          have s4 : (j : Int) < (m : Int) := by omega
          have s5 : (0 : Int) ≤ (j : Int) := by omega
          obtain ⟨X, HXX⟩ : ∃ X : ByteArray, Hid (X = bs (L.getD j [])) := ⟨_, Lib.hid rfl⟩
          have hXs : X.size = k := by
            rw [HXX.out, bs_size]
            have hjL : j < L.length := by rw [← HLm.out]; exact hlj
            rw [getD_at hjL]
            exact allW_len q k _ (by rw [← HL.out]; exact List.getElem_mem hjL)
          go_wp2_with fail
          go_loopg [7, 9] q (fun g s6 s21 wy => ∃ c m3 : Nat, c ≤ q ∧ g = q - c ∧ s21 = .int .i64 c ∧ Kept W1 wy ∧ wy.ownsRow W1.heap.size 9 1 s6 m3 (wds (nxt q L j c)) ∧ m3 ≤ 4 * j + c)
          case atStart => exact ⟨0, m2, Nat.zero_le _, rfl, rfl, hK, hO, by omega⟩
          case round =>
            clear hK hO
            obtain ⟨c, m3, hc, rfl, rfl, hK, hO, hm3⟩ := hrel
            obtain ⟨vb, vbcap, rfl⟩ := own_shape hO
            by_cases hlc : c < q
            · have s7 : (c : Int) < (q : Int) := by omega
              have hsw := hK.size
              have t0 := hK.cellSome (hHC.out j hlj)
              rw [← HXX.out] at t0
              have s8 : (0 : Int) ≤ (c : Int) := by omega
              have hwr : IntKind.i64.wrap ((c : Int) + 1) = (c : Int) + 1 := IntWalk.i64_in _ (by omega)
              have q4 : (0 : Int) ≤ (c : Int) + 1 := by omega
              have q5 : (c : Int) + 1 ≤ 4 := by omega
              have q9 : (c : Int) ≤ (c : Int) + 1 := by omega
              have et : ((c : Int) + 1).toNat = c + 1 := by omega
              have hcc : (bs [48, 49, 50, 51]).extract c (c + 1) = bs [UInt8.ofNat (48 + c)] := by
                rcases (by omega : c = 0 ∨ c = 1 ∨ c = 2 ∨ c = 3) with rfl | rfl | rfl | rfl <;> rfl
              obtain ⟨C, HCC⟩ : ∃ C : ByteArray, Hid (C = bs [UInt8.ofNat (48 + c)]) := ⟨_, Lib.hid rfl⟩
              rw [← HCC.out] at hcc
              unfold bs at hcc
              have hC1 : C.size = 1 := by rw [HCC.out]; rfl
              have hov : ¬ 9223372036854775807 < k + 1 := by omega
              have hsn : Hid (wds (nxt q L j (c + 1)) = wds (nxt q L j c) ++ [.string (X ++ C)]) := by
                show _ = _
                rw [nxt_succ, wds_snoc, HCC.out, HXX.out, bs_append]
              obtain ⟨Lv, HLv⟩ : ∃ Lv, Hid (Lv = wds (nxt q L j c)) := ⟨_, rfl⟩
              rw [← HLv.out] at hsn hO
              go_wp2_with fail
              go_region_law (refine step_append_lies _ (by rfl) _ _ _ (by rfl) W1.heap.size 9 i0 (.string ⟨#[]⟩) 1 16 Try.underlying26 hi0 hz0 hz1 hz2 rfl (by omega) (.slice vb m3 vbcap) m3 Lv (by rfl) ((hO.alloc _).drew) ⟨wr.heap.size, 0, none⟩ 1 1 [.string (X ++ C)] (by rfl) (by rfl) (World.news_of_block (cs := #[.string (X ++ C)]) (t := 9) (fr := (0, 0)) (heap_alloc_new wr _)) (by simp [Value.oneCell']) (by omega) (by unfold maxLen; omega) (by omega) (by simp; omega) (wr.heap.size + 1) (by simp) ?_; intro g gcap w2 hO3 hgr hgl hgs)
              have hK2 : Kept W1 w2 := ((hK.alloc _).drew).grew hgr ((hO.alloc _).drew) (Nat.le_refl _)
              have hO4 : w2.ownsRow W1.heap.size 9 1 (.slice (some ⟨g, 0, none⟩) (m3 + 1) gcap) (m3 + 1) (wds (nxt q L j (c + 1))) := by rw [hsn.out]; exact hO3
              clear hO3 hgr hO hK
              go_wp2_with fail
              go_roundg (q - (c + 1))
              case measure => omega
              case rel => exact ⟨c + 1, m3 + 1, by omega, rfl, by first | rfl | go_num, hK2, hO4, by omega⟩
            · obtain rfl : c = q := by omega
              have s7 : ¬ (c : Int) < (c : Int) := by omega
              have hO5 : wr.ownsRow W1.heap.size 9 1 (.slice vb m3 vbcap) m3 (wds (nxt c L (j + 1) 0)) := by rw [nxt_next _ (by rw [← HLm.out]; exact hlj)]; exact hO
              clear hO
              go_wp2_with fail
              go_roundg (m - (j + 1))
              case measure => omega
              case rel => exact ⟨j + 1, m3, by omega, rfl, by first | rfl | go_num, hK, hO5, by omega⟩
        · obtain rfl : j = m := by omega
          have s4 : ¬ (j : Int) < (j : Int) := by omega
          have hO5 : wr.ownsRow w.heap.size 9 1 (.slice vb m2 vbcap) m2 (wds (allW q (k + 1))) := by
            have h := own_base hO hHK.out.size
            rw [HLm.out, nxt_full, HL.out] at h
            exact h
          have hK5 := hHK.out.trans hK
          clear hO hK
          go_wp2_with fail
          go_roundg (n - (k + 1))
          case measure => omega
          case rel => exact ⟨k + 1, m2, by omega, rfl, by first | rfl | go_num, hK5, hO5⟩
    · obtain rfl : k = n := by omega
      have s2 : ¬ (k : Int) < (k : Int) := by omega
      subst hm
      have hfin := Lib.hid (show RowPost w (allW q k) (.returned (.slice va (allW q k).length vcap)) wr from ⟨_, rfl, hO, hK⟩)
      clear hO hA hK
      go_wp2_with fail
      go_ret
      exact hfin.out
end Go.Proofs.Ytgphaggkgcnidaa
