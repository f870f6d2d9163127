/-
  Package mark: allWords, words.
-/
import Derived.Test.YtjcgplocifmolaaMe
import Derived.Laws.OwnMore
namespace Go.Proofs.Ytjcgplocifmolaa
open Go.RowKit Go.Deep Go.Sort

/-- all words of n letters below q, in byte order -/
def ext (q : Nat) (x : Wd) : List Wd := (lets q).map fun c => x ++ [c]
def allW (q : Nat) : Nat → List Wd
  | 0 => [[]]
  | n + 1 => (allW q n).flatMap (ext q)
/-- the next list up to letter c of word j -/
def nxt (q : Nat) (L : List Wd) (j c : Nat) : List Wd := (L.take j).flatMap (ext q) ++ (lets c).map fun d => L.getD j [] ++ [d]
theorem nxt_zero (q : Nat) (L : List Wd) : nxt q L 0 0 = [] := by simp [nxt, lets]
theorem nxt_succ (q : Nat) (L : List Wd) (j c : Nat) : nxt q L j (c + 1) = nxt q L j c ++ [L.getD j [] ++ [UInt8.ofNat (48 + c)]] := by
  unfold nxt
  rw [lets_succ, List.map_append, ← List.append_assoc]; rfl
theorem nxt_next (q : Nat) {L : List Wd} {j : Nat} (h : j < L.length) : nxt q L (j + 1) 0 = nxt q L j q := by
  unfold nxt
  rw [List.take_succ_eq_append_getElem h, List.flatMap_append, getD_at h]
  simp [lets, ext]
theorem nxt_full (q : Nat) (L : List Wd) : nxt q L L.length 0 = L.flatMap (ext q) := by simp [nxt, lets]
theorem allW_len (q n : Nat) : ∀ x ∈ allW q n, x.length = n := by
  induction n with
  | zero => intro x hx; simp [allW] at hx; simp [hx]
  | succ n ih =>
    intro x hx
    simp only [allW, List.mem_flatMap, ext, List.mem_map] at hx
    obtain ⟨y, hy, c, _, rfl⟩ := hx
    simp [ih y hy]
theorem allW_count (q n : Nat) : (allW q n).length = q ^ n := by
  induction n with
  | zero => rfl
  | succ n ih =>
    simp only [allW, List.length_flatMap, ext, List.length_map]
    have : (fun x : Wd => (lets q).length) = fun _ => q := by funext x; simp [lets]
    rw [this]
    have hs : ∀ L : List Wd, (L.map fun _ => q).sum = L.length * q := by
      intro L
      induction L with
      | nil => simp
      | cons a t ih => simp only [List.map_cons, List.sum_cons, List.length_cons]; rw [ih, Nat.succ_mul]; omega
    rw [hs, ih, Nat.pow_succ]
def RowPost (w : World) (L : List Wd) (e : Ending) (w' : World) : Prop := ∃ v, e = .returned v ∧ w'.ownsRow w.heap.size 9 1 v L.length (wds L) ∧ Kept w w'
set_option maxRecDepth 100000 in
set_option maxHeartbeats 1000000 in
theorem allWords_any (w : World) (n q : Nat) (hq : q ≤ 4) (hn : n ≤ 12) (hsz : ∀ k, k ≤ n → (allW q k).length ≤ 5000) :
    Calls Try.prog 66 #[.int .i64 n, .int .i64 q] w (RowPost w (allW q n)) := by
  obtain ⟨i0, hi0, hz0, hz1, hz2⟩ := info_parts Try.info9
  have HSZ := Lib.hid hsz
  have SI := Lib.hid (fun (W : World) (c : Nat) (hc : c < 4) => single_any W c hc)
  have hO0 := World.ownsRow_lit (base := w.heap.size) (e := 9) (size := 1) w #[.string ⟨#[]⟩] 1 (Nat.le_refl _) (by decide) rfl
  have hK0 : Kept w (w.alloc (.cells #[.string ⟨#[]⟩] 9)) := (Kept.refl w).alloc _
  clear hsz
  go_enter Try.func66, Try.ntmps66
  go_wp2_with fail
  generalize w.alloc (.cells #[.string ⟨#[]⟩] 9) = W0 at *
  go_loopg [5, 12] n (fun g s5 s12 wr => ∃ k m : Nat, k ≤ n ∧ g = n - k ∧ s12 = .int .i64 k ∧ Kept w wr ∧ wr.ownsRow w.heap.size 9 1 s5 m (wds (allW q k)))
  case atStart => exact ⟨0, 1, Nat.zero_le _, rfl, rfl, hK0, hO0⟩
  case round =>
    obtain ⟨k, m, hk, rfl, rfl, hK, hO⟩ := hrel
    clear hO0 hK0
    obtain ⟨va, vcap, rfl⟩ := own_shape hO
    obtain ⟨hm, hA⟩ := wds_own hO
    by_cases hlt : k < n
    · have s2 : (k : Int) < (n : Int) := by omega
      have s3 : (0 : Int) ≤ (k : Int) := by omega
      have hmb : m ≤ 5000 := by rw [hm]; exact HSZ.out k hk
      obtain ⟨ad, bb, o, cap, hsl, ha, hc⟩ := hA
      obtain ⟨rfl, rfl, rfl⟩ : va = ad ∧ m = (allW q k).length ∧ vcap = cap := by simpa using hsl
      clear hsl
      obtain ⟨L, HL⟩ : ∃ L, Hid (L = allW q k) := ⟨_, rfl⟩
      rw [← HL.out] at hc ha hmb hm hO ⊢
      generalize wr = W1 at *
      have hHK := Lib.hid hK
      have hHC := Lib.hid hc
      have hO1 : W1.ownsRow W1.heap.size 9 1 (.slice none 0 0) 0 (wds (nxt q L 0 0)) := by rw [nxt_zero]; exact own_none W1 _ _ _
      obtain ⟨m, HLm⟩ : ∃ m, Hid (m = L.length) := ⟨_, rfl⟩
      rw [← HLm.out] at hHC ha hmb ⊢
      clear hK hc hm hO
      go_wp2_with fail
      go_loopg [6, 16] m (fun g s6 s16 wx => ∃ j m2 : Nat, j ≤ m ∧ g = m - j ∧ s16 = .int .i64 j ∧ Kept W1 wx ∧ wx.ownsRow W1.heap.size 9 1 s6 m2 (wds (nxt q L j 0)) ∧ m2 ≤ 4 * j)
      case atStart => exact ⟨0, 0, Nat.zero_le _, rfl, rfl, Kept.refl _, hO1, by omega⟩
      case round =>
        obtain ⟨j, m2, hj, rfl, rfl, hK, hO, hm2⟩ := hrel
        clear hO1
        obtain ⟨vb, vbcap, rfl⟩ := own_shape hO
        by_cases hlj : j < m
        · obtain rfl := ha (by omega)
          have t0 := hK.cellSome (hHC.out j hlj)
          have s4 : (j : Int) < (m : Int) := by omega
          have s5 : (0 : Int) ≤ (j : Int) := by omega
          obtain ⟨X, HXX⟩ : ∃ X : ByteArray, Hid (X = bs (L.getD j [])) := ⟨_, Lib.hid rfl⟩
          have hXs : X.size = k := by
            rw [HXX.out, bs_size]
            have hjL : j < L.length := by rw [← HLm.out]; exact hlj
            rw [getD_at hjL]
            exact allW_len q k _ (by rw [← HL.out]; exact List.getElem_mem hjL)
          rw [← HXX.out] at t0
          go_wp2_with fail
          go_loopg [6, 21] q (fun g s6 s21 wy => ∃ c m3 : Nat, c ≤ q ∧ g = q - c ∧ s21 = .int .i64 c ∧ Kept W1 wy ∧ wy.ownsRow W1.heap.size 9 1 s6 m3 (wds (nxt q L j c)) ∧ m3 ≤ 4 * j + c)
          case atStart => exact ⟨0, m2, Nat.zero_le _, rfl, rfl, hK, hO, by omega⟩
          case round =>
            clear t0 hK hO
            obtain ⟨c, m3, hc, rfl, rfl, hK, hO, hm3⟩ := hrel
            obtain ⟨vb, vbcap, rfl⟩ := own_shape hO
            by_cases hlc : c < q
            · have s7 : (c : Int) < (q : Int) := by omega
              have hsw := hK.size
              have SIc := Lib.hid (fun W => SI.out W c (by omega))
              obtain ⟨C, HCC⟩ : ∃ C : ByteArray, Hid (C = bs [UInt8.ofNat (48 + c)]) := ⟨_, Lib.hid rfl⟩
              have hC1 : C.size = 1 := by rw [HCC.out]; rfl
              have hsn : Hid (wds (nxt q L j (c + 1)) = wds (nxt q L j c) ++ [.string (X ++ C)]) := by
                show _ = _
                rw [nxt_succ, wds_snoc, HCC.out, HXX.out, bs_append]
              rw [← HCC.out] at SIc
              obtain ⟨Lv, HLv⟩ : ∃ Lv, Hid (Lv = wds (nxt q L j c)) := ⟨_, rfl⟩
              rw [← HLv.out] at hsn hO
              obtain ⟨b0, b1⟩ := sbox2 wr (.string X) (.string C) 9
              go_wp2_with (first
                | (go_at_call 76; refine (SIc.out _).mono ?_; rintro e w5 ⟨rfl, rfl⟩)
                | (go_at_call 65; refine (joinB2 _ _ X C b0 b1 (by omega)).mono ?_; rintro e w5 ⟨rfl, rfl⟩)
                | (at_builtin; refine wpList_append_own _ rfl _ _ 26 rfl W1.heap.size 9 i0 (.string ⟨#[]⟩) 1 16 Try.underlying26 hi0 hz0 hz1 hz2 rfl (by decide) _ _ _ rfl ((hO.alloc _).alloc _) ⟨_, 0, none⟩ 1 1 [.string (X ++ C)] rfl rfl (by first | exact cell_one_new _ _ _ | exact World.news_of_block (cs := #[.string (X ++ C)]) (t := 9) (fr := (0, 0)) (heap_new2 wr _ _)) ?c2 ?c3 ?c4 ?c5 ?_))
              case c2 => simp [Value.oneCell']
              case c3 => unfold maxLen; omega
              case c4 => omega
              case c5 => (try simp); omega
              intro ov' w2 hO3 hgr _
              have hK2 : Kept W1 w2 := ((hK.alloc _).alloc _).grew hgr ((hO.alloc _).alloc _) (Nat.le_refl _)
              have hO4 : w2.ownsRow W1.heap.size 9 1 ov' (m3 + 1) (wds (nxt q L j (c + 1))) := by rw [hsn.out]; exact hO3
              clear hO3 hgr hO hK
              go_wp2_with fail
              go_roundg (q - (c + 1))
              case measure => omega
              case rel => exact ⟨c + 1, m3 + 1, by omega, rfl, by first | rfl | go_num, hK2, hO4, by omega⟩
            · obtain rfl : c = q := by omega
              have s7 : ¬ (c : Int) < (c : Int) := by omega
              have hO5 : wr.ownsRow W1.heap.size 9 1 (.slice vb m3 vbcap) m3 (wds (nxt c L (j + 1) 0)) := by rw [nxt_next _ (by rw [← HLm.out]; exact hlj)]; exact hO
              clear hO
              go_wp2_with fail
              go_roundg (m - (j + 1))
              case measure => omega
              case rel => exact ⟨j + 1, m3, by omega, rfl, by first | rfl | go_num, hK, hO5, by omega⟩
        · obtain rfl : j = m := by omega
          have s4 : ¬ (j : Int) < (j : Int) := by omega
          have hO5 : wr.ownsRow w.heap.size 9 1 (.slice vb m2 vbcap) m2 (wds (allW q (k + 1))) := by
            have h := own_base hO hHK.out.size
            rw [HLm.out, nxt_full, HL.out] at h
            exact h
          have hK5 := hHK.out.trans hK
          clear hO hK
          go_wp2_with fail
          go_roundg (n - (k + 1))
          case measure => omega
          case rel => exact ⟨k + 1, m2, by omega, rfl, by first | rfl | go_num, hK5, hO5⟩
    · obtain rfl : k = n := by omega
      have s2 : ¬ (k : Int) < (k : Int) := by omega
      subst hm
      have hfin := Lib.hid (show RowPost w (allW q k) (.returned (.slice va (allW q k).length vcap)) wr from ⟨_, rfl, hO, hK⟩)
      clear hO hA hK
      go_wp2_with fail
      go_ret
      exact hfin.out
/-- all words of n letters below q that p holds of -/
def wordsF (q n : Nat) (p : Wd → Bool) : List Wd := (allW q n).filter p
theorem filter_no {p : Wd → Bool} {L : List Wd} {i : Nat} (h : i < L.length) (hp : p L[i] = false) : (L.take (i + 1)).filter p = (L.take i).filter p := by
  rw [List.take_succ_eq_append_getElem h, List.filter_append]; simp [hp]
theorem filter_yes {p : Wd → Bool} {L : List Wd} {i : Nat} (h : i < L.length) (hp : p L[i] = true) : (L.take (i + 1)).filter p = (L.take i).filter p ++ [L[i]] := by
  rw [List.take_succ_eq_append_getElem h, List.filter_append]; simp [hp]
set_option maxRecDepth 100000 in
set_option maxHeartbeats 1000000 in
theorem words_any (w : World) (k a b : Int) (n q : Nat) (p : Wd → Bool) (hq : q ≤ 4) (hn : n ≤ 12) (hsz : ∀ k, k ≤ n → (allW q k).length ≤ 5000)
    (hp : ∀ (W : World) (l : Wd), l ∈ allW q n → Calls Try.prog 67 #[cdV k n q a b, .string (bs l)] W fun e w' => e = .returned (.bool (p l)) ∧ Kept W w') :
    Calls Try.prog 41 #[cdV k n q a b] w (RowPost w (wordsF q n p)) := by
  obtain ⟨i0, hi0, hz0, hz1, hz2⟩ := info_parts Try.info9
  obtain ⟨W, hW, hs, c0, c1, c2, c3, c4, hk⟩ := newbox5 w w.heap.size rfl (.int .i64 k) (.int .i64 n) (.int .i64 q) (.int .i64 a) (.int .i64 b) 77
  have AW := Lib.hid (fun W => allWords_any W n q hq hn hsz)
  have HSZ := Lib.hid (hsz n (Nat.le_refl _))
  have HP := Lib.hid hp
  clear hs hp hsz
  unfold wordsF RowPost at *
  obtain ⟨z, HZ⟩ : ∃ z, Hid (z = w.heap.size) := ⟨_, rfl⟩
  have hzw : w.heap.size ≤ z := by rw [HZ.out]; exact Nat.le_refl _
  obtain ⟨L, HL⟩ : ∃ L, Hid (L = allW q n) := ⟨_, rfl⟩
  rw [← HL.out] at AW HSZ HP ⊢
  go_enter Try.func41, Try.ntmps41
  go_wp2_with (go_at_call 66; refine (AW.out _).mono ?_; rintro e w1 ⟨v1, rfl, hO1, hk1⟩; obtain ⟨va, vcap, rfl⟩ := own_shape hO1)
  clear hW
  obtain ⟨hm, hA⟩ := wds_own hO1
  obtain ⟨m, HM⟩ : ∃ m, Hid (m = L.length) := ⟨_, rfl⟩
  obtain ⟨ad, bb, o, cap, hsl, ha, hc⟩ := hA
  obtain ⟨rfl, rfl⟩ : va = ad ∧ vcap = cap := by simpa using hsl
  obtain ⟨d0, d1, d2, d3, d4, hk1⟩ := keep5 c0 c1 c2 c3 c4 hk1
  have HC := Lib.hid hc
  have hL := HSZ.out
  rw [← HM.out] at ha hL HC ⊢
  rw [← HZ.out] at d0 d1 d2 d3 d4 ⊢
  have hK0 := Lib.hid (hk.trans hk1)
  clear hsl hc c0 c1 c2 c3 c4 hO1 hm hk hk1
  have hO2 : w1.ownsRow w1.heap.size 9 1 (.slice none 0 0) 0 (wds ((L.take 0).filter p)) := own_none w1 _ _ _
  go_loopg [3, 12] m (fun g s3 s12 wx => ∃ i t : Nat, i ≤ m ∧ t ≤ i ∧ g = m - i ∧ s12 = .int .i64 i ∧ Kept w1 wx ∧ wx.ownsRow w1.heap.size 9 1 s3 t (wds ((L.take i).filter p)))
  case atStart => exact ⟨0, 0, Nat.zero_le _, Nat.zero_le _, rfl, rfl, Kept.refl _, hO2⟩
  case round =>
    clear hO2
    obtain ⟨i, t, hi, hti, rfl, rfl, hK, hO⟩ := hrel
    obtain ⟨e0, e1, e2, e3, e4, hK⟩ := keep5 d0 d1 d2 d3 d4 hK
    clear d0 d1 d2 d3 d4
    obtain ⟨vb, vbcap, rfl⟩ := own_shape hO
    by_cases hlt : i < m
    · obtain rfl := ha (by omega)
      have t0 := hK.cellSome (HC.out i hlt)
      have s2 : (i : Int) < (m : Int) := by omega
      have s3 : (0 : Int) ≤ (i : Int) := by omega
      have hiL : i < L.length := by rw [← HM.out]; exact hlt
      (try dsimp only at t0)
      rw [getD_at hiL] at t0
      have hasE := Lib.hid (fun W => HP.out W L[i] (List.getElem_mem hiL))
      have hsw := hK.size
      obtain ⟨X, HXX⟩ : ∃ X : ByteArray, Hid (X = bs L[i]) := ⟨bs L[i], Lib.hid rfl⟩
      rw [← HXX.out] at t0 hasE
      cases hpi : p L[i]
      · have hnx := Lib.hid (filter_no hiL hpi)
        rw [hpi] at hasE
        clear hpi
        go_wp2_with (go_at_call 67; refine (hasE.out _).mono ?_; rintro e w5 ⟨rfl, hk5⟩)
        go_roundg (m - (i + 1))
        case measure => omega
        case rel => exact ⟨i + 1, t, by omega, by omega, rfl, by first | rfl | go_num, hK.trans hk5, by rw [hnx.out]; exact own_kept hO hk5⟩
      · have hnx : Hid (wds ((L.take (i + 1)).filter p) = wds ((L.take i).filter p) ++ [.string X]) := by
          show _ = _
          rw [filter_yes hiL hpi, wds_snoc, HXX.out]
        rw [hpi] at hasE
        clear hpi
        go_wp2_with (first
          | (go_at_call 67; refine (hasE.out _).mono ?_; rintro e w5 ⟨rfl, hk5⟩; have hO5 := own_kept hO hk5; have hK5 := hK.trans hk5; have hs5 := hK5.size)
          | (at_builtin; refine wpList_append_own _ rfl _ _ 26 rfl w1.heap.size 9 i0 (.string ⟨#[]⟩) 1 16 Try.underlying26 hi0 hz0 hz1 hz2 rfl (by decide) _ _ _ rfl (hO5.alloc _) ⟨_, 0, none⟩ 1 1 [.string X] rfl rfl (cell_one_new _ _ _) ?c2 ?c3 ?c4 ?c5 ?_))
        case c2 => simp [Value.oneCell']
        case c3 => unfold maxLen; omega
        case c4 => omega
        case c5 => (try simp); omega
        intro ov' w2 hO3 hgr _
        have hK2 : Kept w1 w2 := (hK5.alloc _).grew hgr (hO5.alloc _) (Nat.le_refl _)
        have hO4 : w2.ownsRow w1.heap.size 9 1 ov' (t + 1) (wds ((L.take (i + 1)).filter p)) := by rw [hnx.out]; exact hO3
        clear hO3 hgr hO hK hO5 hK5
        go_wp2_with fail
        go_roundg (m - (i + 1))
        case measure => omega
        case rel => exact ⟨i + 1, t + 1, by omega, by omega, rfl, by first | rfl | go_num, hK2, hO4⟩
    · obtain rfl : i = m := by omega
      have s2 : ¬ (i : Int) < (i : Int) := by omega
      have hO5 : wr.ownsRow z 9 1 (.slice vb t vbcap) t (wds (L.filter p)) := by
        have h := own_base hO (show z ≤ w1.heap.size by rw [HZ.out]; exact hK0.out.size)
        rwa [HM.out, List.take_length] at h
      obtain ⟨htl, _⟩ := wds_own hO5
      subst htl
      have hK5 := hK0.out.trans hK
      clear hO hK
      go_wp2_with fail
      go_ret
      exact ⟨_, rfl, by rw [← HZ.out]; exact hO5, hK5⟩
end Go.Proofs.Ytjcgplocifmolaa
