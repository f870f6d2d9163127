/-
  Package mark: inOrder, shorter, longer.
-/
import Derived.Test.YtjcgplocifmolaaMc
import Derived.Test.YtjcgplocifmolaaSf
import Derived.Test.YtjcgplocifmolaaSg
import Derived.RegionTactic
import Derived.BigRegion
import Derived.Deep.AppendLies
import Derived.Laws.AppendOwnNone
import Derived.Sort.OwnSorted
import Derived.Lib.OwnBridge
import Derived.Shelf.SortM.SortNone
namespace Go.Proofs.Ytjcgplocifmolaa
open Go.RowKit Go.Deep Go.Sort

theorem wds_enc (L : List Wd) : wds L = L.map encStr := rfl
def OrdPost (base : Nat) (w : World) (L : List Wd) (e : Ending) (w' : World) : Prop :=
  ∃ v, e = .returned v ∧ w'.ownsRow base 9 1 v (srt L).length (wds (srt L)) ∧ KeptX (fun k => base ≤ k) w w'
theorem since_X {B : Nat} {w w' : World} (h : Below B w w') : KeptX (fun k => B ≤ k) w w' :=
  ⟨h.os, h.tape, h.output, h.size, fun k hk hs => h.block k (by omega)⟩
theorem ord_end {w : World} {base g cap nn q : Nat} {os : Array Obj} {L : List Wd} (hown : w.ownsRow base 9 1 (.slice (some ⟨g, 0, none⟩) L.length cap) L.length (wds L)) (hbg : base ≤ g) :
    OrdPost base w L (.returned (.slice (some ⟨g, 0, none⟩) (srt L).length cap))
      (putRow encStr (Sort.ahead (grow (putRow encStr (Sort.ahead w nn) g 0 (L.mergeSort fun x y => decide (x ≤ y)).toArray) os) q) g 0 (srt L ++ List.replicate (L.length - (srt L).length) []).toArray) := by
  have hl2 : (L.mergeSort fun x y => decide (x ≤ y)).length = L.length := List.length_mergeSort L
  have hle : (srt L).length ≤ L.length := by have := Lib.compact_length_le (L.mergeSort fun x y => decide (x ≤ y)); unfold srt; omega
  rcases hown.2 with ⟨h0, _⟩ | ⟨g', cap', cur, hv, hbase, hb, h1, h2, h3, h4⟩
  · cases h0
  cases hv
  have hs := ownsRow_sorted (n := nn) (os := os) (ts := L.mergeSort fun x y => decide (x ≤ y)) (ss := L) hl2 hbase hb h1 h2 h3
  have hc := Lib.ownsRow_putRow (q := q) (k := (srt L).length) (ys := srt L ++ List.replicate (L.length - (srt L).length) []) hs (by simp; omega) (by omega)
  rw [List.take_left] at hc
  refine ⟨_, rfl, hc, ?_⟩
  refine KeptX.trans (b := grow (putRow encStr (Sort.ahead w nn) g 0 (L.mergeSort fun x y => decide (x ≤ y)).toArray) os) ?_ ?_
  · exact (KeptX.refl _ w).grown (grownBy_sorted _) (fun k hk => .inl (by cases hk; exact hbg))
  · refine ⟨rfl, rfl, rfl, by simp [putRow, mapBlock, Sort.ahead], fun k hk hs => ?_⟩
    simp [putRow, mapBlock, Sort.ahead, Array.getElem?_modify, show g ≠ k by omega]
set_option maxRecDepth 100000 in
set_option maxHeartbeats 4000000 in
theorem inOrder_any (w : World) (base n : Nat) (v : Value) (L : List Wd) (hO : w.ownsRow base 9 1 v n (wds L)) (hn : n ≤ 1000000) :
    Calls Try.prog 77 #[v] w (OrdPost base w L) := by
  have hl : L.length = n := by have := hO.1; rw [wds_len] at this; omega
  by_cases h0 : v = .slice none 0 0
  · subst h0
    have hL : L = [] := by
      rcases hO.2 with ⟨_, h⟩ | ⟨g, cap, cur, h, _⟩
      · exact List.length_eq_zero_iff.1 (by omega)
      · cases h
    subst hL
    have hsn : srt [] = [] := by simp [srt, Lib.compact, Lib.compactUpTo]
    have hp := Lib.hid (show OrdPost base w [] (.returned (.slice none 0 0)) w by unfold OrdPost; rw [hsn]; exact ⟨_, rfl, ⟨rfl, .inl ⟨rfl, rfl⟩⟩, KeptX.refl _ w⟩)
    clear hO hl
    go_enter Try.func77, Try.ntmps77
    go_wp2_with (first | (go_at_call 90; refine (AnyM.slices_Sort_string_none Try.laysSort none 0 _).mono ?_; rintro e w1 ⟨rfl, rfl⟩) | (go_at_call 91; refine (AnyG.slices_Compact_string_empty Try.laysCompact none 0 _).mono ?_; rintro e w1 ⟨rfl, rfl⟩))
    go_ret
    exact hp.out
  · obtain ⟨g, cap, rfl, hbg, hgl, hncap, hcm, hlen, hH⟩ := Lib.holds_of_ownsRow (enc := encStr) (zs := L) hO h0
    subst hlen
    have hsort := Lib.hid (AnyM.slices_Sort_string Try.laysSort g 0 cap L w hH hgl (by omega))
    have X := Lib.hid (show w.ownsRow base 9 1 (.slice (some ⟨g, 0, none⟩) L.length cap) L.length (wds L) ∧ base ≤ g ∧ g < w.heap.size ∧ L.length ≤ cap ∧ Holds encStr w g 0 L.toArray ∧ L.length ≤ 1000000 from ⟨hO, hbg, hgl, hncap, hH, hn⟩)
    clear hO hbg hgl hncap hcm hH hn hl h0
    obtain ⟨m, HM⟩ : ∃ m, Hid (m = L.length) := ⟨_, rfl⟩
    have hsort2 : Hid (∀ (W : World), Hid (W = w) → Calls Try.prog 90 #[.slice (some ⟨g, 0, none⟩) m cap] W fun e w' => e = .returned (.tuple #[]) ∧ ∃ n os, w' = grow (putRow encStr (Sort.ahead w n) g 0 (L.mergeSort fun x y => decide (x ≤ y)).toArray) os) := fun W hW => by
      rw [hW.out, HM.out]; exact hsort.out
    have hcomp2 : Hid (∀ (W : World), Hid (∃ n os, W = grow (putRow encStr (Sort.ahead w n) g 0 (L.mergeSort fun x y => decide (x ≤ y)).toArray) os) → Calls Try.prog 91 #[.slice (some ⟨g, 0, none⟩) m cap] W (OrdPost base w L)) := fun W hW => by
      obtain ⟨nn, os, rfl⟩ := hW.out
      have hl2 : (L.mergeSort fun x y => decide (x ≤ y)).length = L.length := List.length_mergeSort L
      have hH2 : Holds encStr (grow (putRow encStr (Sort.ahead w nn) g 0 (L.mergeSort fun x y => decide (x ≤ y)).toArray) os) g 0 (L.mergeSort fun x y => decide (x ≤ y)).toArray :=
        holds_grow encStr _ os g 0 _ (by simpa [putRow, mapBlock, Sort.ahead] using X.out.2.2.1) (holds_putRow encStr _ g 0 _ _ (holds_ahead encStr w nn g 0 _ X.out.2.2.2.2.1) (by simp))
      have hc := AnyG.slices_Compact_string Try.laysCompact g 0 cap (L.mergeSort fun x y => decide (x ≤ y)) _ hH2 (by have := X.out.2.2.2.2.2; omega) (by have := X.out.2.2.2.1; omega)
      rw [hl2] at hc
      rw [HM.out]
      refine Calls.mono (show Calls Try.prog 91 _ _ _ from hc) ?_
      rintro e w' ⟨rfl, q, rfl⟩
      exact ord_end X.out.1 X.out.2.1
    rw [← HM.out]
    clear hsort X
    unfold OrdPost at hcomp2 ⊢
    go_enter Try.func77, Try.ntmps77
    go_wp2_with (first | (go_at_call 90; refine (hsort2.out _ (Lib.hid rfl)).mono ?_; rintro e w1 ⟨rfl, hw1⟩; have HW1 := Lib.hid hw1; clear hw1) | (go_at_call 91; refine (hcomp2.out _ HW1).mono ?_; rintro e w2 ⟨v, rfl, hres⟩; have HR := Lib.hid hres; clear hres))
    go_ret
    exact ⟨v, rfl, HR.out⟩

theorem joinB2 (w : World) (b : Nat) (X Y : ByteArray) (h0 : w.cell? ⟨b, 0, none⟩ = some (.string X)) (h1 : w.cell? ⟨b, 1, none⟩ = some (.string Y)) (hs : X.size + Y.size ≤ 1000000) :
    Calls Try.prog 65 #[.slice (some ⟨b, 0, none⟩) 2 2] w fun e w' => e = .returned (.string (X ++ Y)) ∧ w = w' := by
  have h := joined_any w b 2 2 [wd X, wd Y] rfl (by omega) (fun i hi => by
    rcases (by omega : i = 0 ∨ i = 1) with rfl | rfl
    · rw [h0]; show _ = some (Value.string (bs (wd X))); rw [bs_wd]
    · rw [h1]; show _ = some (Value.string (bs (wd Y))); rw [bs_wd]) (by simp [wd_len]; omega)
  have e : bs [wd X, wd Y].flatten = X ++ Y := by
    simp only [List.flatten_cons, List.flatten_nil, List.append_nil]
    rw [← bs_append, bs_wd, bs_wd]
  rw [e] at h
  exact h
theorem joinB3 (w : World) (b : Nat) (X Y Z : ByteArray) (h0 : w.cell? ⟨b, 0, none⟩ = some (.string X)) (h1 : w.cell? ⟨b, 1, none⟩ = some (.string Y)) (h2 : w.cell? ⟨b, 2, none⟩ = some (.string Z)) (hs : X.size + Y.size + Z.size ≤ 1000000) :
    Calls Try.prog 65 #[.slice (some ⟨b, 0, none⟩) 3 3] w fun e w' => e = .returned (.string (X ++ Y ++ Z)) ∧ w = w' := by
  have h := joined_any w b 3 3 [wd X, wd Y, wd Z] rfl (by omega) (fun i hi => by
    rcases (by omega : i = 0 ∨ i = 1 ∨ i = 2) with rfl | rfl | rfl
    · rw [h0]; show _ = some (Value.string (bs (wd X))); rw [bs_wd]
    · rw [h1]; show _ = some (Value.string (bs (wd Y))); rw [bs_wd]
    · rw [h2]; show _ = some (Value.string (bs (wd Z))); rw [bs_wd]) (by simp [wd_len]; omega)
  have e : bs [wd X, wd Y, wd Z].flatten = X ++ Y ++ Z := by
    simp only [List.flatten_cons, List.flatten_nil, List.append_nil]
    rw [← bs_append, ← bs_append, bs_wd, bs_wd, bs_wd, ByteArray.append_assoc]
  rw [e] at h
  exact h
theorem sbox2 (w : World) (a b : Value) (t : TypeId) : (w.alloc (.cells #[a, b] t)).cell? ⟨w.heap.size, 0, none⟩ = some a ∧ (w.alloc (.cells #[a, b] t)).cell? ⟨w.heap.size, 1, none⟩ = some b := by
  constructor <;> (unfold World.cell?; dsimp only; rw [blk_alloc_new]; rfl)
theorem sbox3 (w : World) (a b c : Value) (t : TypeId) : (w.alloc (.cells #[a, b, c] t)).cell? ⟨w.heap.size, 0, none⟩ = some a ∧ (w.alloc (.cells #[a, b, c] t)).cell? ⟨w.heap.size, 1, none⟩ = some b ∧ (w.alloc (.cells #[a, b, c] t)).cell? ⟨w.heap.size, 2, none⟩ = some c := by
  refine ⟨?_, ?_, ?_⟩ <;> (unfold World.cell?; dsimp only; rw [blk_alloc_new]; rfl)
theorem heap_new2 (w : World) (o o2 : Obj) : ((w.alloc o).alloc o2).heap[w.heap.size + 1]? = some o2 := by
  have h := heap_alloc_new (w.alloc o) o2
  rw [World.size_alloc] at h
  exact h
theorem Try.info9 : (Try.prog.info? 9).map (fun i => (i.zero, i.size, i.bytes)) = some (some (.string ⟨#[]⟩), 1, 16) := by kernel_rfl
theorem own_shape {w : World} {base e size : Nat} {v : Value} {n : Nat} {xs : List Value} (h : w.ownsRow base e size v n xs) : ∃ a cap, v = .slice a n cap := by
  rcases h.2 with ⟨rfl, rfl⟩ | ⟨g, cap, cur, rfl, _⟩
  · exact ⟨none, 0, rfl⟩
  · exact ⟨_, cap, rfl⟩
theorem own_none (W : World) (base : Nat) (t : TypeId) (s : Nat) : W.ownsRow base t s (.slice none 0 0) 0 [] := ⟨by simp, .inl ⟨rfl, rfl⟩⟩
theorem dels_take {l : Wd} {i : Nat} (h : i < l.length) : (dels l).take (i + 1) = (dels l).take i ++ [del l i] := by
  have h2 : i < (dels l).length := by simpa [dels] using h
  rw [List.take_succ_eq_append_getElem h2]
  simp [dels]
def SrtPost (w : World) (L : List Wd) (e : Ending) (w' : World) : Prop := ∃ v, e = .returned v ∧ w'.ownsRow w.heap.size 9 1 v (srt L).length (wds (srt L)) ∧ Kept w w'
set_option maxRecDepth 100000 in
set_option maxHeartbeats 4000000 in
theorem shorter_any (w : World) (l : Wd) (hl : l.length ≤ 1000) :
    Calls Try.prog 57 #[.string (bs l)] w (SrtPost w (dels l)) := by
  obtain ⟨i0, hi0, hz0, hz1, hz2⟩ := info_parts Try.info9
  obtain ⟨n, HN⟩ : ∃ n, Hid (n = l.length) := ⟨_, rfl⟩
  obtain ⟨s, HSS⟩ : ∃ s : ByteArray, Hid (s = bs l) := ⟨bs l, Lib.hid rfl⟩
  have hsz : s.size = n := by rw [HSS.out, HN.out]; exact bs_size l
  have hO0 : w.ownsRow w.heap.size 9 1 (.slice none 0 0) 0 (wds ((dels l).take 0)) := own_none w _ _ _
  have IO := Lib.hid (fun (W : World) (v : Value) (m : Nat) (hO : W.ownsRow w.heap.size 9 1 v m (wds (dels l))) (hm : m ≤ 1000000) => inOrder_any W w.heap.size m v (dels l) hO hm)
  rw [← HN.out] at hl
  rw [← HSS.out]
  go_enter Try.func57, Try.ntmps57
  go_wp2_with fail
  go_loopg [3, 7] n (fun g s3 s7 wr => ∃ i : Nat, i ≤ n ∧ g = n - i ∧ s7 = .int .i64 i ∧ Kept w wr ∧ wr.ownsRow w.heap.size 9 1 s3 i (wds ((dels l).take i)))
  case atStart => exact ⟨0, Nat.zero_le _, rfl, rfl, Kept.refl _, hO0⟩
  case round =>
    obtain ⟨i, hi, rfl, rfl, hK, hO⟩ := hrel
    clear hO0
    obtain ⟨va, vcap, rfl⟩ := own_shape hO
    by_cases hlt : i < n
    · have s2 : (i : Int) < (n : Int) := by omega
      have s3 : (0 : Int) ≤ (i : Int) := by omega
      have hwr : IntKind.i64.wrap ((i : Int) + 1) = (i : Int) + 1 := IntWalk.i64_in _ (by omega)
      have s4 : (0 : Int) ≤ (i : Int) + 1 := by omega
      have s5 : (i : Int) + 1 ≤ (n : Int) := by omega
      have s6 : (i : Int) ≤ (n : Int) := by omega
      have et : ((i : Int) + 1).toNat = i + 1 := by omega
      have hsw := hK.size
      have hiL : i < l.length := by rw [← HN.out]; exact hlt
      have hsn : Hid (wds ((dels l).take (i + 1)) = wds ((dels l).take i) ++ [.string (s.extract 0 i ++ s.extract (i + 1) n)]) := by
        show _ = _
        rw [dels_take hiL, wds_snoc, HSS.out, HN.out, bs_extract, bs_extract, bs_append]
        congr 4
        unfold del
        rw [List.drop_zero, Nat.sub_zero, List.take_of_length_le (l := l.drop (i + 1)) (by simp)]
      obtain ⟨Lv, HLv⟩ : ∃ Lv, Hid (Lv = wds ((dels l).take i)) := ⟨_, rfl⟩
      rw [← HLv.out] at hsn hO
      have hs1 : (s.extract 0 i).size = i := by rw [ByteArray.size_extract]; omega
      have hs2 : (s.extract (i + 1) n).size = n - (i + 1) := by rw [ByteArray.size_extract]; omega
      have b0 := (sbox2 wr (.string (s.extract 0 i)) (.string (s.extract (i + 1) n)) 9).1
      have b1 := (sbox2 wr (.string (s.extract 0 i)) (.string (s.extract (i + 1) n)) 9).2
      go_wp2_with fail
      go_region_law (first
        | (refine step_append_lies _ (by rfl) _ _ _ (by rfl) w.heap.size 9 i0 (.string ⟨#[]⟩) 1 16 Try.underlying26 hi0 hz0 hz1 hz2 rfl (by omega) (.slice va i vcap) i Lv (by rfl) (((hO.alloc _).alloc _).drew) ⟨wr.heap.size + 1, 0, none⟩ 1 1 [.string (s.extract 0 i ++ s.extract (i + 1) n)] (by rfl) (by rfl) (World.news_of_block (cs := #[.string (s.extract 0 i ++ s.extract (i + 1) n)]) (t := 9) (fr := (0, 0)) (heap_new2 wr _ _)) (by simp [Value.oneCell']) (by omega) (by unfold maxLen; omega) (by omega) (by simp; omega) (wr.heap.size + 2) (by simp) ?_; intro g gcap w2 hO3 hgr hgl hgs)
        | (rw [if_pos (by rfl)]; go_simp; go_at_call 65; refine (joinB2 _ _ (s.extract 0 i) (s.extract (i + 1) n) (by (try simp only [World.cell?_drew]); exact b0) (by (try simp only [World.cell?_drew]); exact b1) (by omega)).mono ?_; rintro e w5 ⟨rfl, rfl⟩; (try dsimp only)))
      have hK9 : Kept w w2 := (((hK.alloc _).alloc _).drew).step (grew_X hgr (((hO.alloc _).alloc _).drew)) (fun i hi => hi)
      have hO4 : w2.ownsRow w.heap.size 9 1 (.slice (some ⟨g, 0, none⟩) (i + 1) gcap) (i + 1) (wds ((dels l).take (i + 1))) := by
        rw [hsn.out]; exact hO3
      clear hO3 hgr hO
      go_wp2_with fail
      go_roundg (n - (i + 1))
      case measure => omega
      case rel => exact ⟨i + 1, by omega, rfl, by first | rfl | go_num, hK9, hO4⟩
    · obtain rfl : i = n := by omega
      have s2 : ¬ (i : Int) < (i : Int) := by omega
      have hO5 : wr.ownsRow w.heap.size 9 1 (.slice va i vcap) i (wds (dels l)) := by
        have h : (dels l).take i = dels l := List.take_of_length_le (by rw [HN.out]; simp [dels])
        rwa [h] at hO
      have IO2 := Lib.hid (IO.out _ _ _ hO5 (by omega))
      unfold OrdPost at IO2
      unfold SrtPost
      clear hO5 hO IO
      go_wp2_with (first | (go_at_call 77; refine IO2.out.mono ?_; rintro e w1 ⟨v1, rfl, hO1, hk1⟩))
      go_ret
      exact ⟨v1, rfl, hO1, hK.step hk1 (fun i hi => hi)⟩
end Go.Proofs.Ytjcgplocifmolaa
