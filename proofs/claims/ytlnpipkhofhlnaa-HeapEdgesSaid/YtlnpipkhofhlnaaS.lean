/-
  The program's matrices, more: part.
-/
import Derived.Test.YtlnpipkhofhlnaaR
import Derived.Test.YtlnpipkhofhlnaaN
import Derived.Deep.RegionLaw
import Derived.Deep.AppendLies
namespace Go.Proofs.Ytlnpipkhofhlnaa
open Go.RowKit Go.Deep

def PartPost (w : World) (k : Nat) (M : Nat → Nat → Int) (R C : Nat → Nat) (e : Ending) (w' : World) : Prop := ∃ v, e = .returned v ∧ Kept w w' ∧ MatRead w' v k (fun i j => M (R i) (C j))
set_option maxRecDepth 100000 in
set_option maxHeartbeats 2000000 in
theorem part_any (w : World) (v rv cv : Value) (n k : Nat) (M : Nat → Nat → Int) (R C : Nat → Nat) (hM : MatRead w v n M) (hn : n ≤ 1000) (hk : k ≤ 1000) (hR : IntsAt w rv k (fun i => (R i : Int))) (hC : IntsAt w cv k (fun i => (C i : Int))) (hRn : ∀ i, i < k → R i < n) (hCn : ∀ i, i < k → C i < n) :
    Calls Try.prog 76 #[v, rv, cv] w (PartPost w k M R C) := by
  obtain ⟨vs, ⟨la, lb, lo, lcap, rfl, hla, hlc⟩, hrows⟩ := hM
  obtain ⟨ra, rb, ro, rcap, rfl, hra, hrc⟩ := hR
  obtain ⟨ca, cb, co, ccap, rfl, hca, hcc⟩ := hC
  have hmk := fun W => mkMat (k : Int) k rfl (by omega) W
  obtain ⟨i0, hi, hz0, hz1, hz2⟩ := info_parts Try.info2
  go_enter Try.func76, Try.ntmps76
  go_wp2_with fail
  have ht0 := World.rowIs_made w (.slice none 0 0) k 97
  have hk0 : Kept w (w.alloc (.cells (madeCells #[.slice none 0 0] k) 97)) := (Kept.refl w).alloc _
  generalize w.alloc (.cells (madeCells #[.slice none 0 0] k) 97) = W0 at *
  clear hmk
  go_loopg [8, 9, 17] k (fun g s8 s9 i wr => ∃ (t : Nat) (us : Nat → Value), t ≤ k ∧ g = k - t ∧ i = .int .i64 t ∧ Kept w wr ∧ wr.rowIs w.heap.size 97 k (fun i => if i < t then us i else .slice none 0 0) ∧ ∀ s, s < t → wr.ownsRow (w.heap.size + 1) 2 1 (us s) k (intsL (fun j => M (R s) (C j)) k))
  case atStart => exact ⟨0, fun _ => undef, Nat.zero_le _, rfl, rfl, hk0, ht0.congr (fun i _ => by simp), fun i hi => absurd hi (by omega)⟩
  case round =>
    obtain ⟨t, us, htk, rfl, rfl, hK, hT, hV⟩ := hrel
    clear hk0 ht0
    by_cases hlt : t < k
    · have hwt : w.heap.size < wr.heap.size := hT.lt
      obtain rfl := hra (by omega)
      obtain rfl := hca (by omega)
      have x1 := hK.cellSome (hrc t hlt)
      obtain ⟨rt, HRT⟩ : ∃ rt, Hid (rt = R t) := ⟨_, rfl⟩
      rw [← HRT.out] at x1
      have hn0 : (t : Int) < (k : Int) := by omega
      obtain ⟨G, HG⟩ : ∃ G, Hid (G = wr.heap.size) := ⟨_, rfl⟩
      rw [← HG.out] at hwt
      obtain ⟨Wo, rfl⟩ : ∃ Wo : World, Wo = wr := ⟨_, rfl⟩
      go_wp2_with fail
      go_loopg [11, 24] k (fun q s11 i wi => ∃ (j : Nat) (v : Value), j ≤ k ∧ q = k - j ∧ i = .int .i64 j ∧ KeptX (fun k => k = w.heap.size ∨ G ≤ k) Wo wi ∧ wi.rowIs w.heap.size 97 k (fun i => if i < t then us i else if i = t then v else .slice none 0 0) ∧ wi.ownsRow G 2 1 v j (intsL (fun j => M (R t) (C j)) j))
      case atStart => exact ⟨0, .slice none 0 0, Nat.zero_le _, rfl, rfl, KeptX.refl _ _, hT.congr (fun i _ => by by_cases e : i < t <;> simp [e]), World.ownsRow_nil _ _ _ _⟩
      case round =>
        obtain ⟨j, v, hjn, rfl, rfl, hX, hTi, hO⟩ := hrel
        have hGs : G ≤ wr.heap.size := by rw [HG.out]; exact KeptX.size hX
        have hKi : Kept w wr := Kept.step hK hX (fun i hi => by have := Kept.size hK; have := HG.out; omega)
        by_cases hlt2 : j < k
        · obtain ⟨va, vcap, rfl⟩ := own_shape hO
          have t1 := hTi.cell hlt
          rw [if_neg (by omega), if_pos rfl] at t1
          have t1a : ∀ o, (wr.alloc o).cell? ⟨w.heap.size, t, none⟩ = some (.slice va j vcap) := fun o => ((Kept.refl wr).alloc o).cellSome t1
          have x2 := hKi.cellSome (hcc j hlt2)
          obtain rfl := hla (by have := hRn t hlt; omega)
          obtain ⟨sa, sb, so, scap, hvs, hsa, hsc⟩ := hrows (R t) (hRn t hlt)
          obtain rfl := hsa (by have := hRn t hlt; omega)
          have x3 := hKi.cellSome (hlc (R t) (hRn t hlt))
          rw [hvs] at x3
          have x4 := hKi.cellSome (hsc (C j) (hCn j hlt2))
          have b1 : ((R t : Nat) : Int) < (n : Int) := by have := hRn t hlt; omega
          have b2 : ((C j : Nat) : Int) < (n : Int) := by have := hCn j hlt2; omega
          obtain ⟨cj, HCJ⟩ : ∃ cj, Hid (cj = C j) := ⟨_, rfl⟩
          rw [← HRT.out] at x3 b1
          rw [← HCJ.out] at x2 x4 b2
          rw [← HRT.out] at x4
          go_wp2_with fail
          go_region_law ((refine step_append_lies _ (by rfl) _ _ _ (by rfl) G 2 i0 (.int .i64 0) 1 8 Try.underlying97 hi hz0 hz1 hz2 rfl (by omega) (.slice va j vcap) j (intsL (fun j => M (R t) (C j)) j) (by rfl) ((hO.alloc _).drew) ⟨wr.heap.size, 0, none⟩ 1 1 [.int .i64 (M rt cj)] (by rfl) (by rfl) (World.news_of_block (cs := #[.int .i64 (M rt cj)]) (t := 2) (fr := (0, 0)) (heap_alloc_new wr _)) (by simp [Value.oneCell']) (by omega) (by unfold maxLen; omega) (by omega) (by simp; omega) (wr.heap.size + 1) (by simp) ?_; intro g gcap w2 hO3 hgr hgl hgs; have hX3 := grew_X hgr ((hO.alloc _).drew); have hT3 := hX3.row ((hTi.alloc (.cells #[.int .i64 (M rt cj)] 2)).drew) (show ¬ G ≤ w.heap.size by omega); have u1 := hT3.cell hlt; rw [if_neg (by omega), if_pos rfl] at u1; have u2 := hT3.frozen t))
          all_goals
            have hX4 : KeptX (fun k => k = w.heap.size ∨ G ≤ k) Wo w2 := ((hX.alloc _).drew).trans (hX3.weaken (fun i hi => Or.inr hi))
            have hO4 : w2.ownsRow G 2 1 (.slice (some ⟨g, 0, none⟩) (j + 1) gcap) (j + 1) (intsL (fun j => M (R t) (C j)) (j + 1)) := by
              have e : intsL (fun j => M (R t) (C j)) (j + 1) = intsL (fun j => M (R t) (C j)) j ++ [.int .i64 (M rt cj)] := by
                unfold intsL; rw [List.range_succ, List.map_append, HRT.out, HCJ.out]; rfl
              rw [e]; exact hO3
            go_wp2_with fail
            go_roundg (k - (j + 1))
            case measure => omega
            case rel =>
              refine ⟨j + 1, .slice (some ⟨g, 0, none⟩) (j + 1) gcap, by omega, rfl, by go_num, hX4.setCell (p := ⟨w.heap.size, t, none⟩) (Or.inl (Or.inl rfl)) _, (hT3.set t _).congr (fun i hi => ?_), ?_⟩
              · by_cases e : i = t
                · subst e; simp
                · simp only [if_neg e]
              · exact ownsRow_setCell_below hO4 (a := ⟨w.heap.size, t, none⟩) hwt _
        · obtain rfl : j = k := by omega
          go_wp2_with fail
          go_roundg (j - (t + 1))
          case measure => omega
          case rel =>
            refine ⟨t + 1, fun i => if i = t then v else us i, by omega, rfl, by go_num, hKi, hTi.congr (fun i _ => ?_), fun s' hs' => ?_⟩
            · by_cases e : i = t
              · subst e; simp
              · simp only [if_neg e]
                by_cases h : i < t
                · rw [if_pos h, if_pos (by omega)]
                · rw [if_neg h, if_neg (by omega)]
            · by_cases e : s' = t
              · subst e; simp only [if_true]; exact own_base hO (by omega)
              · simp only [if_neg e]
                exact own_keptR (hV s' (by omega)) hX (fun b hb1 hb2 => by have := HG.out; omega)
    · obtain rfl : t = k := by omega
      go_wp2_with fail
      go_ret
      exact ⟨_, rfl, hK, us, CellsAt.of_row (hT.congr (fun i hi => by rw [if_pos hi])), fun i hi => (CellsAt.of_own (hV i hi)).congr (fun j hj => by rw [List.getD, intsL_get hj]; rfl)⟩
end Go.Proofs.Ytlnpipkhofhlnaa
