/-
  Package herd: pairs.
-/
import Derived.Test.YtlnlddnjalfamaaGreatDoorHg
import Derived.Laws.OwnMore
namespace Go.Proofs.YtlnlddnjalfamaaGreatDoor
open Go.RowKit Go.Deep

theorem Tryz.infoPair : (Tryz.prog.info? 94).map (fun i => (i.zero, i.size, i.bytes)) = some (some (.agg #[.int .i64 0, .int .i64 0]), 2, 16) := by kernel_rfl
theorem own_keptY {S : Nat → Prop} {w w' : World} {base e size : Nat} {v : Value} {n : Nat} {xs : List Value} (h : w.ownsRow base e size v n xs) (k : KeptX S w w') (hS : ∀ b c f, w.heap[b]? = some (.cells c e f) → base ≤ b → ¬ S b) : w'.ownsRow base e size v n xs := by
  obtain ⟨h1, h⟩ := h
  refine ⟨h1, ?_⟩
  rcases h with h | ⟨g, cap, cur, e1, e2, e3, rest⟩
  · exact .inl h
  · have hlt : g < w.heap.size := (Array.getElem?_eq_some_iff.1 e3).1
    exact .inr ⟨g, cap, cur, e1, e2, (k.block g hlt (hS g _ _ e3 e2)).trans e3, rest⟩
/-- an append to a row of another type leaves a row as it is -/
theorem own_grow {w w' : World} {base lo T e size size2 : Nat} {u v : Value} {n k : Nat} {xs ys : List Value} (h : w.ownsRow lo e size2 u n ys) (ho : w.ownsRow base T size v k xs) (hT : T ≠ e) (hg : w.grownBy w' v.ownBlock) : w'.ownsRow lo e size2 u n ys := by
  refine own_keptY h ((KeptX.refl (fun b => v.ownBlock = some b) w).grown hg (fun b hb => Or.inl hb)) (fun b c f hb _ hS => ?_)
  rcases ho.2 with ⟨h1, _⟩ | ⟨g', cap', cur', h1, _, h3, _⟩
  · subst h1; cases hS
  · subst h1
    have e1 : g' = b := by simpa [Value.ownBlock] using hS
    subst e1
    rw [hb] at h3
    injection h3 with h3
    injection h3 with _ h3
    exact hT h3.symm
theorem take_snoc {l : List Nat} {j : Nat} (h : j < l.length) : l.take (j + 1) = l.take j ++ [l.getD j 0] := by
  rw [List.take_add_one, List.getD_eq_getElem?_getD, List.getElem?_eq_getElem h]
  rfl
/-- a list of pairs in memory -/
def prs (l : List (Nat × Nat)) : List Value := l.flatMap fun p => [.int .i64 (p.1 : Int), .int .i64 (p.2 : Int)]
theorem prs_len (l : List (Nat × Nat)) : (prs l).length = l.length * 2 := by
  induction l with
  | nil => rfl
  | cons p l ih => simp only [prs, List.flatMap_cons, List.length_append, List.length_cons, List.length_nil]; simp only [prs] at ih; omega
theorem prs_snoc (l : List (Nat × Nat)) (p : Nat × Nat) : prs (l ++ [p]) = prs l ++ [.int .i64 (p.1 : Int), .int .i64 (p.2 : Int)] := by simp [prs]
theorem prs_get (l : List (Nat × Nat)) : ∀ i, i < l.length → (prs l)[i * 2]? = some (.int .i64 (((l.getD i (0, 0)).1 : Nat) : Int)) ∧ (prs l)[i * 2 + 1]? = some (.int .i64 (((l.getD i (0, 0)).2 : Nat) : Int)) := by
  induction l with
  | nil => intro i hi; simp at hi
  | cons p l ih =>
    intro i hi
    have e : prs (p :: l) = .int .i64 (p.1 : Int) :: .int .i64 (p.2 : Int) :: prs l := rfl
    rw [e]
    cases i with
    | zero => exact ⟨rfl, rfl⟩
    | succ i =>
      have := ih i (by simpa using hi)
      rw [show (i + 1) * 2 = i * 2 + 1 + 1 by omega, show i * 2 + 1 + 1 + 1 = (i * 2 + 1) + 1 + 1 by omega]
      simp only [List.getElem?_cons_succ, List.getD_cons_succ]
      exact this
/-- v is this list of pairs -/
def PrsAt (w : World) (v : Value) (l : List (Nat × Nat)) : Prop := PairsAt w v l.length (fun i => (((l.getD i (0, 0)).1 : Nat) : Int)) (fun i => (((l.getD i (0, 0)).2 : Nat) : Int))
theorem PrsAt.of_own {w : World} {base : Nat} {v : Value} {l : List (Nat × Nat)} (h : w.ownsRow base 94 2 v l.length (prs l)) : PrsAt w v l := by
  obtain ⟨hl, h0⟩ := h
  rcases h0 with ⟨rfl, h1⟩ | ⟨g, cap, cur, rfl, h2⟩
  · exact ⟨none, 0, 0, 0, by rw [h1], fun h => by omega, fun i hi => by omega⟩
  · have h : w.ownsRow base 94 2 (.slice (some ⟨g, 0, none⟩) l.length cap) l.length (prs l) := ⟨hl, .inr ⟨g, cap, cur, rfl, h2⟩⟩
    refine ⟨_, g, 0, cap, rfl, fun _ => rfl, fun i hi => ?_⟩
    obtain ⟨e1, e2⟩ := prs_get l i hi
    exact ⟨by rw [Nat.zero_add, h.cellAt _ (by omega), e1], by rw [Nat.zero_add, h.cellAt _ (by omega), e2]⟩
/-- the pairs of a herd, in order: those of the first k horses -/
def pairsH (H : Nat → Nat) (k : Nat) : List (Nat × Nat) := (List.range k).flatMap fun i => (horsesL (aft (H i) i) 9).map fun j => (i, j)
theorem pairsH_succ (H : Nat → Nat) (k : Nat) : pairsH H (k + 1) = pairsH H k ++ (horsesL (aft (H k) k) 9).map fun j => (k, j) := by
  unfold pairsH
  rw [List.range_succ, List.flatMap_append]
  simp
theorem pairsH_len (H : Nat → Nat) (k : Nat) : (pairsH H k).length ≤ k * 9 := by
  induction k with
  | zero => exact Nat.le_refl _
  | succ k ih =>
    rw [pairsH_succ, List.length_append, List.length_map, horsesL_len]
    have := cnt_le (fun i => (aft (H k) k).testBit i) 9
    omega
def PairsPost (w : World) (l : List (Nat × Nat)) (e : Ending) (w' : World) : Prop := ∃ v, e = .returned v ∧ w'.ownsRow w.heap.size 94 2 v l.length (prs l) ∧ Kept w w'
set_option maxRecDepth 100000 in
set_option maxHeartbeats 4000000 in
theorem pairs_any (w : World) (hv : Value) (n : Nat) (H : Nat → Nat) (hS : SetsAt w hv n H) (hH : ∀ i, i < n → H i < 65536) (hn : n ≤ 14) :
    Calls Tryz.prog 68 #[hv] w (PairsPost w (pairsH H n)) := by
  obtain ⟨a, b, o, cap, rfl, ha, hc⟩ := hS
  obtain ⟨i1, hi, hz0, hz1, hz2⟩ := info_parts Tryz.infoPair
  have HC := Lib.hid hc
  have HH := Lib.hid hH
  clear hc hH
  go_enter Tryz.func68, Tryz.ntmps68
  go_wp2_with fail
  go_loopg [3, 10] n (fun g s3 s10 wr => ∃ k : Nat, k ≤ n ∧ g = n - k ∧ s10 = .int .i64 k ∧ Kept w wr ∧ wr.ownsRow w.heap.size 94 2 s3 (pairsH H k).length (prs (pairsH H k)))
  case atStart => exact ⟨0, Nat.zero_le _, rfl, rfl, Kept.refl w, World.ownsRow_nil _ _ _ _⟩
  case round =>
    obtain ⟨k, hk, rfl, rfl, hK, hO⟩ := hrel
    by_cases hlt : k < n
    · obtain rfl := ha (by omega)
      have t0 := hK.cellSome (HC.out k hlt)
      simp only [setV] at t0
      have hh := HH.out k hlt
      have s1 : (k : Int) < (n : Int) := by omega
      have s2 : (0 : Int) ≤ (k : Int) := by omega
      have hsz := hK.size
      have hplen := pairsH_len H k
      obtain ⟨s, HS⟩ : ∃ s, Hid (s = H k) := ⟨_, rfl⟩
      have hps := Lib.hid (pairsH_succ H k)
      rw [← HS.out] at t0 hh hps
      have AF := Lib.hid (fun W => after_any W s k hh (by omega))
      have haf : aft s k < 65536 := Nat.lt_of_le_of_lt (aft_le _ _) hh
      obtain ⟨q, HQ⟩ : ∃ q, Hid (q = aft s k) := ⟨_, rfl⟩
      rw [← HQ.out] at AF haf hps
      have HO := Lib.hid (fun W => horses_any W q haf)
      obtain ⟨l, HLL⟩ : ∃ l, Hid (l = horsesL q 9) := ⟨_, rfl⟩
      rw [← HLL.out] at HO hps
      obtain ⟨len, HLN⟩ : ∃ len, Hid (len = l.length) := ⟨_, rfl⟩
      have hlen : len ≤ 9 := by rw [HLN.out, HLL.out, horsesL_len]; exact cnt_le _ _
      clear HS HQ HLL
      obtain ⟨va, vcap, rfl⟩ := own_shape hO
      go_wp2_with (first | (go_at_call 98; refine (AF.out _).mono ?_; rintro e w2 ⟨rfl, rfl⟩) | (go_at_call 43; refine (HO.out _).mono ?_; rintro e w4 ⟨v4, rfl, hO4, hk4⟩))
      have hO5 := own_kept hO hk4
      have hK5 := hK.trans hk4
      have hsz5 := hK5.size
      clear hO hK AF HO hk4
      obtain ⟨la, lcap, rfl⟩ := own_shape hO4
      rw [← HLN.out] at hO4 ⊢
      obtain ⟨B4, HB4⟩ : ∃ B4, Hid (B4 = wr.heap.size) := ⟨_, rfl⟩
      rw [← HB4.out] at hO4
      have hO6 : w4.ownsRow w.heap.size 94 2 (.slice va (pairsH H k).length vcap) (pairsH H k ++ (l.take 0).map fun j => (k, j)).length (prs (pairsH H k ++ (l.take 0).map fun j => (k, j))) := by simpa using hO5
      clear hO5
      go_simp
      go_wp2_with fail
      go_loopg [3, 20] len (fun g s3 s20 wi => ∃ j : Nat, j ≤ len ∧ g = len - j ∧ s20 = .int .i64 j ∧ Kept w wi ∧ wi.ownsRow B4 3 1 (.slice la len lcap) len (nats l) ∧ wi.ownsRow w.heap.size 94 2 s3 (pairsH H k ++ (l.take j).map fun j => (k, j)).length (prs (pairsH H k ++ (l.take j).map fun j => (k, j))))
      case atStart => exact ⟨0, Nat.zero_le _, rfl, rfl, hK5, hO4, hO6⟩
      case round =>
        clear hO4 hO6 hK5
        obtain ⟨j, hj, rfl, rfl, hK, hO4, hO⟩ := hrel
        have hsz := hK.size
        by_cases hlt2 : j < len
        · have hjl : j < l.length := by rw [← HLN.out]; exact hlt2
          have hN := hO4
          rw [HLN.out] at hN
          obtain ⟨_, lb, lo, _, e, hla, hlc⟩ := NatsAt.of_own hN
          cases e
          obtain rfl := hla (by omega)
          have y0 : wr.cell? ⟨lb, lo + j, none⟩ = some (.int .i64 ((l.getD j 0 : Nat) : Int)) := hlc j hjl
          have hts := Lib.hid (take_snoc hjl)
          obtain ⟨x, HX⟩ : ∃ x, Hid (x = l.getD j 0) := ⟨_, rfl⟩
          rw [← HX.out] at y0 hts
          have z1 : (j : Int) < (len : Int) := by omega
          have z2 : (0 : Int) ≤ (j : Int) := by omega
          have hpl : (pairsH H k ++ (l.take j).map fun j => (k, j)).length ≤ k * 9 + 9 := by
            rw [List.length_append, List.length_map, List.length_take]
            omega
          obtain ⟨pl, HPL⟩ : ∃ pl, Hid (pl = pairsH H k ++ (l.take j).map fun j => (k, j)) := ⟨_, rfl⟩
          have hnext : Hid (pairsH H k ++ (l.take (j + 1)).map (fun j => (k, j)) = pl ++ [(k, x)]) := by
            show _ = _
            rw [hts.out, HPL.out]
            simp
          rw [← HPL.out] at hO hpl
          obtain ⟨va, vcap, rfl⟩ := own_shape hO
          clear hN hlc HX HPL hts
          go_wp2_with (first | (at_builtin; refine wpList_append_own _ rfl _ _ 22 rfl w.heap.size 94 i1 (.agg #[.int .i64 0, .int .i64 0]) 2 16 Tryz.underlying22 hi hz0 hz1 hz2 rfl (by decide) _ _ _ rfl (hO.alloc _) ⟨_, 0, none⟩ 1 1 [.int .i64 (k : Int), .int .i64 (x : Int)] rfl rfl ?c1 ?c2 ?c3 ?c4 ?c5 ?_))
          case c2 => simp [Value.oneCell']
          case c3 => unfold maxLen; omega
          case c4 => omega
          case c5 => first | omega | (simp; omega)
          intro v' w2 hO3 hgr _
          have hX2 := grew_X hgr (hO.alloc (.cells #[.int .i64 (k : Int), .int .i64 (x : Int)] 94))
          have hK2 : Kept w w2 := (hK.alloc _).step hX2 (fun i hi => hi)
          have hO42 : w2.ownsRow B4 3 1 (.slice (some ⟨lb, lo, none⟩) len lcap) len (nats l) := own_grow (hO4.alloc _) (hO.alloc _) (by decide) hgr
          have hO5 : w2.ownsRow w.heap.size 94 2 v' (pairsH H k ++ (l.take (j + 1)).map fun j => (k, j)).length (prs (pairsH H k ++ (l.take (j + 1)).map fun j => (k, j))) := by
            rw [hnext.out, prs_snoc]
            simpa using hO3
          clear hO3 hX2 hgr hK hO hO4
          go_wp2_with fail
          go_roundg (len - (j + 1))
          case measure => omega
          case rel => exact ⟨j + 1, by omega, rfl, by go_num, hK2, hO42, hO5⟩
        · obtain rfl : j = len := by omega
          have e : pairsH H k ++ (l.take j).map (fun j => (k, j)) = pairsH H (k + 1) := by
            rw [hps.out, HLN.out, List.take_length]
          rw [e] at hO
          go_wp2_with fail
          go_roundg (n - (k + 1))
          case measure => omega
          case rel => exact ⟨k + 1, by omega, rfl, by go_num, hK, hO⟩
    · obtain rfl : k = n := by omega
      go_wp2_with fail
      go_ret
      exact ⟨_, rfl, hO, hK⟩
end Go.Proofs.YtlnlddnjalfamaaGreatDoor
