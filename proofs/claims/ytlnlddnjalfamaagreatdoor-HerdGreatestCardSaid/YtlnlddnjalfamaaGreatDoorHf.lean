/-
  Package herd: the groups, one after the other: grow, groups.
-/
import Derived.RangeFuncNested
import Derived.RangeFuncBound
import Derived.RangeFuncCalls
import Derived.RangeFuncLeaves
import Derived.Shelf.Abstract
import Derived.Shelf.RegionOpen
import Derived.WalkKit
import Derived.OwnWalkIn
import Derived.TacticsInMore
import Derived.LoopNIn
import Derived.LoopIn
import Derived.RegionIn
import Derived.Stop.RegionWithIn
import Derived.Sort.QuietIn
import Derived.Test.YtlnlddnjalfamaaGreatDoorHc
namespace Go.Proofs.YtlnlddnjalfamaaGreatDoor
open Go.RowKit Go.Deep Go.Shelf
attribute [local go_sem] Oper.semAt_some

theorem cliqTo_zero (H : Nat → Nat) (n f g nx : Nat) : cliqTo H n f g nx 0 = [] := rfl
def slotN : Value → Nat | .int _ q => q.toNat | _ => 0
/-- what a drawn region leaves is kept by J -/
def Drawn (J : List Nat → World → Prop) : Prop := ∀ s W, J s W → J s W.drew
def stepL (nx : Nat) (L : Nat → List Nat) (k : Nat) : List Nat := (List.range k).flatMap fun i => if nx.testBit i then L i else []
theorem stepL_succ (nx : Nat) (L : Nat → List Nat) (k : Nat) : stepL nx L (k + 1) = stepL nx L k ++ (if nx.testBit k then L k else []) := by
  unfold stepL
  rw [List.range_succ, List.flatMap_append]
  simp
theorem stepL_pre (nx : Nat) (L : Nat → List Nat) {k n : Nat} (h : k ≤ n) : stepL nx L k <+: stepL nx L n := by
  obtain ⟨d, rfl⟩ : ∃ d, n = k + d := ⟨n - k, by omega⟩
  clear h
  induction d with
  | zero => exact List.prefix_rfl
  | succ d ih => rw [show k + (d + 1) = k + d + 1 by omega, stepL_succ]; exact ih.trans (List.prefix_append _ _)
def GrowPost (n₀ : Nat) (J Jx : List Nat → World → Prop) (W : World) (pre L : List Nat) (e : Ending) (W' : World) : Prop :=
  (e = .returned (.bool true) ∧ J (pre ++ L) W' ∧ Below n₀ W W') ∨ (e = .returned (.bool false) ∧ ∃ q, q <+: L ∧ Jx (pre ++ q) W')
set_option maxRecDepth 100000 in
set_option maxHeartbeats 4000000 in
theorem grow_step (l n₀ n : Nat) (hn : n ≤ 14) (a : Option Addr) (b o cap : Nat) (ha : 0 < n → a = some ⟨b, o, none⟩) (H : Nat → Nat) (hH : ∀ i, i < n → H i < 65536) (hb : 0 < n → b < n₀) (N : Nat) (E : Nat → Nat) (J Jx : List Nat → World → Prop) (hJd : Drawn J)
    (hY : ∀ m pre x W, J pre W → pre.length < N → YieldAt Fence.wide m Tryz.prog l #[.int .u16 ((E x : Nat) : Int)] W fun e W' =>
      (e = .returned (.bool true) ∧ J (pre ++ [x]) W' ∧ Below n₀ W W') ∨ (e = .returned (.bool false) ∧ Jx (pre ++ [x]) W'))
    (m g nx : Nat) (pre : List Nat) (W : World) (hg : g < 65536) (hge : E g = g) (hx : nx < 65536) (hc : ∀ i, i < n → W.cell? ⟨b, o + i, none⟩ = some (.int .u16 ((H i : Nat) : Int))) (hJ : J pre W) (L : Nat → List Nat) (hN : pre.length + (g :: stepL nx L n).length ≤ N)
    (REC : ∀ i, i < n → nx.testBit i = true → ∀ (m : Nat) (pre : List Nat) (W : World), (∀ i, i < n → W.cell? ⟨b, o + i, none⟩ = some (.int .u16 ((H i : Nat) : Int))) → J pre W → pre.length + (L i).length ≤ N →
      CallsIn Fence.wide m Tryz.prog 76 #[.slice a n cap, .int .u16 ((g ||| 2 ^ i : Nat) : Int), .int .u16 ((aft nx i &&& H i : Nat) : Int), .func (.yield l) #[] #[]] W (GrowPost n₀ J Jx W pre (L i))) :
    CallsIn Fence.wide m Tryz.prog 76 #[.slice a n cap, .int .u16 g, .int .u16 nx, .func (.yield l) #[] #[]] W (GrowPost n₀ J Jx W pre (g :: stepL nx L n)) := by
  have hdd : ∀ k : Nat, (Fence.wide.depth.isSome = true → 1 ≤ k) := fun k h => by cases h
  obtain ⟨fn, tmps, assign, body, hy, hR⟩ := hY (m - 1) pre g W hJ (by simp at hN; omega)
  rw [hge] at hy
  have HREC := Lib.hid REC
  have HL := Lib.hid hN
  have HC := Lib.hid hc
  have HHH := Lib.hid hH
  clear REC hN hc hY hH
  refine callsIn_of_wp Tryz.func76 rfl trivial ?_ rfl
  simp only [Tryz.ntmps76, List.size_toArray, List.length_cons, List.length_nil, Nat.reduceAdd, Nat.reduceSub, Array.replicate_succ, Array.replicate_zero, List.push_toArray, List.append_toArray, List.nil_append, List.cons_append]
  gi_wp2_with (first
    | ((try refine ⟨hdd _, ?_⟩); refine hR.mono ?_; clear hR; rintro e W2 (⟨rfl, hJ2, hb2⟩ | ⟨rfl, hx2⟩)))
  · gi_loopw [17] (fun s17 wr => ∃ k : Nat, k ≤ n ∧ s17 = .int .i64 k ∧ J (pre ++ (g :: stepL nx L k)) wr ∧ Below n₀ W wr)
      (fun s17 wr => n - slotN s17)
    case atStart => exact ⟨0, Nat.zero_le _, rfl, hJ2, hb2⟩
    case round =>
      obtain ⟨k, hk, rfl, hJk, hbk⟩ := hrel
      by_cases hlt : k < n
      · obtain rfl := ha (by omega)
        have t0 := (hbk.cell (p := ⟨b, o + k, none⟩) (hb (by omega))).trans (HC.out k hlt)
        have s1 : (k : Int) < (n : Int) := by omega
        have s2 : (0 : Int) ≤ (k : Int) := by omega
        have HA := fun W => has_any W nx k hx (by omega)
        obtain ⟨tb, HTB⟩ : ∃ tb, Hid (tb = nx.testBit k) := ⟨_, rfl⟩
        rw [← HTB.out] at HA
        have hk65 := HHH.out k hlt
        obtain ⟨hv, HHV⟩ : ∃ hv, Hid (hv = H k) := ⟨_, rfl⟩
        have hl2 := Lib.hid (stepL_succ nx L k)
        rw [← HTB.out] at hl2
        cases tb with
        | false =>
          rw [← HHV.out] at t0
          gi_wp2_with fail
          refine wpIn_region_any (by kernel_rfl) ?_
          try (change wpAnyIn _ _ _ _ _ _ _ _ _ (World.drew _))
          refine wpAnyIn_take (i := 0) (v := ?_) rfl rfl (by kernel_rfl) (by kernel_rfl) (by kernel_rfl) (fun _ _ _ h => h) ⟨Or.inl ⟨by rfl, ?_⟩, fun _ => rfl⟩ ?_
          rotate_left
          focus ((intro w; go_simp); (try with_reducible rfl))
          refine wpAnyIn_take (i := 1) (v := ?_) rfl rfl (by kernel_rfl) (by kernel_rfl) (by kernel_rfl) (fun _ _ _ h => h) ⟨Or.inl ⟨by rfl, ?_⟩, fun _ => rfl⟩ ?_
          rotate_left
          focus ((intro w; go_simp); (try with_reducible rfl))
          refine wpAnyIn_ready (rs := [2]) (by kernel_rfl) (by simp) ?_
          refine AllReadyIn.cons rfl (fun K hK => ?_) AllReadyIn.nil
          go_simp
          refine ⟨trivial, hdd _, ?_⟩
          refine (callsIn_wide.2 (HA _)).mono ?_
          rintro e w' ⟨rfl, rfl⟩
          refine hK _ _ ?_
          clear hK K
          refine wpAnyIn_take (i := 3) (v := ?_) rfl rfl (by kernel_rfl) (by kernel_rfl) (by kernel_rfl) (fun _ _ _ h => h) ⟨Or.inl ⟨by rfl, ?_⟩, fun _ => rfl⟩ ?_
          rotate_left
          focus ((intro w; go_simp); (try with_reducible rfl))
          refine wpAnyIn_take (i := 4) (v := undef) rfl rfl (by kernel_rfl) (by kernel_rfl) (by kernel_rfl) (fun _ _ _ h => h) ⟨Or.inr ⟨by rfl, rfl⟩, fun _ => rfl⟩ ?_
          refine wpAnyIn_take (i := 5) (v := undef) rfl rfl (by kernel_rfl) (by kernel_rfl) (by kernel_rfl) (fun _ _ _ h => h) ⟨Or.inr ⟨by rfl, rfl⟩, fun _ => rfl⟩ ?_
          refine wpAnyIn_take (i := 6) (v := undef) rfl rfl (by kernel_rfl) (by kernel_rfl) (by kernel_rfl) (fun _ _ _ h => h) ⟨Or.inr ⟨by rfl, rfl⟩, fun _ => rfl⟩ ?_
          go_simp
          refine wpAnyIn_take (i := 7) (v := undef) rfl rfl (by kernel_rfl) (by kernel_rfl) (by kernel_rfl) (fun _ _ _ h => h) ⟨Or.inr ⟨by rfl, rfl⟩, fun _ => rfl⟩ ?_
          refine wpAnyIn_take (i := 8) (v := undef) rfl rfl (by kernel_rfl) (by kernel_rfl) (by kernel_rfl) (fun _ _ _ h => h) ⟨Or.inr ⟨by rfl, rfl⟩, fun _ => rfl⟩ ?_
          refine wpAnyIn_take (i := 9) (v := undef) rfl rfl (by kernel_rfl) (by kernel_rfl) (by kernel_rfl) (fun _ _ _ h => h) ⟨Or.inr ⟨by rfl, rfl⟩, fun _ => rfl⟩ ?_
          go_simp
          refine wpAnyIn_take (i := 10) (v := undef) rfl rfl (by kernel_rfl) (by kernel_rfl) (by kernel_rfl) (fun _ _ _ h => h) ⟨Or.inr ⟨by rfl, rfl⟩, fun _ => rfl⟩ ?_
          refine wpAnyIn_take (i := 12) (v := undef) rfl rfl (by kernel_rfl) (by kernel_rfl) (by kernel_rfl) (fun _ _ _ h => h) ⟨Or.inr ⟨by rfl, rfl⟩, fun _ => rfl⟩ ?_
          refine wpAnyIn_take (i := 14) (v := undef) rfl rfl (by kernel_rfl) (by kernel_rfl) (by kernel_rfl) (fun _ _ _ h => h) ⟨Or.inr ⟨by rfl, rfl⟩, fun _ => rfl⟩ ?_
          refine wpAnyIn_ready (rs := [11]) (by kernel_rfl) (by simp) ?_
          refine AllReadyIn.cons rfl (fun K hK => ?_) AllReadyIn.nil
          go_simp
          refine ⟨trivial, ?_⟩
          refine hK _ _ ?_
          clear hK K
          refine wpAnyIn_take (i := 13) (v := undef) rfl rfl (by kernel_rfl) (by kernel_rfl) (by kernel_rfl) (fun _ _ _ h => h) ⟨Or.inr ⟨by rfl, rfl⟩, fun _ => rfl⟩ ?_
          refine wpAnyIn_ready (rs := [15]) (by kernel_rfl) (by simp) ?_
          refine AllReadyIn.cons rfl (fun K hK => ?_) AllReadyIn.nil
          go_simp
          refine ⟨trivial, ?_⟩
          refine hK _ _ ?_
          clear hK K
          refine wpAnyIn_take (i := 16) (v := undef) rfl rfl (by kernel_rfl) (by kernel_rfl) (by kernel_rfl) (fun _ _ _ h => h) ⟨Or.inr ⟨by rfl, rfl⟩, fun _ => rfl⟩ ?_
          refine wpAnyIn_take (i := 17) (v := ?_) rfl rfl (by kernel_rfl) (by kernel_rfl) (by kernel_rfl) (fun _ _ _ h => h) ⟨Or.inl ⟨by rfl, ?_⟩, fun _ => rfl⟩ ?_
          rotate_left
          focus ((intro w; go_simp); (try with_reducible rfl))
          refine wpAnyIn_done (by kernel_rfl) ?_ _
          gi_wp2
          refine ⟨⟨k + 1, by omega, by go_num, ?_, ?_⟩, ?_⟩
          · have e : stepL nx L (k + 1) = stepL nx L k := by rw [hl2.out]; simp
            rw [e]
            exact hJd _ _ hJk
          · exact hbk.drew
          · show n - (((k : Int) + 1).toNat) < n - ((k : Int).toNat)
            omega
        | true =>
          have REC := Lib.hid (HREC.out k hlt HTB.out.symm)
          have hcw : Hid (∀ i, i < n → wr.drew.cell? ⟨b, o + i, none⟩ = some (.int .u16 ((H i : Nat) : Int))) := fun i hi => by
            rw [World.cell?_drew]
            exact (hbk.cell (p := ⟨b, o + i, none⟩) (hb (by omega))).trans (HC.out i hi)
          have hJw : Hid (J (pre ++ (g :: stepL nx L k)) wr.drew) := hJd _ _ hJk
          have hlen : Hid ((pre ++ (g :: stepL nx L k)).length + (L k).length ≤ N) := by
            have h1 := (stepL_pre nx L (show k + 1 ≤ n by omega)).length_le
            have h2 := HL.out
            rw [hl2.out] at h1
            simp at h1 h2
            show _ ≤ _
            simp
            omega
          rw [← HHV.out] at t0 hk65 REC
          obtain ⟨av, HAV⟩ : ∃ av, Hid (av = aft nx k) := ⟨_, rfl⟩
          have hav : av < 65536 := by rw [HAV.out]; exact Nat.lt_of_le_of_lt (aft_le _ _) hx
          have an := and16 av hv hav hk65
          obtain ⟨pk, HPK⟩ : ∃ p : Nat, Hid (p = 2 ^ k) := ⟨2 ^ k, rfl⟩
          have e0 : (2 : Int) ^ k = (pk : Int) := by rw [HPK.out]; simp
          have p1 : pk < 65536 := by rw [HPK.out]; exact pow16 (by omega)
          have orr := or16 g pk hg p1
          have wpk := wr16 pk p1
          have AF := Lib.hid (fun W => after_any W nx k hx (by omega))
          rw [← HAV.out] at REC AF
          rw [← HPK.out] at REC
          have HBK := Lib.hid hbk
          have HJK := Lib.hid hJk
          clear HL HC HHH HREC HHV HAV HPK HTB hbk hJk hJ2 hb2
          gi_wp2_with fail
          refine wpIn_region_any (by kernel_rfl) ?_
          try (change wpAnyIn _ _ _ _ _ _ _ _ _ (World.drew _))
          refine wpAnyIn_take (i := 0) (v := ?_) rfl rfl (by kernel_rfl) (by kernel_rfl) (by kernel_rfl) (fun _ _ _ h => h) ⟨Or.inl ⟨by rfl, ?_⟩, fun _ => rfl⟩ ?_
          rotate_left
          focus ((intro w; go_simp); (try with_reducible rfl))
          refine wpAnyIn_take (i := 1) (v := ?_) rfl rfl (by kernel_rfl) (by kernel_rfl) (by kernel_rfl) (fun _ _ _ h => h) ⟨Or.inl ⟨by rfl, ?_⟩, fun _ => rfl⟩ ?_
          rotate_left
          focus ((intro w; go_simp); (try with_reducible rfl))
          refine wpAnyIn_ready (rs := [2]) (by kernel_rfl) (by simp) ?_
          refine AllReadyIn.cons rfl (fun K hK => ?_) AllReadyIn.nil
          go_simp
          refine ⟨trivial, hdd _, ?_⟩
          refine (callsIn_wide.2 (HA _)).mono ?_
          rintro e w' ⟨rfl, rfl⟩
          refine hK _ _ ?_
          clear hK K
          refine wpAnyIn_take (i := 3) (v := ?_) rfl rfl (by kernel_rfl) (by kernel_rfl) (by kernel_rfl) (fun _ _ _ h => h) ⟨Or.inl ⟨by rfl, ?_⟩, fun _ => rfl⟩ ?_
          rotate_left
          focus ((intro w; go_simp); (try with_reducible rfl))
          refine wpAnyIn_take (i := 4) (v := ?_) rfl rfl (by kernel_rfl) (by kernel_rfl) (by kernel_rfl) (fun _ _ _ h => h) ⟨Or.inl ⟨by rfl, ?_⟩, fun _ => rfl⟩ ?_
          rotate_left
          focus ((intro w; go_simp); (try with_reducible rfl))
          refine wpAnyIn_take (i := 5) (v := ?_) rfl rfl (by kernel_rfl) (by kernel_rfl) (by kernel_rfl) (fun _ _ _ h => h) ⟨Or.inl ⟨by rfl, ?_⟩, fun _ => rfl⟩ ?_
          rotate_left
          focus ((intro w; go_simp); (try with_reducible rfl))
          go_simp
          refine wpAnyIn_take (i := 6) (v := ?_) rfl rfl (by kernel_rfl) (by kernel_rfl) (by kernel_rfl) (fun _ _ _ h => h) ⟨Or.inl ⟨by rfl, ?_⟩, fun _ => rfl⟩ ?_
          rotate_left
          focus ((intro w; go_simp); (try with_reducible rfl))
          refine wpAnyIn_take (i := 7) (v := ?_) rfl rfl (by kernel_rfl) (by kernel_rfl) (by kernel_rfl) (fun _ _ _ h => h) ⟨Or.inl ⟨by rfl, ?_⟩, fun _ => rfl⟩ ?_
          rotate_left
          focus ((intro w; go_simp); (try with_reducible rfl))
          refine wpAnyIn_take (i := 8) (v := ?_) rfl rfl (by kernel_rfl) (by kernel_rfl) (by kernel_rfl) (fun _ _ _ h => h) ⟨Or.inl ⟨by rfl, ?_⟩, fun _ => rfl⟩ ?_
          rotate_left
          focus ((intro w; go_simp); (try with_reducible rfl))
          go_simp
          refine wpAnyIn_take (i := 9) (v := ?_) rfl rfl (by kernel_rfl) (by kernel_rfl) (by kernel_rfl) (fun _ _ _ h => h) ⟨Or.inl ⟨by rfl, ?_⟩, fun _ => rfl⟩ ?_
          rotate_left
          focus ((intro w; go_simp); (try with_reducible rfl))
          refine wpAnyIn_take (i := 10) (v := ?_) rfl rfl (by kernel_rfl) (by kernel_rfl) (by kernel_rfl) (fun _ _ _ h => h) ⟨Or.inl ⟨by rfl, ?_⟩, fun _ => rfl⟩ ?_
          rotate_left
          focus ((intro w; go_simp); (try with_reducible rfl))
          refine wpAnyIn_take (i := 12) (v := ?_) rfl rfl (by kernel_rfl) (by kernel_rfl) (by kernel_rfl) (fun _ _ _ h => h) ⟨Or.inl ⟨by rfl, ?_⟩, fun _ => rfl⟩ ?_
          rotate_left
          focus ((intro w; go_simp); (try with_reducible rfl))
          go_simp
          refine wpAnyIn_take (i := 14) (v := ?_) rfl rfl (by kernel_rfl) (by kernel_rfl) (by kernel_rfl) (fun _ _ _ h => h) ⟨Or.inl ⟨by rfl, ?_⟩, fun _ => rfl⟩ ?_
          rotate_left
          focus ((intro w; go_simp); (try with_reducible rfl))
          refine wpAnyIn_ready (rs := [11]) (by kernel_rfl) (by simp) ?_
          refine AllReadyIn.cons rfl (fun K hK => ?_) AllReadyIn.nil
          go_simp
          refine ⟨trivial, hdd _, ?_⟩
          refine (callsIn_wide.2 (AF.out _)).mono ?_
          rintro e w' ⟨rfl, rfl⟩
          refine hK _ _ ?_
          clear hK K
          refine wpAnyIn_take (i := 13) (v := ?_) rfl rfl (by kernel_rfl) (by kernel_rfl) (by kernel_rfl) (fun _ _ _ h => h) ⟨Or.inl ⟨by rfl, ?_⟩, fun _ => rfl⟩ ?_
          rotate_left
          focus ((intro w; go_simp); (try with_reducible rfl))
          refine wpAnyIn_ready (rs := [15]) (by kernel_rfl) (by simp) ?_
          refine AllReadyIn.cons rfl (fun K hK => ?_) AllReadyIn.nil
          go_simp
          refine ⟨trivial, hdd _, ?_⟩
          refine (REC.out _ _ _ hcw.out hJw.out hlen.out).mono ?_
          rintro e w5 (⟨rfl, hJ5, hb5⟩ | ⟨rfl, q, hq, hx5⟩)
          · refine hK _ _ ?_
            clear hK K
            refine wpAnyIn_take (i := 16) (v := ?_) rfl rfl (by kernel_rfl) (by kernel_rfl) (by kernel_rfl) (fun _ _ _ h => h) ⟨Or.inl ⟨by rfl, ?_⟩, fun _ => rfl⟩ ?_
            rotate_left
            focus ((intro w; go_simp); (try with_reducible rfl))
            refine wpAnyIn_take (i := 17) (v := ?_) rfl rfl (by kernel_rfl) (by kernel_rfl) (by kernel_rfl) (fun _ _ _ h => h) ⟨Or.inl ⟨by rfl, ?_⟩, fun _ => rfl⟩ ?_
            rotate_left
            focus ((intro w; go_simp); (try with_reducible rfl))
            refine wpAnyIn_done (by kernel_rfl) ?_ _
            gi_wp2
            refine ⟨⟨k + 1, by omega, by go_num, ?_, ?_⟩, ?_⟩
            · have e : pre ++ (g :: stepL nx L (k + 1)) = pre ++ (g :: stepL nx L k) ++ L k := by rw [hl2.out]; simp
              rw [e]
              exact hJ5
            · exact (HBK.out.drew).trans hb5
            · show n - (((k : Int) + 1).toNat) < n - ((k : Int).toNat)
              omega
          · refine hK _ _ ?_
            clear hK K
            refine wpAnyIn_take (i := 16) (v := ?_) rfl rfl (by kernel_rfl) (by kernel_rfl) (by kernel_rfl) (fun _ _ _ h => h) ⟨Or.inl ⟨by rfl, ?_⟩, fun _ => rfl⟩ ?_
            rotate_left
            focus ((intro w; go_simp); (try with_reducible rfl))
            refine wpAnyIn_take (i := 17) (v := ?_) rfl rfl (by kernel_rfl) (by kernel_rfl) (by kernel_rfl) (fun _ _ _ h => h) ⟨Or.inl ⟨by rfl, ?_⟩, fun _ => rfl⟩ ?_
            rotate_left
            focus ((intro w; go_simp); (try with_reducible rfl))
            refine wpAnyIn_done (by kernel_rfl) ?_ _
            gi_wp2
            go_ret
            refine Or.inr ⟨rfl, (g :: stepL nx L k) ++ q, ?_, ?_⟩
            · have h1 := stepL_pre nx L (show k + 1 ≤ n by omega)
              rw [hl2.out] at h1
              obtain ⟨r1, hr1⟩ := hq
              obtain ⟨r2, hr2⟩ := h1
              exact ⟨r1 ++ r2, by rw [← hr2, ← hr1]; simp⟩
            · rw [← List.append_assoc]
              exact hx5
      · obtain rfl : k = n := by omega
        gi_wp2
        go_ret
        exact Or.inl ⟨rfl, hJk, hbk⟩
  · go_ret
    exact Or.inr ⟨rfl, [g], ⟨stepL nx L n, rfl⟩, hx2⟩
theorem grow_in (l n₀ n : Nat) (hn : n ≤ 14) (a : Option Addr) (b o cap : Nat) (ha : 0 < n → a = some ⟨b, o, none⟩) (H : Nat → Nat) (hH : ∀ i, i < n → H i < 65536) (hb : 0 < n → b < n₀) (N : Nat) (E : Nat → Nat) (J Jx : List Nat → World → Prop) (hJd : Drawn J)
    (hY : ∀ m pre x W, J pre W → pre.length < N → YieldAt Fence.wide m Tryz.prog l #[.int .u16 ((E x : Nat) : Int)] W fun e W' =>
      (e = .returned (.bool true) ∧ J (pre ++ [x]) W' ∧ Below n₀ W W') ∨ (e = .returned (.bool false) ∧ Jx (pre ++ [x]) W')) (f : Nat) :
    ∀ (m g nx : Nat) (pre : List Nat) (W : World), g < 65536 → (∀ x, x ∈ cliq H n f g nx → E x = x) → nx < 65536 → (∀ j, nx.testBit j = true → n ≤ j + f ∧ j < n) → (∀ i, i < n → W.cell? ⟨b, o + i, none⟩ = some (.int .u16 ((H i : Nat) : Int))) → J pre W → pre.length + (cliq H n f g nx).length ≤ N →
      CallsIn Fence.wide m Tryz.prog 76 #[.slice a n cap, .int .u16 g, .int .u16 nx, .func (.yield l) #[] #[]] W (GrowPost n₀ J Jx W pre (cliq H n f g nx)) := by
  induction f with
  | zero =>
    intro m g nx pre W hg hge hx hbit hc hJ hN
    have e : cliq H n 0 g nx = g :: stepL nx (fun _ => []) n := by
      have h : stepL nx (fun _ => []) n = [] := by
        unfold stepL
        rw [List.flatMap_eq_nil_iff]
        intro i _
        split <;> rfl
      rw [h]
      rfl
    have hgg := hge g (by rw [e]; exact List.mem_cons_self)
    rw [e] at hN ⊢
    exact grow_step l n₀ n hn a b o cap ha H hH hb N E J Jx hJd hY m g nx pre W hg hgg hx hc hJ (fun _ => []) hN (fun i hi ht => by have := hbit i ht; omega)
  | succ f ih =>
    intro m g nx pre W hg hge hx hbit hc hJ hN
    refine grow_step l n₀ n hn a b o cap ha H hH hb N E J Jx hJd hY m g nx pre W hg (hge g (by rw [cliq_succ]; exact List.mem_cons_self)) hx hc hJ (fun i => cliq H n f (g ||| 2 ^ i) (aft nx i &&& H i)) hN (fun i hi ht m pre W hc hJ hN => ?_)
    refine ih m (g ||| 2 ^ i) (aft nx i &&& H i) pre W (or16_lt hg (pow16 (by omega))) (fun x hx2 => hge x (by
      rw [cliq_succ]
      refine List.mem_cons_of_mem _ ?_
      unfold cliqTo
      rw [List.mem_flatMap]
      exact ⟨i, by simpa using hi, by rw [if_pos ht]; exact hx2⟩)) (Nat.lt_of_le_of_lt Nat.and_le_left (Nat.lt_of_le_of_lt (aft_le _ _) hx)) (fun j hj => ?_) hc hJ hN
    rw [Nat.testBit_and, aft_bit _ _ _ hx (by omega)] at hj
    simp only [Bool.and_eq_true, decide_eq_true_eq] at hj
    have h1 := hbit i ht
    have h2 := hbit j hj.1.1
    omega
end Go.Proofs.YtlnlddnjalfamaaGreatDoor
