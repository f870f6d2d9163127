/-
  The reference's Begun (an outline that begins at one of its points) and Turned.
-/
import Derived.Test.YtomnjcjipdnnfaaKb
import Derived.Deep.AppendLies
import Derived.BigRegion
import Derived.RegionTactic
import Derived.Deep.RegionLaw
namespace Go.Proofs.Ytomnjcjipdnnfaa
open Go.RowKit Go.Deep

section
variable {P : Program} {w : World}
theorem step_append_any {ops : Array Oper} {o : Oper} {a : Act} {K : Act → World → Prop} {Q : Exit → Act → World → Prop} {E : Prop} (hgd : o.guard = none) (s x : Operand) (t : TypeId)
    (ho : o.op = .call { callee := .builtin .append, args := #[s, x], argTypes := #[t, t] })
    (base : Nat) (e : TypeId) (i : TypeInfo) (z : Value) (size bytes : Nat) (ht : P.underlying t = some (.slice e)) (hi : P.info? e = some i) (hz : i.zero = some z)
    (hsize : i.size = size) (hby : i.bytes = bytes) (hzs : z.cells.size = size) (hsz : 0 < size)
    (v : Value) (n : Nat) (xs : List Value) (hs : a.eval s = v) (hown : w.ownsRow base e size v n xs)
    (ad : Addr) (m c : Nat) (news : List Value) (hx : a.eval x = .slice (some ad) m c) (hl : news.length = m * size) (hnews : ∀ j u, news[j]? = some u → w.cell? (ad.add j) = some u) (h1 : ∀ u ∈ news, u.oneCell' = true)
    (h63 : n + m ≤ maxLen) (hbytes : (n + m) * bytes ≤ 140737488355328) (hbase : base ≤ w.heap.size)
    (h : ∀ v' w', w'.ownsRow base e size v' (n + m) (xs ++ news) → w.grownBy w' v.ownBlock → K (a.put o.dst v') w') :
    if Region.wanted o (yielded ops a.tmps) = true then Oper.wp P o a w K Q else E := by
  have hw : Region.wanted o (yielded ops a.tmps) = true := by simp [Region.wanted, hgd]
  rw [if_pos hw]
  exact wp_append_own w s x t ho base e i z size bytes ht hi hz hsize hby hzs hsz v n xs hs hown ad m c news hx hl hnews h1 h63 hbytes hbase fun v' w' h2 h3 _ => h v' w' h2 h3
end
set_option maxRecDepth 100000 in
set_option maxHeartbeats 4000000 in
theorem begun_any (w : World) (a : Option Addr) (n cap k : Nat) (X Y : Nat → Int) (hE : PairsAt w (.slice a n cap) n X Y) (hl : n ≤ cap) (hk : k < n) (hn : n ≤ 1000000) :
    Calls Try.prog 57 #[.slice a n cap, .int .i64 k] w (OwnPost w n (rotF n k X) (rotF n k Y)) := by
  obtain ⟨a', b, o, cap', e, ha, hc⟩ := hE
  cases e
  obtain rfl := ha (by omega)
  obtain ⟨i1, hi, hz0, hz1, hz2⟩ := info_parts Try.infoPoint
  have hO0 := own_zeroT w w.heap.size 78 2 (Nat.le_refl _)
  have hk0 : Kept w (w.alloc (.cells #[] 78)).drew := ((Kept.refl w).alloc _).drew
  have g1 : (k : Int) ≤ n := by omega
  have g2 : (n : Int) ≤ cap := by omega
  have g3 : (0 : Int) ≤ k := by omega
  have g4 : (k : Int) ≤ cap := by omega
  have g5 : ¬ cap = k := by omega
  have HO0 := Lib.hid (hO0.drew)
  have S1 := Lib.hid (fun j u h => hk0.cellSome (pairs_src hc k (n - k) (by omega) j u h))
  have HC := Lib.hid hc
  clear hc ha hO0
  go_enter Try.func57, Try.ntmps57
  go_wp2_with fail
  go_region_held3 (fun w' => Kept w w')
    (first | exact (by repeat (first | assumption | exact Kept.refl _ | apply Kept.drew | apply Kept.drewN | apply Kept.alloc | refine Kept.trans ?_ (by assumption))) | exact HK1.out | exact HK2.out)
    (first | (refine step_append_any (by rfl) _ _ _ (by rfl) w.heap.size 78 i1 (.agg #[.int .i64 0, .int .i64 0]) 2 16 (by kernel_rfl) hi hz0 hz1 hz2 rfl (by omega) (.slice (some ⟨w.heap.size, 0, none⟩) 0 0) 0 [] (by rfl) HO0.out ⟨b, o + k * 2, none⟩ (n - k) (cap - k) (pairs (fun i => X (i + k)) (fun i => Y (i + k)) (n - k)) (by rfl) (pairs_len _ _ _) S1.out (pairs_one _ _ _) (by unfold maxLen; omega) (by omega) (by simp) ?_; intro v1 w1 hO1 hgr1; have HK1 := Lib.hid (Kept.step hk0 (grew_X hgr1 HO0.out) (fun i hi => hi)); have S2 := Lib.hid (fun j u h => HK1.out.cellSome (pairs_src0 HC.out k (by omega) j u h)); obtain ⟨ga, c1, rfl, _⟩ := hO1.form (by omega); have HO1 := Lib.hid hO1; clear hO1) | (refine step_append_any (by rfl) _ _ _ (by rfl) w.heap.size 78 i1 (.agg #[.int .i64 0, .int .i64 0]) 2 16 (by kernel_rfl) hi hz0 hz1 hz2 rfl (by omega) _ _ _ (by rfl) HO1.out ⟨b, o, none⟩ k cap (pairs X Y k) (by rfl) (pairs_len _ _ _) S2.out (pairs_one _ _ _) (by unfold maxLen; omega) (by omega) (Kept.size HK1.out) ?_; intro v2 w2 hO2 hgr2; have HK2 := Lib.hid (Kept.step HK1.out (grew_X hgr2 HO1.out) (fun i hi => hi)); have HO2 := Lib.hid hO2; clear hO2))
  all_goals
    have hO2 := HO2.out
    simp only [Nat.zero_add, List.nil_append] at hO2
    rw [pairs_cat, show n - k + k = n by omega] at hO2
    go_wp2_with fail
    go_ret
    exact ⟨_, rfl, hO2, HK2.out⟩
end Go.Proofs.Ytomnjcjipdnnfaa
