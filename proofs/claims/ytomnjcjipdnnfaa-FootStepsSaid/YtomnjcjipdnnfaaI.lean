/-
  Frechet's distance, as the package exports it.
-/
import Derived.Test.YtomnjcjipdnnfaaH
import Derived.Laws.EntriesVeiled
namespace Go.Proofs.Ytomnjcjipdnnfaa
open Go.RowKit Go.Deep

def distF (X Y U V : Nat → Int) : Nat → Nat → Int := fun i j => dist (X i) (Y i) (U j) (V j)
def fre (m : Nat) (X Y : Nat → Int) (n : Nat) (U V : Nat → Int) : Int := rst max (distF X Y U V) m n 0 0
theorem fre_bd {X Y U V : Nat → Int} {m n : Nat} (h1 : InR m X Y) (h2 : InR n U V) (hm : 1 ≤ m) (hn : 1 ≤ n) : 0 ≤ fre m X Y n U V ∧ fre m X Y n U V ≤ 8000000 :=
  rst_max_bd (fun i j hi hj => dist_bd (h1 i hi).1 (h1 i hi).2 (h2 j hj).1 (h2 j hj).2) (by omega) (by omega)
/-- two outlines, captured -/
def BothAt (w : World) (ba bb : Nat) (a : Option Addr) (m cap : Nat) (b : Option Addr) (n cap2 : Nat) : Prop := w.cell? ⟨ba, 0, none⟩ = some (.slice a m cap) ∧ w.cell? ⟨bb, 0, none⟩ = some (.slice b n cap2)
def BetweenPost (w : World) (a : Option Addr) (m cap : Nat) (b : Option Addr) (n cap2 : Nat) (e : Ending) (w' : World) : Prop := ∃ ba bb, e = .returned (WalksV m n (FarV ba bb)) ∧ Kept w w' ∧ BothAt w' ba bb a m cap b n cap2
theorem one_at (w : World) (v : Value) (t : TypeId) (s : Nat) (h : w.heap.size = s) : (w.alloc (.cells #[v] t)).cell? ⟨s, 0, none⟩ = some v := by
  subst h; unfold World.cell?; dsimp only; rw [blk_alloc_new]; rfl
set_option maxRecDepth 100000 in
set_option maxHeartbeats 1000000 in
theorem between_any (w : World) (a b : Option Addr) (m cap n cap2 : Nat) :
    Calls Try.prog 52 #[.slice a m cap, .slice b n cap2] w (BetweenPost w a m cap b n cap2) := by
  have hmf : ∀ (fn : Fn) (first cap : Array Value) (w : World), (Instr.makeFunc fn first cap).run Try.prog w = .ok (.func fn first cap) w := fun _ _ _ _ => rfl
  have c1 := one_at w (.slice a m cap) 22 w.heap.size rfl
  have c2 := one_at (w.alloc (.cells #[.slice a m cap] 22)) (.slice b n cap2) 22 (w.heap.size + 1) (by simp)
  have hk := (Kept.refl (w.alloc (.cells #[.slice a m cap] 22))).alloc (.cells #[.slice b n cap2] 22)
  have C1 := Lib.hid (hk.cellSome c1)
  have C2 := Lib.hid c2
  clear c1 c2 hk
  go_enter Try.func52, Try.ntmps52
  go_wp2_with fail
  refine bodyPost_ret (v := .agg #[.int .i64 m, .int .i64 n, .func (.func 71) #[] #[.pointer (some ⟨w.heap.size, 0, none⟩), .pointer (some ⟨w.heap.size + 1, 0, none⟩)]]) (by simp [results, Try.results52, go_sem]) rfl ⟨_, _, rfl, ?_, ?_, ?_⟩
  · repeat (first | exact Kept.refl _ | refine Kept.alloc ?_ _)
  · exact Kept.cellSome ((Kept.refl _).alloc _) C1.out
  · exact Kept.cellSome ((Kept.refl _).alloc _) C2.out
set_option maxRecDepth 100000 in
set_option maxHeartbeats 1000000 in
theorem frechet_any (w : World) (m n ba bb : Nat) (a b : Option Addr) (cap cap2 : Nat) (X Y U V : Nat → Int) (hB : BothAt w ba bb a m cap b n cap2) (h1 : PairsAt w (.slice a m cap) m X Y) (h2 : PairsAt w (.slice b n cap2) n U V) (r1 : InR m X Y) (r2 : InR n U V) (hm : 1 ≤ m) (hn : 1 ≤ n) (hm2 : m ≤ 1000) (hn2 : n ≤ 1000) :
    Calls Try.prog 53 #[WalksV m n (FarV ba bb)] w fun e w' => e = .returned (.int .i64 (fre m X Y n U V)) ∧ Kept w w' := by
  obtain ⟨a1, b1, o1, c1, e1, ha1, hc1⟩ := h1
  cases e1
  obtain rfl := ha1 (by omega)
  obtain ⟨a2, b2, o2, c2, e2, ha2, hc2⟩ := h2
  cases e2
  obtain rfl := ha2 (by omega)
  have hk0 : Kept w (w.alloc (.cells #[.int .i64 m, .int .i64 n, FarV ba bb] 89)) := (Kept.refl w).alloc _
  have HL := leastF_any (w.alloc (.cells #[.int .i64 m, .int .i64 n, FarV ba bb] 89)) m n ba bb b1 o1 cap b2 o2 cap2 X Y U V _ rfl (hk0.cellSome hB.1) (hk0.cellSome hB.2) (fun i hi => ⟨hk0.cellSome (hc1 i hi).1, hk0.cellSome (hc1 i hi).2⟩) (fun j hj => ⟨hk0.cellSome (hc2 j hj).1, hk0.cellSome (hc2 j hj).2⟩) r1 r2 hm hn hm2 hn2
  have HLL := Lib.hid HL
  clear HL hc1 hc2 ha1 ha2 hB r1 r2
  unfold WalksV FarV at HLL ⊢
  unfold FarV at hk0
  go_enter Try.func53, Try.ntmps53
  go_wp2_with fail
  refine HLL.out.mono ?_
  rintro e w2 ⟨lb, br, rfl, hk2, hT⟩
  have t1 := hT.top.cell (show 0 < m by omega)
  rw [if_pos (Nat.zero_le _)] at t1
  have t2 := (hT.row 0 (Nat.zero_le _) (by omega)).cell (show 0 < n by omega)
  have hv : rst max (fun i j => dist (X i) (Y i) (U j) (V j)) m n 0 0 = fre m X Y n U V := rfl
  rw [hv] at t2
  have hm0 : 0 < m := hm
  have hn0 : 0 < n := hn
  clear HLL hv hT
  go_wp2_with fail
  go_ret
  exact ⟨rfl, hk0.trans hk2⟩
def FreFn (w : World) (m : Nat) (X Y : Nat → Int) (n : Nat) (U V : Nat → Int) (e : Ending) (w' : World) : Prop :=
  Kept w w' ∧ (code2 0 m X Y n U V = 0 → e = .returned (.tuple #[.int .i64 (fre m X Y n U V), .int .i64 0])) ∧ (code2 0 m X Y n U V ≠ 0 → e = .returned (.tuple #[.int .i64 0, .int .i64 (code2 0 m X Y n U V)]))
set_option maxRecDepth 100000 in
set_option maxHeartbeats 2000000 in
theorem Frechet_any (w : World) (m n : Nat) (av bv : Value) (X Y U V : Nat → Int) (hA : PairsAt w av m X Y) (hB : PairsAt w bv n U V) (hm2 : m ≤ 1000000) (hn2 : n ≤ 1000000) :
    Calls Try.prog 23 #[av, bv] w (FreFn w m X Y n U V) := by
  have hA' := hA
  have hB' := hB
  obtain ⟨a1, b1, o1, cap1, rfl, ha1, hc1⟩ := hA
  obtain ⟨a2, b2, o2, cap2, rfl, ha2, hc2⟩ := hB
  have hO := outs2 hA' hB' 22
  have hk0 : Kept w (w.alloc (.cells #[.slice a1 m cap1, .slice a2 n cap2] 22)) := (Kept.refl w).alloc _
  clear hc1 hc2 ha1 ha2
  go_enter Try.func23, Try.ntmps23
  go_wp2_with fail
  refine (check_any _ 0 _ 2 _ _ _ hO (by omega) (fun i _ => by show (if i = 0 then m else n) ≤ 1000000; split <;> omega)).mono ?_
  rw [checkC2]
  rintro e w1 ⟨rfl, hk1⟩
  have hK1 := hk0.trans hk1
  by_cases hc0 : code2 0 m X Y n U V = 0
  · obtain ⟨h1, h2, h3, h4, _⟩ := code2_ok hc0
    obtain ⟨r1, p1⟩ := formB_in h3
    obtain ⟨r2, p2⟩ := formB_in h4
    have HC0 := Lib.hid hc0
    rw [HC0.out]
    have hA1 := hA'.kept hK1
    have hB1 := hB'.kept hK1
    have HR1 := Lib.hid r1
    have HR2 := Lib.hid r2
    clear hc0 h3 h4 r1 r2
    go_wp2_with fail
    refine (between_any _ a1 a2 m cap1 n cap2).mono ?_
    rintro e w2 ⟨ba, bb, rfl, hk2, hBB⟩
    have hA2 := hA1.kept hk2
    have hB2 := hB1.kept hk2
    have HBB := Lib.hid hBB
    clear hBB
    unfold WalksV FarV
    go_wp2_with fail
    have HF := frechet_any _ m n ba bb a1 a2 cap1 cap2 X Y U V HBB.out hA2 hB2 HR1.out HR2.out p1 p2 (by omega) (by omega)
    unfold WalksV FarV at HF
    refine HF.mono ?_
    rintro e w3 ⟨rfl, hk3⟩
    clear HF
    go_wp2_with fail
    go_ret2
    exact ⟨(hK1.trans hk2).trans hk3, (fun _ => rfl), (fun h => absurd HC0.out h)⟩
  · have HC0 := Lib.hid hc0
    obtain ⟨cc, HCC⟩ : ∃ cc, Hid (cc = code2 0 m X Y n U V) := ⟨_, rfl⟩
    rw [← HCC.out] at hc0 ⊢
    have c2 : (cc != 0) = true := by simpa using hc0
    clear hc0
    go_wp2_with fail
    go_ret2
    exact ⟨hK1, (fun h => absurd h HC0.out), (fun _ => by rw [← HCC.out]; rfl)⟩
end Go.Proofs.Ytomnjcjipdnnfaa
