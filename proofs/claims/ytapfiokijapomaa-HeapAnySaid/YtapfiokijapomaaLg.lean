/-
  The reference's Settle.
-/
import Derived.Test.YtapfiokijapomaaLf
import Derived.Test.YtapfiokijapomaaJ
import Derived.Deep.QuietTactic
import Derived.BigQuiet
namespace Go.Proofs.Ytapfiokijapomaa
open Go.RowKit Go.Deep

def RSettlePost (w : World) (N : Nat) (D : Nat → Nat) (J : Nat → Nat → Nat) (h : Nat → Int) (e : Ending) (w' : World) : Prop :=
  ∃ (oa : Option Addr) (ocap tb : Nat) (f x : Nat → Int), e = .returned (.tuple #[.slice oa N ocap, .slice (some ⟨tb, 0, none⟩) N N]) ∧ Kept w w' ∧ IntsAt w' (.slice oa N ocap) N (fun i => f (i + 1)) ∧
    IntsAt w' (.slice (some ⟨tb, 0, none⟩) N N) N (fun i => x (i + 1)) ∧ Odo (N + 1) D J h x ∧ ∀ u, u < N + 1 → f u = fin (N + 1) D J h x u
theorem degree_at (w : World) (ev : Value) (n : Nat) (A B : Nat → Int) (v : Int) (d : Nat) (hd : d = deg A B n v) (hE : PairsAt w ev n A B) (hn : n ≤ 1000000) :
    Calls Try.prog 45 #[ev, .int .i64 v] w fun e w' => e = .returned (.int .i64 d) ∧ w = w' := by rw [hd]; exact degree_any w ev n A B v hE hn
theorem toppled_at (w : World) (N m v : Nat) (t : Int) (ev : Value) (la : Option Addr) (lcap : Nat) (A B f : Nat → Int) (hE : PairsAt w ev m A B) (hm : m ≤ 20) (hn : N + 1 ≤ 8) (hv1 : 1 ≤ v) (hv : v < N + 1)
    (hL : IntsAt w (.slice la N lcap) N f) (hf : ∀ i, i < N → 0 ≤ f i ∧ f i ≤ 36028797018963968) (ht0 : 0 ≤ t) (ht1 : t ≤ 36028797018963968) :
    Calls Try.prog 46 #[.int .i64 ((N : Int) + 1), ev, .slice la N lcap, .int .i64 v, .int .i64 t] w (ToppledPost w N (topR A B m v t (N + 1) f)) :=
  toppled_any w (N + 1) m v t ev la lcap A B f hE hm hn hv1 hv hL hf ht0 ht1
theorem topR_topF {A B : Nat → Int} {m n v : Nat} {f : Nat → Int} (ok : YardOk n (degN A B m) (btwN A B m)) (hv : v < n) {i : Nat} (hi : i + 1 < n) :
    topR A B m v (topN (degN A B m) f v) n (fun i => f (i + 1)) i = topF (degN A B m) (btwN A B m) f v (i + 1) := by
  unfold topR topF
  by_cases e : i + 1 = v
  · subst e; rw [if_pos rfl, if_pos rfl, ok.J0 _ hv]; simp
  · rw [if_neg e, if_neg e, if_pos hi]
theorem leftN_less {n : Nat} {y x : Nat → Int} {v : Nat} {t : Int} (hv : v < n) (ht : 1 ≤ t) (hle : ∀ u, u < n → addAt x v t u ≤ y u) : leftN n y (addAt x v t) < leftN n y x := by
  have h1 : sumZ (fun u => y u - x u) n = sumZ (fun u => y u - addAt x v t u) n + t := by
    have h2 := sumZ_congr (f := fun u => y u - x u) (g := fun u => (y u - addAt x v t u) + (if u = v then t else 0)) (n := n) (fun u _ => by show _ = _; unfold addAt; split <;> omega)
    rw [h2, sumZ_add, sumZ_one (f := fun u => if u = v then t else 0) hv (fun i _ hne => if_neg hne), if_pos rfl]
  have h0 : 0 ≤ sumZ (fun u => y u - addAt x v t u) n := sumZ_nonneg (fun u hu => by have := hle u hu; omega)
  unfold leftN
  omega

set_option maxRecDepth 100000 in
set_option maxHeartbeats 8000000 in
theorem rsettle_any (w : World) (N m : Nat) (ev : Value) (la : Option Addr) (lcap : Nat) (A B hp y : Nat → Int) (hE : PairsAt w ev m A B) (hm : m ≤ 20) (ok : YardOk (N + 1) (degN A B m) (btwN A B m)) (hN : 1 ≤ N) (hN8 : N + 1 ≤ 8)
    (hh : IntsAt w (.slice la N lcap) N hp) (hp0 : ∀ i, i < N → 0 ≤ hp i ∧ hp i ≤ 1000000000) (hy : Stab (N + 1) (degN A B m) (btwN A B m) (atV hp) y) (hyB : ∀ v, v < N + 1 → y v ≤ 1125899906842624) :
    Calls Try.prog 20 #[.int .i64 (N + 1 : Nat), ev, .slice la N lcap] w (RSettlePost w N (degN A B m) (btwN A B m) (atV hp)) := by
  obtain ⟨la', lb, lo, lcap', e, hla, hlc⟩ := hh
  cases e
  obtain rfl := hla (by omega)
  obtain ⟨i0, hi, hz0, hz1, hz2⟩ := info_parts Try.info3
  have hmk := fun W => mkInts (N : Int) N rfl (by omega) W
  have hlt0 : lb < w.heap.size := World.block_lt_of_cell? w _ (hlc 0 (by omega))
  have hT0 := World.rowIs_made w (.int .i64 0) N 3
  have hK0 : Kept w (w.alloc (.cells (madeCells #[.int .i64 0] N) 3)) := (Kept.refl w).alloc _
  have hL0 : ∀ i, i < N → (w.alloc (.cells (madeCells #[.int .i64 0] N) 3)).cell? ⟨lb, lo + i, none⟩ = some (.int .i64 (atV hp (i + 1))) := fun i hi => by
    rw [hK0.cellSome (hlc i hi)]; simp [atV]
  have HL0 := Lib.hid hL0
  clear hL0 hlc hla
  go_enter Try.func20, Try.ntmps20
  go_wp2_with fail
  have hL1 := HL0.out
  clear hmk HL0
  generalize w.alloc (.cells (madeCells #[.int .i64 0] N) 3) = W0 at *
  obtain ⟨tb, HTB⟩ : ∃ tb, Hid (tb = w.heap.size) := ⟨_, rfl⟩
  rw [← HTB.out] at hT0 ⊢
  have htb0 : w.heap.size ≤ tb := by rw [HTB.out]; exact Nat.le_refl _
  have hne0 : lb ≠ tb := by rw [HTB.out]; omega
  clear HTB hlt0
  go_loopg [2, 9, 10] (leftN (N + 1) y (fun _ => 0)) (fun g lv s9 s10 wr => ∃ (x f : Nat → Int) (b o cap : Nat), g = leftN (N + 1) y x ∧ lv = .slice (some ⟨b, o, none⟩) N cap ∧ b ≠ tb ∧ (∀ i, i < N → wr.cell? ⟨b, o + i, none⟩ = some (.int .i64 (f (i + 1)))) ∧ Run (N + 1) (degN A B m) (btwN A B m) (atV hp) x f ∧ Kept w wr ∧ wr.rowIs tb 3 N (fun i => .int .i64 (x (i + 1))))
  case atStart => exact ⟨fun _ => 0, atV hp, lb, lo, lcap, rfl, rfl, hne0, hL1, Run.start (atV_pos hp0), hK0, hT0⟩
  case round =>
    obtain ⟨x, f, b, o, cap, rfl, rfl, hbt, hL, run, hK, hT⟩ := hrel
    clear hL1 hK0 hT0 hne0
    have HLc := Lib.hid hL
    clear hL
    go_wp2_with fail
    obtain ⟨Wo, rfl⟩ : ∃ Wo : World, Wo = wr := ⟨_, rfl⟩
    have hbd : ∀ u, u < N + 1 → f u ≤ 36028797018963968 := fun u hu => Int.le_trans (run.bound hy (atV_le hp0) hyB (by omega) hu (by rw [ok.col hu]; have := ok.D20 u hu; omega)) (by decide)
    have HBD := Lib.hid hbd
    have HPOS := Lib.hid run.pos
    clear hbd
    go_loopg [9] N (fun g vv wi => ∃ v : Nat, 1 ≤ v ∧ v ≤ N + 1 ∧ g = N + 1 - v ∧ vv = .int .i64 v ∧ Hid (∀ u, 1 ≤ u → u < v → f u < (degN A B m u : Int)) ∧ Kept Wo wi)
    case atStart => exact ⟨1, by omega, by omega, by omega, rfl, (fun u h1 h2 => by omega), Kept.refl _⟩
    case round =>
      obtain ⟨v, hv1, hvn, rfl, rfl, hS, hKi⟩ := hrel
      have hEi := (hE.kept hK).kept hKi
      by_cases hlt : v < N + 1
      · have t1 := hKi.cellSome (HLc.out (v - 1) (by omega))
        rw [show v - 1 + 1 = v by omega] at t1
        have s1 : IntKind.i64.wrap ((v : Int) - 1) = (v : Int) - 1 := IntWalk.i64_in _ (by omega)
        have s2 : ((v : Int) - 1).toNat = v - 1 := by omega
        have s3 : (1 : Int) ≤ v := by omega
        have s4 : (v : Int) - 1 < (N : Int) := by omega
        have s5 : decide ((v : Int) < ((N + 1 : Nat) : Int)) = true := decide_eq_true (by omega)
        have s6 : decide ((v : Int) < (N : Int) + 1) = true := decide_eq_true (by omega)
        have s7 : (v : Int) < (N : Int) + 1 := by omega
        by_cases hst : f v < (degN A B m v : Int)
        · have e1 : f v < (deg A B m (v : Int) : Int) := hst
          have hS2 : Hid (∀ u, 1 ≤ u → u < v + 1 → f u < (degN A B m u : Int)) := fun u h1 h2 => by
            by_cases e : u = v
            · subst e; exact hst
            · exact hS.out u h1 (by omega)
          clear hst hS
          go_wp2_with fail
          go_quiet ((go_at_call 45; exact quietS (degree_any _ _ m A B _ (hEi.dN _) (by omega))))
          go_wp2_with fail
          go_roundg (N + 1 - (v + 1))
          case measure => omega
          case rel => exact ⟨v + 1, by omega, by omega, rfl, by go_num, hS2, hKi.drewN _⟩
        · have e1 : (deg A B m (v : Int) : Int) ≤ f v := Int.not_lt.1 hst
          have e2 : ¬ f v < (deg A B m (v : Int) : Int) := hst
          clear hS
          go_wp2_with fail
          go_quiet ((go_at_call 45; exact quietS (degree_any _ _ m A B _ (hEi.dN _) (by omega))))
          go_wp2_with fail
          have hK5 : Kept Wo (wr.drewN nq) := hKi.drewN _
          clear hEi t1 hKi
          generalize wr.drewN nq = W5 at *
          have hE5 := (hE.kept hK).kept hK5
          have t1 := hK5.cellSome (HLc.out (v - 1) (by omega))
          rw [show v - 1 + 1 = v by omega] at t1
          obtain ⟨dv, HDV⟩ : ∃ dv, Hid (dv = deg A B m (v : Int)) := ⟨_, rfl⟩
          have hd1 : 1 ≤ dv := by rw [HDV.out]; exact ok.D1 v hv1 hlt
          have hd1' : (1 : Int) ≤ (dv : Int) := by omega
          have q0 := HPOS.out v hlt
          have q1 := HBD.out v hlt
          have q2 : (dv : Int) ≤ f v := by rw [HDV.out]; exact e1
          have htb := topN_bd (D := degN A B m) q0 (ok.D1 v hv1 hlt)
          have htN : f v / (dv : Int) = topN (degN A B m) f v := by unfold topN degN; rw [← HDV.out]
          have HTB := Lib.hid htb
          have HTN := Lib.hid htN
          have hQ2 := Lib.hid q2
          clear e1 e2 htb htN s5 s6 s7 q2 hst
          go_quiet ((go_at_call 45; exact quietS (degree_at _ _ m A B _ dv HDV.out (hE5.dN _) (by omega))))
          go_wp2_with fail
          have hK6 : Kept Wo (W5.drewN nq) := hK5.drewN _
          clear hE5 t1 hK5
          generalize W5.drewN nq = W6 at *
          rw [HTN.out]
          have ht1 := HTB.out.2.2.2 (by have := hQ2.out; rw [HDV.out] at this; exact this)
          obtain ⟨t, HT⟩ : ∃ t, Hid (t = topN (degN A B m) f v) := ⟨_, rfl⟩
          rw [← HT.out] at ht1 ⊢
          have ht2 : t ≤ 36028797018963968 := by rw [HT.out]; have := HTB.out.2.1; omega
          have hL6 : IntsAt W6 (.slice (some ⟨b, o, none⟩) N cap) N (fun i => f (i + 1)) := ⟨_, b, o, cap, rfl, fun _ => rfl, fun i hi => hK6.cellSome (HLc.out i hi)⟩
          refine (toppled_at _ N m v t ev _ _ A B (fun i => f (i + 1)) ((hE.kept hK).kept hK6) hm hN8 hv1 hlt hL6 (fun i hi => ⟨HPOS.out (i + 1) (by omega), HBD.out (i + 1) (by omega)⟩) (by omega) ht2).mono ?_
          rintro e W7 ⟨b2, cap2, rfl, hO7, hK7, hb2⟩
          have hK8 := hK6.trans hK7
          have hT7 := hK8.row hT
          have run2 := run.topple ok hv1 hlt
          have hcl : ∀ i, i < N → W7.cell? ⟨b2, 0 + i, none⟩ = some (.int .i64 (topF (degN A B m) (btwN A B m) f v (i + 1))) := fun i hi => by
            rw [Nat.zero_add, hO7.cellAt i (by omega), ints_some _ hi, HT.out, topR_topF ok hlt (by omega)]
          have htlt := hT.lt
          have hbt2 : b2 ≠ tb := by have := Kept.size hK6; omega
          have hxle := run2.le y hy
          have hless := leftN_less (y := y) (x := x) (t := topN (degN A B m) f v) hlt (by rw [← HT.out]; exact ht1) hxle
          have hx1 : x v + t ≤ y v := by have h := hxle v hlt; unfold addAt at h; rw [if_pos rfl] at h; rw [HT.out]; exact h
          have hx2 := hyB v hlt
          have hx0 := run.xpos v hlt
          have t2 := hT7.cell (i := v - 1) (by omega)
          rw [show v - 1 + 1 = v by omega] at t2
          have t3 := hT7.frozen (v - 1)
          have s8 : IntKind.i64.wrap (x v + t) = x v + t := IntWalk.i64_in _ (by omega)
          have HRUN := Lib.hid run2
          have HCL := Lib.hid hcl
          have HLESS := Lib.hid hless
          clear hcl hless hxle hx1 hx2 run2 hL6 hO7
          go_wp2_with fail
          go_roundg (leftN (N + 1) y (addAt x v (topN (degN A B m) f v)))
          case measure => exact HLESS.out
          case rel =>
            refine ⟨addAt x v (topN (degN A B m) f v), topF (degN A B m) (btwN A B m) f v, b2, 0, cap2, rfl, rfl, hbt2, fun i hi => ?_, HRUN.out, (hK.trans hK8).setCell (p := ⟨tb, v - 1, none⟩) htb0 _, (hT7.set (v - 1) _).congr (fun i hi => ?_)⟩
            · rw [World.cell?_setCell_far _ _ _ _ (Ne.symm hbt2)]; exact HCL.out i hi
            · unfold addAt
              by_cases e : i = v - 1
              · rw [if_pos e, if_pos (by omega), ← HT.out, e, show v - 1 + 1 = v by omega]
              · rw [if_neg e, if_neg (by omega)]; simp
      · obtain rfl : v = N + 1 := by omega
        have s5 : decide (((N + 1 : Nat) : Int) < ((N + 1 : Nat) : Int)) = false := decide_eq_false (by omega)
        have s6 : decide ((N : Int) + 1 < (N : Int) + 1) = false := decide_eq_false (by omega)
        go_wp2_with fail
        go_quiet (fail)
        have hK5 : Kept Wo (wr.drewN nq) := hKi.drewN _
        clear hEi hKi
        generalize wr.drewN nq = W5 at *
        have hO := own_zero W5 W5.heap.size (Nat.le_refl _)
        have hk0 : Kept W5 (W5.alloc (.cells #[] 3)) := (Kept.refl W5).alloc _
        go_wp2_with (first | (at_builtin; refine wpList_append_own _ rfl _ _ 25 rfl W5.heap.size 3 i0 (.int .i64 0) 1 8 Try.underlying25 hi hz0 hz1 hz2 rfl (by decide) _ _ _ rfl hO ⟨b, o, none⟩ N cap (ints (fun i => f (i + 1)) N) rfl (by simp [ints]) ?c1 ?c2 ?c3 ?c4 ?c5 ?_))
        case c1 => exact fun j u h => by obtain ⟨h1, rfl⟩ := ints_get h; rw [add_at]; exact (hK5.trans hk0).cellSome (HLc.out j h1)
        case c2 => intro u hu; simp [ints] at hu; obtain ⟨i, _, rfl⟩ := hu; rfl
        case c3 => unfold maxLen; omega
        case c4 => omega
        case c5 => simp
        intro v' w2 hO2 hgr _
        have hO3 : w2.ownsRow W5.heap.size 3 1 v' N (ints (fun i => f (i + 1)) N) := by simpa using hO2
        obtain ⟨oa, ocap, rfl⟩ := own_shape hO3
        have hK7 : Kept Wo w2 := (hK5.trans hk0).step (grew_X hgr hO) (fun i hi => by have := Kept.size hK5; omega)
        have hodo : Odo (N + 1) (degN A B m) (btwN A B m) (atV hp) x := run.odo (fun u h1 h2 => hS.out u h1 h2)
        go_wp2_with fail
        go_ret2
        exact ⟨oa, ocap, tb, f, x, rfl, hK.trans hK7, ints_at hO3, CellsAt.of_row (hK7.row hT), hodo, run.eq⟩
end Go.Proofs.Ytapfiokijapomaa
