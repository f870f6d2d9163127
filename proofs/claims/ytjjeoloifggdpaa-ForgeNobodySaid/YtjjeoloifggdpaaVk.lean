/-
  Package forge: areNeighbours, Deliver.
-/
import Derived.Test.YtjjeoloifggdpaaVj
namespace Go.Proofs.Ytjjeoloifggdpaa
open Go.RowKit Go.Deep Go.Sort

/-- are they beside one another? -/
def Vil.beside (V : Vil) (a b : Nat) : Bool := decide (a ≠ b) && (decide (V.on a = b) || decide (V.on b = a))
def Vil.nei (V : Vil) (x y : Int) : Bool := inV V.n x && (inV V.n y && V.beside x.toNat y.toNat)
theorem on_at {w : World} {p q : Nat} {vo vf : Value} {vl : Nat → Value} {cq : Nat} {V : Vil} {S : Nat → Prop} (h : VilP w p q vo vf vl cq V S) : CellsAt w vo V.n (fun i => .int .i64 ((V.on i : Nat) : Int)) :=
  (CellsAt.of_own h.on).congr fun i hi => by simp [natsV, natV, hi]
set_option maxRecDepth 100000 in
set_option maxHeartbeats 1000000 in
theorem areNeighbours_any (w : World) (p q : Nat) (V : Vil) (S : Nat → Prop) (x y : Int) (h : VilAt w p q V S) :
    Calls Try.prog 52 #[ptr p, .int .i64 x, .int .i64 y] w fun e w' => e = .returned (.bool (V.nei x y)) ∧ w = w' := by
  have HX := Lib.hid (has_any w p q V S x h)
  have HY := Lib.hid (has_any w p q V S y h)
  obtain ⟨vo, vf, vl, cq, h⟩ := h
  have c1 := h.box1
  obtain ⟨a, b, o, cap, rfl, ha, hc⟩ := on_at h
  have HC := Lib.hid hc
  clear hc h
  have tok1 := Lib.hid True.intro
  unfold ptr at *
  cases hx : inV V.n x
  · rw [hx] at HX
    rw [show V.nei x y = false by unfold Vil.nei; rw [hx]; rfl]
    clear hx HY
    go_enter Try.func52, Try.ntmps52
    go_wp2_with (first | (go_at_call 65; refine HX.out.mono ?_; rintro e w1 ⟨rfl, rfl⟩))
    go_ret
    exact ⟨rfl, rfl⟩
  · cases hy : inV V.n y
    · rw [hx] at HX
      rw [hy] at HY
      rw [show V.nei x y = false by unfold Vil.nei; rw [hx, hy]; rfl]
      clear hx hy
      go_enter Try.func52, Try.ntmps52
      go_wp2_with (first | (go_at_call 65; clear tok1; refine HX.out.mono ?_; rintro e w1 ⟨rfl, rfl⟩) | (go_at_call 65; refine HY.out.mono ?_; rintro e w1 ⟨rfl, rfl⟩))
      go_ret
      exact ⟨rfl, rfl⟩
    · rw [hx] at HX
      rw [hy] at HY
      have hN : V.nei x y = V.beside x.toNat y.toNat := by unfold Vil.nei; rw [hx, hy]; rfl
      obtain ⟨i, rfl, hi⟩ := inV_nat hx
      obtain ⟨j, rfl, hj⟩ := inV_nat hy
      rw [hN, Int.toNat_natCast, Int.toNat_natCast]
      obtain rfl := ha (by omega)
      have t0 := HC.out i hi
      have t1 := HC.out j hj
      have i1 : (i : Int) < (V.n : Int) := by omega
      have i0 : (0 : Int) ≤ (i : Int) := by omega
      have j1 : (j : Int) < (V.n : Int) := by omega
      have j0 : (0 : Int) ≤ (j : Int) := by omega
      have hB : V.beside i j = (decide (i ≠ j) && (decide (V.on i = j) || decide (V.on j = i))) := rfl
      (try dsimp only at t0 t1)
      generalize V.on i = u at *
      generalize V.on j = v at *
      rw [hB]
      clear hx hy hN hB HC
      by_cases e1 : i = j
      · have f1 : ((i : Int) != (j : Int)) = false := by rw [e1]; simp
        rw [decide_eq_false (by omega : ¬ i ≠ j), Bool.false_and]
        clear e1
        go_enter Try.func52, Try.ntmps52
        go_wp2_with (first | (go_at_call 65; clear tok1; refine HX.out.mono ?_; rintro e w1 ⟨rfl, rfl⟩) | (go_at_call 65; refine HY.out.mono ?_; rintro e w1 ⟨rfl, rfl⟩))
        go_ret
        exact ⟨rfl, rfl⟩
      · have f1 : ((i : Int) != (j : Int)) = true := by simp; omega
        rw [decide_eq_true e1, Bool.true_and]
        clear e1
        by_cases e2 : u = j
        · have f2 : ((u : Int) == (j : Int)) = true := by rw [e2]; simp
          rw [decide_eq_true e2, Bool.true_or]
          clear e2
          go_enter Try.func52, Try.ntmps52
          go_wp2_with (first | (go_at_call 65; clear tok1; refine HX.out.mono ?_; rintro e w1 ⟨rfl, rfl⟩) | (go_at_call 65; refine HY.out.mono ?_; rintro e w1 ⟨rfl, rfl⟩))
          go_ret
          exact ⟨rfl, rfl⟩
        · have f2 : ((u : Int) == (j : Int)) = false := by simp only [beq_eq_false_iff_ne]; omega
          rw [decide_eq_false e2, Bool.false_or]
          have f3 : ((v : Int) == (i : Int)) = decide (v = i) := by rw [Bool.eq_iff_iff]; simp; omega
          generalize decide (v = i) = z at *
          clear e2
          go_enter Try.func52, Try.ntmps52
          go_wp2_with (first | (go_at_call 65; clear tok1; refine HX.out.mono ?_; rintro e w1 ⟨rfl, rfl⟩) | (go_at_call 65; refine HY.out.mono ?_; rintro e w1 ⟨rfl, rfl⟩))
          go_ret
          exact ⟨rfl, rfl⟩
/-- between these two -/
def betw (f t : Nat) (m : Msg) : Bool := decide (m.src = f) && decide (m.dst = t)
def idxV (o : Option Nat) : Int := match o with | some i => i | none => -1
theorem msgs_at {w : World} {base : Nat} {v : Value} {l : List Msg} (h : w.ownsRow base 80 1 v l.length (msgsV l)) : CellsAt w v l.length (fun i => msgV (l.getD i ⟨0, 0, false⟩)) :=
  (CellsAt.of_own h).congr fun i hi => by simp [msgsV, hi]
set_option maxRecDepth 100000 in
set_option maxHeartbeats 1000000 in
theorem idxMsg_any (w : World) (v : Value) (l : List Msg) (f t b c : Nat) (h : CellsAt w v l.length (fun i => msgV (l.getD i ⟨0, 0, false⟩))) (hl : l.length ≤ 1000000) (hb : w.cell? ⟨b, 0, none⟩ = some (.int .i64 (f : Int))) (hc : w.cell? ⟨c, 0, none⟩ = some (.int .i64 (t : Int))) :
    Calls Try.prog 53 #[v, .func (.func 54) #[] #[.pointer (some ⟨b, 0, none⟩), .pointer (some ⟨c, 0, none⟩)]] w fun e w' => e = .returned (.int .i64 (idxV (l.findIdx? (betw f t)))) ∧ Kept w w' := by
  obtain ⟨a, bb, o, cap, rfl, ha, hcc⟩ := h
  have HC := Lib.hid hcc
  have eg := enters_of Try.func54 (by kernel_rfl) rfl
  obtain ⟨n, HN⟩ : ∃ n, Hid (n = l.length) := ⟨_, rfl⟩
  rw [← HN.out] at ha hl HC ⊢
  obtain ⟨z, HZ⟩ : ∃ z, Hid (z = idxV (l.findIdx? (betw f t))) := ⟨_, rfl⟩
  rw [← HZ.out]
  clear hcc
  go_enter Try.func53, Try.ntmps53
  go_wp2_with fail
  go_loopg [8] n (fun g s8 wr => ∃ i : Nat, i ≤ n ∧ g = n - i ∧ s8 = .int .i64 i ∧ Kept w wr ∧ Hid (∀ j (hj : j < l.length), j < i → betw f t l[j] = false))
  case atStart => exact ⟨0, Nat.zero_le _, rfl, rfl, Kept.refl _, Lib.hid fun j _ h => absurd h (by omega)⟩
  case round =>
    obtain ⟨i, hi, rfl, rfl, hK, HX⟩ := hrel
    by_cases hlt : i < n
    · obtain rfl := ha (by omega)
      have t0 := hK.cellSome (HC.out i hlt)
      have s2 : (i : Int) < (n : Int) := by omega
      have s3 : (0 : Int) ≤ (i : Int) := by omega
      have hiL : i < l.length := by rw [← HN.out]; exact hlt
      (try dsimp only at t0)
      rw [show l.getD i ⟨0, 0, false⟩ = l[i] by simp [hiL]] at t0
      have DE := Lib.hid (fun W (k : Kept w W) => deliver1_any W l[i] f t b c (k.cellSome hb) (k.cellSome hc))
      obtain ⟨ty, y, HM⟩ : ∃ ty y, Hid (Value.iface ty y = msgV l[i]) := ⟨_, _, Lib.hid (show msgV l[i] = msgV l[i] from rfl)⟩
      rw [← HM.out] at t0 DE
      cases he : betw f t l[i]
      · have hno : Hid (∀ j (hj : j < l.length), j < i + 1 → betw f t l[j] = false) := Lib.hid (fun j hj h => by
          rcases (by omega : j < i ∨ j = i) with h1 | h1
          · exact HX.out j hj h1
          · subst h1; exact he)
        have he2 : (decide (l[i].src = f) && decide (l[i].dst = t)) = false := he
        rw [he2] at DE
        clear he he2
        go_wp2_with (first | (go_at_call 54; refine (DE.out _ hK).mono ?_; rintro e w2 ⟨rfl, hk2⟩))
        go_roundg (n - (i + 1))
        case measure => omega
        case rel => exact ⟨i + 1, by omega, rfl, by first | rfl | go_num, hK.trans hk2, hno⟩
      · have hyes : Hid (z = (i : Int)) := by
          show _ = _
          rw [HZ.out, show l.findIdx? (betw f t) = some i from List.findIdx?_eq_some_iff_getElem.2 ⟨hiL, he, fun j hj => by rw [HX.out j (by omega) hj]; simp⟩]; rfl
        have he2 : (decide (l[i].src = f) && decide (l[i].dst = t)) = true := he
        rw [he2] at DE
        clear he he2
        go_wp2_with (first | (go_at_call 54; refine (DE.out _ hK).mono ?_; rintro e w2 ⟨rfl, hk2⟩))
        go_ret
        exact ⟨by rw [hyes.out]; rfl, hK.trans hk2⟩
    · obtain rfl : i = n := by omega
      have s2 : ¬ (i : Int) < (i : Int) := by omega
      have hno : Hid (z = -1) := by
        show _ = _
        rw [HZ.out, show l.findIdx? (betw f t) = none from List.findIdx?_eq_none_iff.2 fun m hm => by
          obtain ⟨j, hj, rfl⟩ := List.getElem_of_mem hm
          exact HX.out j hj (by rw [HN.out]; exact hj)]; rfl
      go_wp2_with fail
      go_ret
      exact ⟨by rw [hno.out]; rfl, hK⟩
end Go.Proofs.Ytjjeoloifggdpaa
