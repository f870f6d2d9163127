/-
  Package forge: At, List.
-/
import Derived.Test.YtjjeoloifggdpaaVl
import Derived.Test.YtjjeoloifggdpaaSc
import Derived.Shelf.SlicesE.Clone
namespace Go.Proofs.Ytjjeoloifggdpaa
open Go.RowKit Go.Deep Go.Sort

def Vil.at (V : Vil) : Int := idxV ((List.range V.n).find? V.forg)
set_option maxRecDepth 100000 in
theorem at1_any (w : World) (a : Int) (o : Option Addr) (n c : Nat) (x z : Bool) : Calls Try.prog 63 #[.agg #[.int .i64 a, .slice o n c, .bool x, .bool z]] w fun e w' => e = .returned (.bool z) ∧ Kept w w' := by
  have hk : Kept w (w.alloc (.cells #[.int .i64 a, .slice o n c, .bool x, .bool z] 75)) := (Kept.refl w).alloc _
  have c3 : (w.alloc (.cells #[.int .i64 a, .slice o n c, .bool x, .bool z] 75)).cell? ⟨w.heap.size, 3, none⟩ = some (.bool z) := by
    unfold World.cell?; dsimp only; rw [blk_alloc_new]; rfl
  go_enter Try.func63, Try.ntmps63
  go_wp2_with fail
  go_ret
  exact ⟨rfl, hk⟩
set_option maxRecDepth 100000 in
set_option maxHeartbeats 1000000 in
theorem idxSt_any (w : World) (p q : Nat) (V : Vil) (S : Nat → Prop) (cq : Nat) (h : VilAt w p q V S) (hn : V.n ≤ 8) :
    Calls Try.prog 62 #[.slice (some ⟨q, 0, none⟩) V.n cq, .func (.func 63) #[] #[]] w fun e w' => e = .returned (.int .i64 V.at) ∧ Kept w w' := by
  have SM := Lib.hid (fun (i : Nat) (hi : i < V.n) => smith_at h hi)
  obtain ⟨n, HN⟩ : ∃ n, Hid (n = V.n) := ⟨_, rfl⟩
  obtain ⟨z, HZ⟩ : ∃ z, Hid (z = V.at) := ⟨_, rfl⟩
  have hza : Hid (z = idxV ((List.range n).find? V.forg)) := by show _ = _; rw [HZ.out, HN.out]; rfl
  rw [← HN.out] at hn SM
  rw [← HN.out, ← HZ.out]
  clear h HZ
  go_enter Try.func62, Try.ntmps62
  go_wp2_with fail
  go_loopg [8] n (fun g s8 wr => ∃ i : Nat, i ≤ n ∧ g = n - i ∧ s8 = .int .i64 i ∧ Kept w wr ∧ Hid (∀ j, j < i → V.forg j = false))
  case atStart => exact ⟨0, Nat.zero_le _, rfl, rfl, Kept.refl _, Lib.hid fun j h => absurd h (by omega)⟩
  case round =>
    obtain ⟨i, hi, rfl, rfl, hK, HX⟩ := hrel
    by_cases hlt : i < n
    · have s2 : (i : Int) < (n : Int) := by omega
      have s3 : (0 : Int) ≤ (i : Int) := by omega
      obtain ⟨a, c, cq2, _, cw, cl, ca, cf⟩ := SM.out i hlt
      have cw := hK.cellSome cw
      have cl := hK.cellSome cl
      have ca := hK.cellSome ca
      have cf := hK.cellSome cf
      have A1 := Lib.hid (fun W => at1_any W (V.way i) a (V.lst i).length c (V.asked i) (V.forg i))
      cases he : V.forg i
      · have hno : Hid (∀ j, j < i + 1 → V.forg j = false) := Lib.hid (fun j h => by
          rcases (by omega : j < i ∨ j = i) with h1 | h1
          · exact HX.out j h1
          · subst h1; exact he)
        rw [he] at cf A1
        clear he
        go_wp2_with (first | (go_at_call 63; refine (A1.out _).mono ?_; rintro e w2 ⟨rfl, hk2⟩))
        go_roundg (n - (i + 1))
        case measure => omega
        case rel => exact ⟨i + 1, by omega, rfl, by first | rfl | go_num, hK.trans hk2, hno⟩
      · have hyes : Hid (z = (i : Int)) := by
          show _ = _
          rw [hza.out, show (List.range n).find? V.forg = some i from List.find?_range_eq_some.2 ⟨by simpa using he, by simpa using hlt, fun j hj => by rw [HX.out j hj]; rfl⟩]; rfl
        rw [he] at cf A1
        clear he
        go_wp2_with (first | (go_at_call 63; refine (A1.out _).mono ?_; rintro e w2 ⟨rfl, hk2⟩))
        go_ret
        exact ⟨by rw [hyes.out]; rfl, hK.trans hk2⟩
    · obtain rfl : i = n := by omega
      have s2 : ¬ (i : Int) < (i : Int) := by omega
      have hno : Hid (z = -1) := by
        show _ = _
        rw [hza.out, show (List.range i).find? V.forg = none from List.find?_eq_none.2 fun j hj => by rw [HX.out j (List.mem_range.1 hj)]; simp]; rfl
      go_wp2_with fail
      go_ret
      exact ⟨by rw [hno.out]; rfl, hK⟩
set_option maxRecDepth 100000 in
theorem At_any (w : World) (p q : Nat) (V : Vil) (S : Nat → Prop) (h : VilAt w p q V S) (hn : V.n ≤ 8) : Calls Try.prog 29 #[ptr p] w fun e w' => e = .returned (.int .i64 V.at) ∧ Kept w w' := by
  have IR := Lib.hid (isReturned_any w p q V S h)
  have IX := Lib.hid (fun cq => idxSt_any w p q V S cq h hn)
  obtain ⟨vo, vf, vl, cq, h⟩ := h
  have c2 := h.box2
  unfold ptr at *
  generalize V.at = z at *
  clear h
  go_enter Try.func29, Try.ntmps29
  go_wp2_with (first
    | (go_at_call 50; refine IR.out.mono ?_; rintro e w1 ⟨rfl, rfl⟩)
    | (go_at_call 62; refine (IX.out _).mono ?_; rintro e w2 ⟨rfl, hk2⟩))
  go_ret
  exact ⟨rfl, hk2⟩
theorem Kept.of_below {a b : World} (h : Below a.heap.size a b) : Kept a b := Kept.below h
/-- a copy of a list of numbers -/
theorem clone_int (w : World) (v : Value) (l : List Nat) (base : Nat) (h : w.ownsRow base 3 1 v l.length (natsV l)) (hl : l.length ≤ 1000000) :
    Calls Try.prog 42 #[v] w fun e w' => ∃ v', e = .returned v' ∧ w'.ownsRow w.heap.size 3 1 v' l.length (natsV l) ∧ Kept w w' := by
  obtain ⟨i0, hi0, hz0, hz1, hz2⟩ := info_parts Try.info3
  by_cases h0 : v = .slice none 0 0
  · subst h0
    have hl0 : l = [] := by
      rcases h.2 with ⟨_, h1⟩ | ⟨g, cap, cur, h1, _⟩
      · exact List.length_eq_zero_iff.1 h1
      · cases h1
    subst hl0
    refine Calls.mono (show Calls Try.prog 42 _ _ _ from AnyE.slices_Clone_nil Try.laysCloI 0 0 w) ?_
    rintro e w' ⟨rfl, rfl⟩
    exact ⟨_, rfl, ⟨rfl, .inl ⟨rfl, rfl⟩⟩, Kept.refl _⟩
  · obtain ⟨g, cap, rfl, hbg, hgl, hncap, hcm, hlen, hH⟩ := Lib.holds_of_ownsRow (enc := natV) (zs := l) h h0
    refine Calls.mono (show Calls Try.prog 42 _ _ _ from AnyE.slices_Clone Try.laysCloI i0 (.int .i64 0) 1 8 hi0 hz0 hz1 hz2 rfl (by decide) (fun w => Try.sizeOf3 w) g 0 l.length cap (natsV l) w (by rw [natsV_len]; omega) (by unfold maxLen; omega) (by omega) (fun j u hu => ?_) (fun u hu => ?_)) ?_
    · have hj : j < l.length := by have := (List.getElem?_eq_some_iff.1 hu).1; rwa [natsV_len] at this
      have := (hH j (by simpa using hj)).1
      rw [this]
      rw [← hu]
      simp [natsV, hj]
    · obtain ⟨x, _, rfl⟩ := List.mem_map.1 hu; rfl
    · rintro e w' ⟨v', rfl, hO, _, hb⟩
      exact ⟨v', rfl, hO, Kept.below hb⟩
set_option maxRecDepth 100000 in
theorem List_any (w : World) (p q : Nat) (V : Vil) (S : Nat → Prop) (x : Int) (h : VilAt w p q V S) (hs : V.Small 1000000) : Calls Try.prog 32 #[ptr p, .int .i64 x] w fun e w' => ∃ v, e = .returned v ∧ w'.ownsRow w.heap.size 3 1 v (if inV V.n x then V.lst x.toNat else []).length (natsV (if inV V.n x then V.lst x.toNat else [])) ∧ Kept w w' := by
  have CH := Lib.hid (check_any w p q V S x h)
  obtain ⟨vo, vf, vl, cq, h⟩ := h
  have c2 := h.box2
  cases hx : inV V.n x
  · rw [hx] at CH
    have hfin : Hid (w.ownsRow w.heap.size 3 1 (.slice none 0 0) (if false = true then V.lst x.toNat else []).length (natsV (if false = true then V.lst x.toNat else []))) := Lib.hid ⟨rfl, .inl ⟨rfl, rfl⟩⟩
    generalize (if false = true then V.lst x.toNat else []) = l at *
    clear h c2 hx
    go_enter Try.func32, Try.ntmps32
    go_wp2_with (first | (go_at_call 45; refine CH.out.mono ?_; rintro e w1 ⟨rfl, rfl⟩))
    go_ret
    exact ⟨_, rfl, hfin.out, Kept.refl _⟩
  · rw [hx] at CH
    obtain ⟨i, rfl, hi⟩ := inV_nat hx
    have c := h.list hi
    have CL := Lib.hid (clone_int w (vl i) (V.lst i) 0 (h.lst i hi) (hs.lst i))
    obtain ⟨va, vc, hv⟩ := own_shape (h.lst i hi)
    rw [hv] at c CL
    have i1 : (i : Int) < (V.n : Int) := by omega
    have i0 : (0 : Int) ≤ (i : Int) := by omega
    rw [if_pos rfl, Int.toNat_natCast]
    generalize V.lst i = l at *
    unfold ptr at *
    clear h hx hs hv
    go_enter Try.func32, Try.ntmps32
    go_wp2_with (first
      | (go_at_call 45; refine CH.out.mono ?_; rintro e w1 ⟨rfl, rfl⟩)
      | (go_at_call 42; refine CL.out.mono ?_; rintro e w2 ⟨v', rfl, hO, hk⟩))
    go_ret
    exact ⟨_, rfl, hO, hk⟩
end Go.Proofs.Ytjjeoloifggdpaa
