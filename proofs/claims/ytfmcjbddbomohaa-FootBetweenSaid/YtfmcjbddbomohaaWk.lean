/-
  Walk, as the package exports it.
-/
import Derived.Test.YtfmcjbddbomohaaWx
import Derived.Test.YtfmcjbddbomohaaWb
import Derived.Test.YtfmcjbddbomohaaZi
namespace Go.Proofs.Ytfmcjbddbomohaa
open Go.RowKit Go.Deep

/-- what beyond has captured -/
structure BeyAt (w : World) (gw gl m n ba bb : Nat) (limit : Int) : Prop where
  c0 : w.cell? ⟨gw, 0, none⟩ = some (.int .i64 m)
  c1 : w.cell? ⟨gw, 1, none⟩ = some (.int .i64 n)
  c2 : w.cell? ⟨gw, 2, none⟩ = some (.func (.func 71) #[] #[.pointer (some ⟨ba, 0, none⟩), .pointer (some ⟨bb, 0, none⟩)])
  l0 : w.cell? ⟨gl, 0, none⟩ = some (.int .i64 limit)
theorem BeyAt.kept {w w' : World} {gw gl m n ba bb : Nat} {limit : Int} (h : BeyAt w gw gl m n ba bb limit) (k : Kept w w') : BeyAt w' gw gl m n ba bb limit := ⟨k.cellSome h.c0, k.cellSome h.c1, k.cellSome h.c2, k.cellSome h.l0⟩
theorem box3 (w : World) (a b c : Value) (t : TypeId) : (w.alloc (.cells #[a, b, c] t)).cell? ⟨w.heap.size, 0, none⟩ = some a ∧ (w.alloc (.cells #[a, b, c] t)).cell? ⟨w.heap.size, 1, none⟩ = some b ∧ (w.alloc (.cells #[a, b, c] t)).cell? ⟨w.heap.size, 2, none⟩ = some c := by
  refine ⟨?_, ?_, ?_⟩ <;> (unfold World.cell?; dsimp only; rw [blk_alloc_new]; rfl)
def BeyPost (w : World) (m n ba bb : Nat) (limit : Int) (e : Ending) (w' : World) : Prop := ∃ gw gl, e = .returned (WalksV m n (FarB gw gl)) ∧ Kept w w' ∧ BeyAt w' gw gl m n ba bb limit
set_option maxRecDepth 100000 in
set_option maxHeartbeats 2000000 in
theorem beyond_any (w : World) (m n ba bb : Nat) (limit : Int) :
    Calls Try.prog 54 #[WalksV m n (FarV ba bb), .int .i64 limit] w (BeyPost w m n ba bb limit) := by
  have hmf : ∀ (fn : Fn) (first cap : Array Value) (w : World), (Instr.makeFunc fn first cap).run Try.prog w = .ok (.func fn first cap) w := fun _ _ _ _ => rfl
  obtain ⟨d0, d1, d2⟩ := box3 w (.int .i64 m) (.int .i64 n) (FarV ba bb) 89
  unfold FarV at d0 d1 d2
  have hk1 := (Kept.refl (w.alloc (.cells #[.int .i64 m, .int .i64 n, .func (.func 71) #[] #[.pointer (some ⟨ba, 0, none⟩), .pointer (some ⟨bb, 0, none⟩)]] 89))).alloc (.cells #[.int .i64 limit] 3)
  have c2 := one_at (w.alloc (.cells #[.int .i64 m, .int .i64 n, .func (.func 71) #[] #[.pointer (some ⟨ba, 0, none⟩), .pointer (some ⟨bb, 0, none⟩)]] 89)) (.int .i64 limit) 3 (w.heap.size + 1) (by simp)
  have e0 := hk1.cellSome d0
  have e1 := hk1.cellSome d1
  have e2 := hk1.cellSome d2
  have hK : Kept w ((w.alloc (.cells #[.int .i64 m, .int .i64 n, .func (.func 71) #[] #[.pointer (some ⟨ba, 0, none⟩), .pointer (some ⟨bb, 0, none⟩)]] 89)).alloc (.cells #[.int .i64 limit] 3)) := ((Kept.refl w).alloc _).alloc _
  have hk2 := (Kept.refl ((w.alloc (.cells #[.int .i64 m, .int .i64 n, .func (.func 71) #[] #[.pointer (some ⟨ba, 0, none⟩), .pointer (some ⟨bb, 0, none⟩)]] 89)).alloc (.cells #[.int .i64 limit] 3))).alloc (.cells #[.int .i64 m, .int .i64 n, .func (.func 74) #[] #[.pointer (some ⟨w.heap.size, 0, none⟩), .pointer (some ⟨w.heap.size + 1, 0, none⟩)]] 89)
  have hbey : BeyAt (((w.alloc (.cells #[.int .i64 m, .int .i64 n, .func (.func 71) #[] #[.pointer (some ⟨ba, 0, none⟩), .pointer (some ⟨bb, 0, none⟩)]] 89)).alloc (.cells #[.int .i64 limit] 3)).alloc (.cells #[.int .i64 m, .int .i64 n, .func (.func 74) #[] #[.pointer (some ⟨w.heap.size, 0, none⟩), .pointer (some ⟨w.heap.size + 1, 0, none⟩)]] 89)) w.heap.size (w.heap.size + 1) m n ba bb limit := ⟨hk2.cellSome e0, hk2.cellSome e1, hk2.cellSome e2, hk2.cellSome c2⟩
  have hK2 := hK.trans hk2
  obtain ⟨r0, r1, r2⟩ := box3 ((w.alloc (.cells #[.int .i64 m, .int .i64 n, .func (.func 71) #[] #[.pointer (some ⟨ba, 0, none⟩), .pointer (some ⟨bb, 0, none⟩)]] 89)).alloc (.cells #[.int .i64 limit] 3)) (.int .i64 m) (.int .i64 n) (.func (.func 74) #[] #[.pointer (some ⟨w.heap.size, 0, none⟩), .pointer (some ⟨w.heap.size + 1, 0, none⟩)]) 89
  simp only [nblk_alloc] at r0 r1 r2
  have HBEY := Lib.hid hbey
  unfold WalksV FarV
  clear d0 d1 d2 hk1 hk2 hbey
  go_enter Try.func54, Try.ntmps54
  go_wp2_with fail
  refine bodyPost_ret (v := .agg #[.int .i64 m, .int .i64 n, .func (.func 74) #[] #[.pointer (some ⟨w.heap.size, 0, none⟩), .pointer (some ⟨w.heap.size + 1, 0, none⟩)]]) (by simp [results, Try.results54, go_sem, r0, r1, r2]) rfl ⟨_, _, rfl, hK2, HBEY.out⟩
set_option maxRecDepth 100000 in
set_option maxHeartbeats 2000000 in
theorem beyond1_any (w : World) (m n i j gw gl ba bb : Nat) (a b : Option Addr) (cap cap2 : Nat) (X Y U V : Nat → Int) (limit : Int) (hG : BeyAt w gw gl m n ba bb limit) (hB : BothAt w ba bb a m cap b n cap2) (h1 : PairsAt w (.slice a m cap) m X Y) (h2 : PairsAt w (.slice b n cap2) n U V) (r1 : InR m X Y) (r2 : InR n U V) (hi : i < m) (hj : j < n) :
    Calls Try.prog 74 #[.agg #[.int .i64 i, .int .i64 j], .pointer (some ⟨gw, 0, none⟩), .pointer (some ⟨gl, 0, none⟩)] w fun e w' => e = .returned (.int .i64 (F01 X Y U V limit i j)) ∧ Kept w w' := by
  obtain ⟨_, b1, o1, _, e1, ha1, hc1⟩ := h1
  cases e1
  obtain rfl := ha1 (by omega)
  obtain ⟨_, b2, o2, _, e2, ha2, hc2⟩ := h2
  cases e2
  obtain rfl := ha2 (by omega)
  obtain ⟨q0, q1⟩ := box2 w (.int .i64 i) (.int .i64 j) 98
  have hk0 : Kept w (w.alloc (.cells #[.int .i64 i, .int .i64 j] 98)) := (Kept.refl w).alloc _
  have hG1 := hG.kept hk0
  have g2 := hG1.c2
  have gl0 := hG1.l0
  have hba := hk0.cellSome hB.1
  have hbb := hk0.cellSome hB.2
  have x0 := hk0.cellSome (hc1 i hi).1
  have x1 := hk0.cellSome (hc1 i hi).2
  have y0 := hk0.cellSome (hc2 j hj).1
  have y1 := hk0.cellSome (hc2 j hj).2
  have hx := (r1 i hi).1
  have hy := (r1 i hi).2
  have hu := (r2 j hj).1
  have hv := (r2 j hj).2
  obtain ⟨d, HD⟩ : ∃ d, Hid (d = dist (X i) (Y i) (U j) (V j)) := ⟨_, rfl⟩
  have hval : Hid (F01 X Y U V limit i j = if d ≤ limit then 0 else 1) := by show _ = _; unfold F01 distF; rw [← HD.out]
  clear hG hG1 hB hc1 hc2 ha1 ha2 r1 r2
  go_enter Try.func74, Try.ntmps74
  go_wp2_with fail
  obtain ⟨g, HG⟩ : ∃ g, Hid (g = w.heap.size) := ⟨_, rfl⟩
  rw [← HG.out] at q0 q1 ⊢
  generalize w.alloc (.cells #[.int .i64 i, .int .i64 j] 98) = W at *
  by_cases hle : d ≤ limit
  · go_region_held3 (fun w' => w'.cell? ⟨g, 0, none⟩ = some (.int .i64 i) ∧ w'.cell? ⟨g, 1, none⟩ = some (.int .i64 j) ∧ w'.cell? ⟨gw, 2, none⟩ = some (.func (.func 71) #[] #[.pointer (some ⟨ba, 0, none⟩), .pointer (some ⟨bb, 0, none⟩)]) ∧ w'.cell? ⟨gl, 0, none⟩ = some (.int .i64 limit) ∧ Kept W w')
      (exact keep4 q0 q1 g2 gl0 (by repeat (first | assumption | exact Kept.refl _ | apply Kept.drew | apply Kept.drewN | apply Kept.alloc | refine Kept.trans ?_ (by assumption))))
      (first | (go_at_call 71; refine (between1_any _ m n i j ba bb b1 o1 cap b2 o2 cap2 X Y U V (Kept.cellSome (by repeat (first | assumption | exact Kept.refl _ | apply Kept.drew | apply Kept.drewN | apply Kept.alloc | refine Kept.trans ?_ (by assumption))) hba) (Kept.cellSome (by repeat (first | assumption | exact Kept.refl _ | apply Kept.drew | apply Kept.drewN | apply Kept.alloc | refine Kept.trans ?_ (by assumption))) hbb) hi hj (Kept.cellSome (by repeat (first | assumption | exact Kept.refl _ | apply Kept.drew | apply Kept.drewN | apply Kept.alloc | refine Kept.trans ?_ (by assumption))) x0) (Kept.cellSome (by repeat (first | assumption | exact Kept.refl _ | apply Kept.drew | apply Kept.drewN | apply Kept.alloc | refine Kept.trans ?_ (by assumption))) x1) (Kept.cellSome (by repeat (first | assumption | exact Kept.refl _ | apply Kept.drew | apply Kept.drewN | apply Kept.alloc | refine Kept.trans ?_ (by assumption))) y0) (Kept.cellSome (by repeat (first | assumption | exact Kept.refl _ | apply Kept.drew | apply Kept.drewN | apply Kept.alloc | refine Kept.trans ?_ (by assumption))) y1) hx hy hu hv).mono ?_; rw [← HD.out]; rintro e w2 ⟨rfl, hk2⟩))
    all_goals
      have hKW : Kept W w2 := (by repeat (first | assumption | exact Kept.refl _ | apply Kept.drew | apply Kept.drewN | apply Kept.alloc | refine Kept.trans ?_ (by assumption)))
      go_wp2_with fail
      go_ret
      exact ⟨ret_int (by rw [hval.out, if_pos hle]), hk0.trans hKW⟩
  · go_region_held3 (fun w' => w'.cell? ⟨g, 0, none⟩ = some (.int .i64 i) ∧ w'.cell? ⟨g, 1, none⟩ = some (.int .i64 j) ∧ w'.cell? ⟨gw, 2, none⟩ = some (.func (.func 71) #[] #[.pointer (some ⟨ba, 0, none⟩), .pointer (some ⟨bb, 0, none⟩)]) ∧ w'.cell? ⟨gl, 0, none⟩ = some (.int .i64 limit) ∧ Kept W w')
      (exact keep4 q0 q1 g2 gl0 (by repeat (first | assumption | exact Kept.refl _ | apply Kept.drew | apply Kept.drewN | apply Kept.alloc | refine Kept.trans ?_ (by assumption))))
      (first | (go_at_call 71; refine (between1_any _ m n i j ba bb b1 o1 cap b2 o2 cap2 X Y U V (Kept.cellSome (by repeat (first | assumption | exact Kept.refl _ | apply Kept.drew | apply Kept.drewN | apply Kept.alloc | refine Kept.trans ?_ (by assumption))) hba) (Kept.cellSome (by repeat (first | assumption | exact Kept.refl _ | apply Kept.drew | apply Kept.drewN | apply Kept.alloc | refine Kept.trans ?_ (by assumption))) hbb) hi hj (Kept.cellSome (by repeat (first | assumption | exact Kept.refl _ | apply Kept.drew | apply Kept.drewN | apply Kept.alloc | refine Kept.trans ?_ (by assumption))) x0) (Kept.cellSome (by repeat (first | assumption | exact Kept.refl _ | apply Kept.drew | apply Kept.drewN | apply Kept.alloc | refine Kept.trans ?_ (by assumption))) x1) (Kept.cellSome (by repeat (first | assumption | exact Kept.refl _ | apply Kept.drew | apply Kept.drewN | apply Kept.alloc | refine Kept.trans ?_ (by assumption))) y0) (Kept.cellSome (by repeat (first | assumption | exact Kept.refl _ | apply Kept.drew | apply Kept.drewN | apply Kept.alloc | refine Kept.trans ?_ (by assumption))) y1) hx hy hu hv).mono ?_; rw [← HD.out]; rintro e w2 ⟨rfl, hk2⟩))
    all_goals
      have hKW : Kept W w2 := (by repeat (first | assumption | exact Kept.refl _ | apply Kept.drew | apply Kept.drewN | apply Kept.alloc | refine Kept.trans ?_ (by assumption)))
      go_wp2_with fail
      go_ret
      exact ⟨ret_int (by rw [hval.out, if_neg (by omega)]), hk0.trans hKW⟩
end Go.Proofs.Ytfmcjbddbomohaa
