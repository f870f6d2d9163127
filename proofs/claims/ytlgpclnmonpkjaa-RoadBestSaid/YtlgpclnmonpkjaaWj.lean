/-
  The reference's Toward.
-/
import Derived.Test.YtlgpclnmonpkjaaWi
namespace Go.Proofs.Ytlgpclnmonpkjaa
open Go.RowKit Go.Deep

theorem Road.up_near {R : Road} (h : R.Ok) {s t : Sp} (hs : R.spot s) (ht : R.spot t) (hlt : R.top s t < R.dep s) : R.dist (R.up s) t < R.dist s t := by
  have tl := Road.top_le h hs ht
  rw [← Road.au_up (R := R) (s := s) (by omega)]
  have h1 := Road.top_at h hs ht (d := R.dep s - 1) (by omega)
  have h2 := Road.au_dep h hs (d := R.dep s - 1) (by omega)
  unfold Road.dist
  rw [h1, h2]
  omega
theorem Road.up_far {R : Road} (h : R.Ok) {s t : Sp} (hs : R.spot s) (ht : R.spot t) (hlt : ¬ R.top s t < R.dep s) : ¬ R.dist (R.up s) t < R.dist s t := by
  have tl := Road.top_le h hs ht
  by_cases e : R.dep s = 0
  · have h1 := Road.dep_up h hs
    have h2 := Road.dep_zero h hs e
    have h3 := Road.dep_zero h (Road.up_spot h hs) (by omega)
    rw [h3, h2]
    omega
  · rw [← Road.au_up (R := R) (s := s) (by omega)]
    have h1 := Road.top_at h hs ht (d := R.dep s - 1) (by omega)
    have h2 := Road.au_dep h hs (d := R.dep s - 1) (by omega)
    unfold Road.dist
    rw [h1, h2]
    omega
/-- from an ancestor on the way: the spot at its depth is itself -/
theorem Road.au_anc {R : Road} (h : R.Ok) {s t : Sp} (hs : R.spot s) (ht : R.spot t) (hlt : ¬ R.top s t < R.dep s) : R.au t (R.dep s) = s := by
  have tl := Road.top_le h hs ht
  have e := Road.top_au h hs ht
  rw [show R.top s t = R.dep s by omega, Road.au_self] at e
  exact e.symm
set_option maxRecDepth 100000 in
set_option maxHeartbeats 4000000 in
theorem Toward_any (w : World) (v : Value) (R : Road) (ok : R.Ok) (hT : RefAt w v R) (s t : Sp) (hs : R.spot s) (ht : R.spot t) (hne : s ≠ t) :
    Calls Try.prog 55 #[v, SpV s, SpV t] w fun e w' => e = .returned (SpV (R.to s t)) ∧ Kept w w' := by
  have hT0 := hT
  obtain ⟨b0, o0, c0, b1, o1, c1, rfl, _, _⟩ := hT.open ok
  have UP := Lib.hid (fun W s (hW : RefAt W (.agg #[.slice (some ⟨b0, o0, none⟩) R.n c0, .slice (some ⟨b1, o1, none⟩) R.n c1]) R) (hs : R.spot s) => Up_any W _ R ok hW s hs)
  have DS := Lib.hid (fun W s t (hW : RefAt W (.agg #[.slice (some ⟨b0, o0, none⟩) R.n c0, .slice (some ⟨b1, o1, none⟩) R.n c1]) R) (hs : R.spot s) (ht : R.spot t) => rDistance_any W _ R ok hW s t hs ht)
  have hus := Road.up_spot ok hs
  have DSt := Lib.hid (fun W hW => DS.out W s t hW hs ht)
  have DUt := Lib.hid (fun W hW => DS.out W (R.up s) t hW hus ht)
  have UPs := Lib.hid (fun W hW => UP.out W s hW hs)
  have hnear := fun hlt => Road.up_near ok hs ht hlt
  have hfar := fun hlt => Road.up_far ok hs ht hlt
  have hanc := fun hlt => Road.au_anc ok hs ht hlt
  have tl := Road.top_le ok hs ht
  have hsame := fun h1 h2 => Road.top_same ok hs ht h1 h2
  have hroot : R.dep s ≠ 0 → s ≠ (0, 0) := fun h e => h (by rw [e]; rfl)
  have hv : Hid (SpV (R.to s t) = SpV (if R.top s t < R.dep s then R.up s else R.au t (R.dep s + 1))) := rfl
  obtain ⟨⟨i, j⟩, HI⟩ : ∃ z, z = R.up s := ⟨_, rfl⟩
  rw [← HI] at DUt UPs hv hnear hfar
  obtain ⟨ds, HDS⟩ : ∃ z, z = R.dist s t := ⟨_, rfl⟩
  obtain ⟨du, HDU⟩ : ∃ z, z = R.dist (i, j) t := ⟨_, rfl⟩
  rw [← HDS] at hnear hfar DSt
  rw [← HDU] at hnear hfar DUt
  obtain ⟨n0, HN0⟩ : ∃ n0, w.heap.size = n0 := ⟨_, rfl⟩
  obtain ⟨W1, hW1, hsz, y0, y1, hK⟩ := newbox2 w n0 HN0 (.slice (some ⟨b0, o0, none⟩) R.n c0) (.slice (some ⟨b1, o1, none⟩) R.n c1) 24
  obtain ⟨W2, hW2, hsz2, yS0, yS1, hK12⟩ := newbox2 W1 (n0 + 1) hsz (.int .i64 ((s.1 : Nat) : Int)) (.int .i64 ((s.2 : Nat) : Int)) 26
  have hrowT := box2row W2 (n0 + 1 + 1) hsz2 (.int .i64 ((t.1 : Nat) : Int)) (.int .i64 ((t.2 : Nat) : Int)) 26
  obtain ⟨W3, hW3, hsz3, _, _, hK23⟩ := newbox2 W2 (n0 + 1 + 1) hsz2 (.int .i64 ((t.1 : Nat) : Int)) (.int .i64 ((t.2 : Nat) : Int)) 26
  rw [hW3] at hrowT
  have hrowR := box2row W3 (n0 + 1 + 1 + 1) hsz3 (.int .i64 0) (.int .i64 0) 26
  obtain ⟨W4, hW4, hsz4, _, _, hK34⟩ := newbox2 W3 (n0 + 1 + 1 + 1) hsz3 (.int .i64 0) (.int .i64 0) 26
  rw [hW4] at hrowR
  have hrowT := hK34.row hrowT
  have hK24 := hK23.trans hK34
  have hT2 := hT0.kept (hK.trans hK12)
  have hKw4 := (hK.trans hK12).trans hK24
  obtain ⟨y0, y1, _⟩ := keep2 y0 y1 hK12
  obtain ⟨z0, z1, z2, z3, _⟩ := keep4 y0 y1 yS0 yS1 hK24
  have z4 : W4.cell? ⟨n0 + 1 + 1, 0, none⟩ = some (.int .i64 ((t.1 : Nat) : Int)) := hrowT.cell (i := 0) (by omega)
  have z5 : W4.cell? ⟨n0 + 1 + 1, 1, none⟩ = some (.int .i64 ((t.2 : Nat) : Int)) := hrowT.cell (i := 1) (by omega)
  have hgt : W2.heap.size ≤ n0 + 1 + 1 := by omega
  have hgr : W2.heap.size ≤ n0 + 1 + 1 + 1 := by omega
  have hge : w.heap.size ≤ n0 + 1 + 1 + 1 := by omega
  have hrt' : n0 + 1 + 1 + 1 ≠ n0 + 1 + 1 := by omega
  have hau := fun d (hd : d ≤ R.dep t) => Road.au_dep ok ht hd
  have haus := fun d => Road.au_spot ok ht d
  have hauu : ∀ d, R.dep s + 1 ≤ d → d ≤ R.dep t → R.up (R.au t d) = R.au t (d - 1) := fun d h1 h2 => by
    have e := Road.au_dep ok ht h2
    rw [← Road.au_up (R := R) (s := R.au t d) (by omega), e]
    exact Road.au_au ok ht (by omega) h2
  have haus0 := Road.au_self R t
  have HAU := Lib.hid hau
  have HAS := Lib.hid haus
  have HUU := Lib.hid hauu
  clear hT hT0 hK23 hK34 DS HI HDS HDU hau haus hauu
  obtain ⟨p, u⟩ := s
  obtain ⟨q, x⟩ := t
  unfold SpV at UP DSt DUt UPs
  unfold SpV
  simp only at UP DSt DUt UPs hrowT yS0 yS1 z2 z3 z4 z5 hnear hfar hroot
  by_cases hlt : R.top (p, u) (q, x) < R.dep (p, u)
  · have m3 : ((du : Nat) : Int) < ((ds : Nat) : Int) := by have := hnear hlt; omega
    have hr := hroot (by omega)
    have hv : Hid (SpV (R.to (p, u) (q, x)) = .agg #[.int .i64 (i : Int), .int .i64 (j : Int)]) := by show _ = _; rw [hv.out, if_pos hlt]; rfl
    unfold SpV at hv
    clear hnear hfar hanc hsame hroot tl hrowT HAU HAS HUU haus0 UP
    by_cases e0 : (p : Int) = 0
    · have e1 : ¬ (u : Int) = 0 := fun h => hr (by rw [show p = 0 by omega, show u = 0 by omega])
      obtain rfl : p = 0 := by omega
      have b1' : ((u : Int) == 0) = false := by simp; omega
      rw [show ((0 : Nat) : Int) = 0 from rfl] at z2 yS0
      rw [show ((0 : Nat) : Int) = 0 from rfl] at DSt UPs hW2
      rw [show ((0 : Nat) : Int) = 0 from rfl]
      clear hr e0 hlt
      go_enter Try.func55, Try.ntmps55
      go_upto_region 2 with (first | (go_at_call 20; refine (DSt.out _ (hT2.kept hK24)).mono ?_; rintro e w5 ⟨rfl, hk5⟩; have hT5 := hT2.kept (hK24.trans hk5); obtain ⟨k0, k1, k2, k3, k4, k5, _⟩ := keep6 z0 z1 z2 z3 z4 z5 hk5))
      refine wp_region_held_drew (S := (fun w' => w'.cell? ⟨n0, 0, none⟩ = some (.slice (some ⟨b0, o0, none⟩) R.n c0) ∧ w'.cell? ⟨n0, 1, none⟩ = some (.slice (some ⟨b1, o1, none⟩) R.n c1) ∧ w'.cell? ⟨n0 + 1, 0, none⟩ = some (.int .i64 0) ∧ w'.cell? ⟨n0 + 1, 1, none⟩ = some (.int .i64 ((u : Nat) : Int)) ∧ w'.cell? ⟨n0 + 1 + 1, 0, none⟩ = some (.int .i64 ((q : Nat) : Int)) ∧ w'.cell? ⟨n0 + 1 + 1, 1, none⟩ = some (.int .i64 ((x : Nat) : Int)) ∧ Kept w5 w')) (by kernel_rfl) ?_ (fun hHeld => ?_)
      · (try dsimp only)
        exact keep6 k0 k1 k2 k3 k4 k5 (by repeat (first | assumption | exact Kept.refl _ | apply Kept.drew | apply Kept.drewN | apply Kept.alloc | refine Kept.trans ?_ (by assumption)))
      refine wpAnyH_take (i := 0) (oi := { dst := some 13, op := Go.Op.load 24 (Go.Operand.tmp 3), type := 24, pos := "ref.go:80", after := #[], guard := none }) (v := ?v1) rfl (by kernel_rfl) (by kernel_rfl) (by kernel_rfl) (fun _ _ _ h => h) (Or.inl ⟨by rfl, ?hy1⟩) (by assumption) ?rs1
      case hy1 =>
        intro w hSw
        (try dsimp only at hSw)
        go_simp
        try with_reducible rfl
      (try simp only [Act.put, List.setIfInBounds_toArray, List.set_cons_zero, List.set_cons_succ])
      refine wpAnyH_take (i := 1) (oi := { dst := some 14, op := Go.Op.load 24 (Go.Operand.tmp 3), type := 24, pos := "ref.go:80", after := #[], guard := none }) (v := ?v2) rfl (by kernel_rfl) (by kernel_rfl) (by kernel_rfl) (fun _ _ _ h => h) (Or.inl ⟨by rfl, ?hy2⟩) (by assumption) ?rs2
      case hy2 =>
        intro w hSw
        (try dsimp only at hSw)
        go_simp
        try with_reducible rfl
      (try simp only [Act.put, List.setIfInBounds_toArray, List.set_cons_zero, List.set_cons_succ])
      refine wpAnyH_take (i := 2) (oi := { dst := some 15, op := Go.Op.load 26 (Go.Operand.tmp 4), type := 26, pos := "ref.go:80", after := #[], guard := none }) (v := ?v3) rfl (by kernel_rfl) (by kernel_rfl) (by kernel_rfl) (fun _ _ _ h => h) (Or.inl ⟨by rfl, ?hy3⟩) (by assumption) ?rs3
      case hy3 =>
        intro w hSw
        (try dsimp only at hSw)
        go_simp
        try with_reducible rfl
      (try simp only [Act.put, List.setIfInBounds_toArray, List.set_cons_zero, List.set_cons_succ])
      refine wpAnyH_take (i := 4) (oi := { dst := some 17, op := Go.Op.load 26 (Go.Operand.tmp 5), type := 26, pos := "ref.go:80", after := #[], guard := none }) (v := ?v4) rfl (by kernel_rfl) (by kernel_rfl) (by kernel_rfl) (fun _ _ _ h => h) (Or.inl ⟨by rfl, ?hy4⟩) (by assumption) ?rs4
      case hy4 =>
        intro w hSw
        (try dsimp only at hSw)
        go_simp
        try with_reducible rfl
      (try simp only [Act.put, List.setIfInBounds_toArray, List.set_cons_zero, List.set_cons_succ])
      refine wpAnyH_take (i := 6) (oi := { dst := some 19, op := Go.Op.move (Go.Operand.tmp 7), type := 3, pos := "ref.go:80", after := #[], guard := none }) (v := ?v5) rfl (by kernel_rfl) (by kernel_rfl) (by kernel_rfl) (fun _ _ _ h => h) (Or.inl ⟨by rfl, ?hy5⟩) (by assumption) ?rs5
      case hy5 =>
        intro w hSw
        (try dsimp only at hSw)
        go_simp
        try with_reducible rfl
      (try simp only [Act.put, List.setIfInBounds_toArray, List.set_cons_zero, List.set_cons_succ])
      refine wpAnyH_ready (rs := [3]) (by kernel_rfl) (by simp) ?_
      refine AllReadyH.cons (o := { dst := some 16, op := Go.Op.call { callee := Go.Callee.value (Go.Operand.func 51), args := #[Go.Operand.tmp 14, Go.Operand.tmp 15], argTypes := #[24, 26] }, type := 26, pos := "ref.go:80", after := #[{ on := 1, ground := Go.Ground.data }, { on := 2, ground := Go.Ground.data }], guard := none }) rfl (fun K3 hK3 => ?_) AllReadyH.nil
      go_simp
      (go_at_call 51; refine (UPs.out _ (hT5.kept (by repeat (first | assumption | exact Kept.refl _ | apply Kept.drew | apply Kept.drewN | apply Kept.alloc | refine Kept.trans ?_ (by assumption))))).mono ?_; rintro e w6 ⟨rfl, hk6⟩)
      (try go_wp2_with fail)
      refine hK3.out _ _ ?_ (fun hHeld => ?_)
      · (try dsimp only)
        exact keep6 k0 k1 k2 k3 k4 k5 (by repeat (first | assumption | exact Kept.refl _ | apply Kept.drew | apply Kept.drewN | apply Kept.alloc | refine Kept.trans ?_ (by assumption)))
      (try simp only [Act.put, List.setIfInBounds_toArray, List.set_cons_zero, List.set_cons_succ])
      refine wpAnyH_ready (rs := [5]) (by kernel_rfl) (by simp) ?_
      refine AllReadyH.cons (o := { dst := some 18, op := Go.Op.call { callee := Go.Callee.value (Go.Operand.func 20), args := #[Go.Operand.tmp 13, Go.Operand.tmp 16, Go.Operand.tmp 17], argTypes := #[24, 26, 26] }, type := 3, pos := "ref.go:80", after := #[{ on := 0, ground := Go.Ground.data }, { on := 3, ground := Go.Ground.data }, { on := 4, ground := Go.Ground.data }, { on := 3, ground := Go.Ground.chain }], guard := none }) rfl (fun K5 hK5 => ?_) AllReadyH.nil
      go_simp
      (go_at_call 20; refine (DUt.out _ (hT5.kept (by repeat (first | assumption | exact Kept.refl _ | apply Kept.drew | apply Kept.drewN | apply Kept.alloc | refine Kept.trans ?_ (by assumption))))).mono ?_; rintro e w7 ⟨rfl, hk7⟩)
      (try go_wp2_with fail)
      refine hK5.out _ _ ?_ (fun hHeld => ?_)
      · (try dsimp only)
        exact keep6 k0 k1 k2 k3 k4 k5 (by repeat (first | assumption | exact Kept.refl _ | apply Kept.drew | apply Kept.drewN | apply Kept.alloc | refine Kept.trans ?_ (by assumption)))
      (try simp only [Act.put, List.setIfInBounds_toArray, List.set_cons_zero, List.set_cons_succ])
      refine wpAnyH_take (i := 7) (oi := { dst := some 20, op := Go.Op.binOp Go.BinOp.lss 3 (Go.Operand.tmp 18) (Go.Operand.tmp 19) 3, type := 4, pos := "ref.go:80", after := #[{ on := 5, ground := Go.Ground.data }, { on := 6, ground := Go.Ground.data }], guard := none }) (v := ?v6) rfl (by kernel_rfl) (by kernel_rfl) (by kernel_rfl) (fun _ _ _ h => h) (Or.inl ⟨by rfl, ?hy6⟩) (by assumption) ?rs6
      case hy6 =>
        intro w hSw
        (try dsimp only at hSw)
        go_simp
        try with_reducible rfl
      (try simp only [Act.put, List.setIfInBounds_toArray, List.set_cons_zero, List.set_cons_succ])
      refine wpAnyH_take (i := 8) (oi := { dst := some 21, op := Go.Op.move (Go.Operand.tmp 20), type := 4, pos := "ref.go:80", after := #[{ on := 7, ground := Go.Ground.data }, { on := 5, ground := Go.Ground.chain }], guard := none }) (v := ?v7) rfl (by kernel_rfl) (by kernel_rfl) (by kernel_rfl) (fun _ _ _ h => h) (Or.inl ⟨by rfl, ?hy7⟩) (by assumption) ?rs7
      case hy7 =>
        intro w hSw
        (try dsimp only at hSw)
        go_simp
        try with_reducible rfl
      (try simp only [Act.put, List.setIfInBounds_toArray, List.set_cons_zero, List.set_cons_succ])
      refine wpAnyH_take (i := 9) (oi := { dst := some 22, op := Go.Op.load 26 (Go.Operand.tmp 4), type := 26, pos := "ref.go:80", after := #[{ on := 8, ground := Go.Ground.guard }], guard := some (8, true) }) (v := ?v8) rfl (by kernel_rfl) (by kernel_rfl) (by kernel_rfl) (fun _ _ _ h => h) (Or.inl ⟨by rfl, ?hy8⟩) (by assumption) ?rs8
      case hy8 =>
        intro w hSw
        (try dsimp only at hSw)
        go_simp
        try with_reducible rfl
      (try simp only [Act.put, List.setIfInBounds_toArray, List.set_cons_zero, List.set_cons_succ])
      refine wpAnyH_take (i := 10) (oi := { dst := some 23, op := Go.Op.build 26 #[], type := 26, pos := "ref.go:80", after := #[{ on := 8, ground := Go.Ground.guard }], guard := some (8, true) }) (v := ?v9) rfl (by kernel_rfl) (by kernel_rfl) (by kernel_rfl) (fun _ _ _ h => h) (Or.inl ⟨by rfl, ?hy9⟩) (by assumption) ?rs9
      case hy9 =>
        intro w hSw
        (try dsimp only at hSw)
        go_simp
        try with_reducible rfl
      (try simp only [Act.put, List.setIfInBounds_toArray, List.set_cons_zero, List.set_cons_succ])
      refine wpAnyH_take (i := 11) (oi := { dst := some 24, op := Go.Op.binOp Go.BinOp.neq 26 (Go.Operand.tmp 22) (Go.Operand.tmp 23) 26, type := 4, pos := "ref.go:80", after := #[{ on := 9, ground := Go.Ground.data }, { on := 10, ground := Go.Ground.data }, { on := 8, ground := Go.Ground.guard }], guard := some (8, true) }) (v := ?v10) rfl (by kernel_rfl) (by kernel_rfl) (by kernel_rfl) (fun _ _ _ h => h) (Or.inl ⟨by rfl, ?hy10⟩) (by assumption) ?rs10
      case hy10 =>
        intro w hSw
        (try dsimp only at hSw)
        go_simp
        try with_reducible rfl
      (try simp only [Act.put, List.setIfInBounds_toArray, List.set_cons_zero, List.set_cons_succ])
      refine wpAnyH_take (i := 12) (oi := { dst := some 25, op := Go.Op.pick (Go.Operand.tmp 21) (Go.Operand.tmp 24) (Go.Operand.const (Go.Value.bool false)), type := 4, pos := "ref.go:80", after := #[{ on := 8, ground := Go.Ground.data }, { on := 11, ground := Go.Ground.data }], guard := none }) (v := ?v11) rfl (by kernel_rfl) (by kernel_rfl) (by kernel_rfl) (fun _ _ _ h => h) (Or.inl ⟨by rfl, ?hy11⟩) (by assumption) ?rs11
      case hy11 =>
        intro w hSw
        (try dsimp only at hSw)
        go_simp
        try with_reducible rfl
      (try simp only [Act.put, List.setIfInBounds_toArray, List.set_cons_zero, List.set_cons_succ])
      refine wpAnyH_done (by kernel_rfl) ?_ _
      have hKr := hKw4.trans (show Kept W4 _ from hk5.trans (by repeat (first | assumption | exact Kept.refl _ | apply Kept.drew | apply Kept.drewN | apply Kept.alloc | refine Kept.trans ?_ (by assumption))))
      go_wp2_with (first | (go_at_call 51; refine (UPs.out _ (hT5.kept (by repeat (first | assumption | exact Kept.refl _ | apply Kept.drew | apply Kept.drewN | apply Kept.alloc | refine Kept.trans ?_ (by assumption))))).mono ?_; rintro e w8 ⟨rfl, hk8⟩; obtain ⟨f0, f1, g0, g1, r0, r1, hKF⟩ := fin2a hrowR (show Kept W4 w8 from hk5.trans (by repeat (first | assumption | exact Kept.refl _ | apply Kept.drew | apply Kept.drewN | apply Kept.alloc | refine Kept.trans ?_ (by assumption)))) (hKw4.trans (show Kept W4 w8 from hk5.trans (by repeat (first | assumption | exact Kept.refl _ | apply Kept.drew | apply Kept.drewN | apply Kept.alloc | refine Kept.trans ?_ (by assumption))))) hge (.int .i64 (i : Int)) (.int .i64 (j : Int))))
      exact bodyPost_ret (v := .agg #[.int .i64 (i : Int), .int .i64 (j : Int)]) (by simp [results, Try.results55, go_sem, r0, r1]) rfl ⟨by rw [hv.out], hKF⟩
    · have b0' : ((p : Int) == 0) = false := by simp; omega
      clear hr hlt
      go_enter Try.func55, Try.ntmps55
      go_upto_region 2 with (first | (go_at_call 20; refine (DSt.out _ (hT2.kept hK24)).mono ?_; rintro e w5 ⟨rfl, hk5⟩; have hT5 := hT2.kept (hK24.trans hk5); obtain ⟨k0, k1, k2, k3, k4, k5, _⟩ := keep6 z0 z1 z2 z3 z4 z5 hk5))
      refine wp_region_held_drew (S := (fun w' => w'.cell? ⟨n0, 0, none⟩ = some (.slice (some ⟨b0, o0, none⟩) R.n c0) ∧ w'.cell? ⟨n0, 1, none⟩ = some (.slice (some ⟨b1, o1, none⟩) R.n c1) ∧ w'.cell? ⟨n0 + 1, 0, none⟩ = some (.int .i64 ((p : Nat) : Int)) ∧ w'.cell? ⟨n0 + 1, 1, none⟩ = some (.int .i64 ((u : Nat) : Int)) ∧ w'.cell? ⟨n0 + 1 + 1, 0, none⟩ = some (.int .i64 ((q : Nat) : Int)) ∧ w'.cell? ⟨n0 + 1 + 1, 1, none⟩ = some (.int .i64 ((x : Nat) : Int)) ∧ Kept w5 w')) (by kernel_rfl) ?_ (fun hHeld => ?_)
      · (try dsimp only)
        exact keep6 k0 k1 k2 k3 k4 k5 (by repeat (first | assumption | exact Kept.refl _ | apply Kept.drew | apply Kept.drewN | apply Kept.alloc | refine Kept.trans ?_ (by assumption)))
      refine wpAnyH_take (i := 0) (oi := { dst := some 13, op := Go.Op.load 24 (Go.Operand.tmp 3), type := 24, pos := "ref.go:80", after := #[], guard := none }) (v := ?v12) rfl (by kernel_rfl) (by kernel_rfl) (by kernel_rfl) (fun _ _ _ h => h) (Or.inl ⟨by rfl, ?hy12⟩) (by assumption) ?rs12
      case hy12 =>
        intro w hSw
        (try dsimp only at hSw)
        go_simp
        try with_reducible rfl
      (try simp only [Act.put, List.setIfInBounds_toArray, List.set_cons_zero, List.set_cons_succ])
      refine wpAnyH_take (i := 1) (oi := { dst := some 14, op := Go.Op.load 24 (Go.Operand.tmp 3), type := 24, pos := "ref.go:80", after := #[], guard := none }) (v := ?v13) rfl (by kernel_rfl) (by kernel_rfl) (by kernel_rfl) (fun _ _ _ h => h) (Or.inl ⟨by rfl, ?hy13⟩) (by assumption) ?rs13
      case hy13 =>
        intro w hSw
        (try dsimp only at hSw)
        go_simp
        try with_reducible rfl
      (try simp only [Act.put, List.setIfInBounds_toArray, List.set_cons_zero, List.set_cons_succ])
      refine wpAnyH_take (i := 2) (oi := { dst := some 15, op := Go.Op.load 26 (Go.Operand.tmp 4), type := 26, pos := "ref.go:80", after := #[], guard := none }) (v := ?v14) rfl (by kernel_rfl) (by kernel_rfl) (by kernel_rfl) (fun _ _ _ h => h) (Or.inl ⟨by rfl, ?hy14⟩) (by assumption) ?rs14
      case hy14 =>
        intro w hSw
        (try dsimp only at hSw)
        go_simp
        try with_reducible rfl
      (try simp only [Act.put, List.setIfInBounds_toArray, List.set_cons_zero, List.set_cons_succ])
      refine wpAnyH_take (i := 4) (oi := { dst := some 17, op := Go.Op.load 26 (Go.Operand.tmp 5), type := 26, pos := "ref.go:80", after := #[], guard := none }) (v := ?v15) rfl (by kernel_rfl) (by kernel_rfl) (by kernel_rfl) (fun _ _ _ h => h) (Or.inl ⟨by rfl, ?hy15⟩) (by assumption) ?rs15
      case hy15 =>
        intro w hSw
        (try dsimp only at hSw)
        go_simp
        try with_reducible rfl
      (try simp only [Act.put, List.setIfInBounds_toArray, List.set_cons_zero, List.set_cons_succ])
      refine wpAnyH_take (i := 6) (oi := { dst := some 19, op := Go.Op.move (Go.Operand.tmp 7), type := 3, pos := "ref.go:80", after := #[], guard := none }) (v := ?v16) rfl (by kernel_rfl) (by kernel_rfl) (by kernel_rfl) (fun _ _ _ h => h) (Or.inl ⟨by rfl, ?hy16⟩) (by assumption) ?rs16
      case hy16 =>
        intro w hSw
        (try dsimp only at hSw)
        go_simp
        try with_reducible rfl
      (try simp only [Act.put, List.setIfInBounds_toArray, List.set_cons_zero, List.set_cons_succ])
      refine wpAnyH_ready (rs := [3]) (by kernel_rfl) (by simp) ?_
      refine AllReadyH.cons (o := { dst := some 16, op := Go.Op.call { callee := Go.Callee.value (Go.Operand.func 51), args := #[Go.Operand.tmp 14, Go.Operand.tmp 15], argTypes := #[24, 26] }, type := 26, pos := "ref.go:80", after := #[{ on := 1, ground := Go.Ground.data }, { on := 2, ground := Go.Ground.data }], guard := none }) rfl (fun K3 hK3 => ?_) AllReadyH.nil
      go_simp
      (go_at_call 51; refine (UPs.out _ (hT5.kept (by repeat (first | assumption | exact Kept.refl _ | apply Kept.drew | apply Kept.drewN | apply Kept.alloc | refine Kept.trans ?_ (by assumption))))).mono ?_; rintro e w6 ⟨rfl, hk6⟩)
      (try go_wp2_with fail)
      refine hK3.out _ _ ?_ (fun hHeld => ?_)
      · (try dsimp only)
        exact keep6 k0 k1 k2 k3 k4 k5 (by repeat (first | assumption | exact Kept.refl _ | apply Kept.drew | apply Kept.drewN | apply Kept.alloc | refine Kept.trans ?_ (by assumption)))
      (try simp only [Act.put, List.setIfInBounds_toArray, List.set_cons_zero, List.set_cons_succ])
      refine wpAnyH_ready (rs := [5]) (by kernel_rfl) (by simp) ?_
      refine AllReadyH.cons (o := { dst := some 18, op := Go.Op.call { callee := Go.Callee.value (Go.Operand.func 20), args := #[Go.Operand.tmp 13, Go.Operand.tmp 16, Go.Operand.tmp 17], argTypes := #[24, 26, 26] }, type := 3, pos := "ref.go:80", after := #[{ on := 0, ground := Go.Ground.data }, { on := 3, ground := Go.Ground.data }, { on := 4, ground := Go.Ground.data }, { on := 3, ground := Go.Ground.chain }], guard := none }) rfl (fun K5 hK5 => ?_) AllReadyH.nil
      go_simp
      (go_at_call 20; refine (DUt.out _ (hT5.kept (by repeat (first | assumption | exact Kept.refl _ | apply Kept.drew | apply Kept.drewN | apply Kept.alloc | refine Kept.trans ?_ (by assumption))))).mono ?_; rintro e w7 ⟨rfl, hk7⟩)
      (try go_wp2_with fail)
      refine hK5.out _ _ ?_ (fun hHeld => ?_)
      · (try dsimp only)
        exact keep6 k0 k1 k2 k3 k4 k5 (by repeat (first | assumption | exact Kept.refl _ | apply Kept.drew | apply Kept.drewN | apply Kept.alloc | refine Kept.trans ?_ (by assumption)))
      (try simp only [Act.put, List.setIfInBounds_toArray, List.set_cons_zero, List.set_cons_succ])
      refine wpAnyH_take (i := 7) (oi := { dst := some 20, op := Go.Op.binOp Go.BinOp.lss 3 (Go.Operand.tmp 18) (Go.Operand.tmp 19) 3, type := 4, pos := "ref.go:80", after := #[{ on := 5, ground := Go.Ground.data }, { on := 6, ground := Go.Ground.data }], guard := none }) (v := ?v17) rfl (by kernel_rfl) (by kernel_rfl) (by kernel_rfl) (fun _ _ _ h => h) (Or.inl ⟨by rfl, ?hy17⟩) (by assumption) ?rs17
      case hy17 =>
        intro w hSw
        (try dsimp only at hSw)
        go_simp
        try with_reducible rfl
      (try simp only [Act.put, List.setIfInBounds_toArray, List.set_cons_zero, List.set_cons_succ])
      refine wpAnyH_take (i := 8) (oi := { dst := some 21, op := Go.Op.move (Go.Operand.tmp 20), type := 4, pos := "ref.go:80", after := #[{ on := 7, ground := Go.Ground.data }, { on := 5, ground := Go.Ground.chain }], guard := none }) (v := ?v18) rfl (by kernel_rfl) (by kernel_rfl) (by kernel_rfl) (fun _ _ _ h => h) (Or.inl ⟨by rfl, ?hy18⟩) (by assumption) ?rs18
      case hy18 =>
        intro w hSw
        (try dsimp only at hSw)
        go_simp
        try with_reducible rfl
      (try simp only [Act.put, List.setIfInBounds_toArray, List.set_cons_zero, List.set_cons_succ])
      refine wpAnyH_take (i := 9) (oi := { dst := some 22, op := Go.Op.load 26 (Go.Operand.tmp 4), type := 26, pos := "ref.go:80", after := #[{ on := 8, ground := Go.Ground.guard }], guard := some (8, true) }) (v := ?v19) rfl (by kernel_rfl) (by kernel_rfl) (by kernel_rfl) (fun _ _ _ h => h) (Or.inl ⟨by rfl, ?hy19⟩) (by assumption) ?rs19
      case hy19 =>
        intro w hSw
        (try dsimp only at hSw)
        go_simp
        try with_reducible rfl
      (try simp only [Act.put, List.setIfInBounds_toArray, List.set_cons_zero, List.set_cons_succ])
      refine wpAnyH_take (i := 10) (oi := { dst := some 23, op := Go.Op.build 26 #[], type := 26, pos := "ref.go:80", after := #[{ on := 8, ground := Go.Ground.guard }], guard := some (8, true) }) (v := ?v20) rfl (by kernel_rfl) (by kernel_rfl) (by kernel_rfl) (fun _ _ _ h => h) (Or.inl ⟨by rfl, ?hy20⟩) (by assumption) ?rs20
      case hy20 =>
        intro w hSw
        (try dsimp only at hSw)
        go_simp
        try with_reducible rfl
      (try simp only [Act.put, List.setIfInBounds_toArray, List.set_cons_zero, List.set_cons_succ])
      refine wpAnyH_take (i := 11) (oi := { dst := some 24, op := Go.Op.binOp Go.BinOp.neq 26 (Go.Operand.tmp 22) (Go.Operand.tmp 23) 26, type := 4, pos := "ref.go:80", after := #[{ on := 9, ground := Go.Ground.data }, { on := 10, ground := Go.Ground.data }, { on := 8, ground := Go.Ground.guard }], guard := some (8, true) }) (v := ?v21) rfl (by kernel_rfl) (by kernel_rfl) (by kernel_rfl) (fun _ _ _ h => h) (Or.inl ⟨by rfl, ?hy21⟩) (by assumption) ?rs21
      case hy21 =>
        intro w hSw
        (try dsimp only at hSw)
        go_simp
        try with_reducible rfl
      (try simp only [Act.put, List.setIfInBounds_toArray, List.set_cons_zero, List.set_cons_succ])
      refine wpAnyH_take (i := 12) (oi := { dst := some 25, op := Go.Op.pick (Go.Operand.tmp 21) (Go.Operand.tmp 24) (Go.Operand.const (Go.Value.bool false)), type := 4, pos := "ref.go:80", after := #[{ on := 8, ground := Go.Ground.data }, { on := 11, ground := Go.Ground.data }], guard := none }) (v := ?v22) rfl (by kernel_rfl) (by kernel_rfl) (by kernel_rfl) (fun _ _ _ h => h) (Or.inl ⟨by rfl, ?hy22⟩) (by assumption) ?rs22
      case hy22 =>
        intro w hSw
        (try dsimp only at hSw)
        go_simp
        try with_reducible rfl
      (try simp only [Act.put, List.setIfInBounds_toArray, List.set_cons_zero, List.set_cons_succ])
      refine wpAnyH_done (by kernel_rfl) ?_ _
      have hKr := hKw4.trans (show Kept W4 _ from hk5.trans (by repeat (first | assumption | exact Kept.refl _ | apply Kept.drew | apply Kept.drewN | apply Kept.alloc | refine Kept.trans ?_ (by assumption))))
      go_wp2_with (first | (go_at_call 51; refine (UPs.out _ (hT5.kept (by repeat (first | assumption | exact Kept.refl _ | apply Kept.drew | apply Kept.drewN | apply Kept.alloc | refine Kept.trans ?_ (by assumption))))).mono ?_; rintro e w8 ⟨rfl, hk8⟩; obtain ⟨f0, f1, g0, g1, r0, r1, hKF⟩ := fin2a hrowR (show Kept W4 w8 from hk5.trans (by repeat (first | assumption | exact Kept.refl _ | apply Kept.drew | apply Kept.drewN | apply Kept.alloc | refine Kept.trans ?_ (by assumption)))) (hKw4.trans (show Kept W4 w8 from hk5.trans (by repeat (first | assumption | exact Kept.refl _ | apply Kept.drew | apply Kept.drewN | apply Kept.alloc | refine Kept.trans ?_ (by assumption))))) hge (.int .i64 (i : Int)) (.int .i64 (j : Int))))
      exact bodyPost_ret (v := .agg #[.int .i64 (i : Int), .int .i64 (j : Int)]) (by simp [results, Try.results55, go_sem, r0, r1]) rfl ⟨by rw [hv.out], hKF⟩
  · have m3 : ¬ ((du : Nat) : Int) < ((ds : Nat) : Int) := by have := hfar hlt; omega
    have m4 : ¬ du < ds := hfar hlt
    have m5 : decide (du < ds) = false := decide_eq_false m4
    have hself := hanc hlt
    have hdt : R.dep (p, u) < R.dep (q, x) := by
      rcases Nat.lt_or_ge (R.dep (p, u)) (R.dep (q, x)) with g | g
      · exact g
      · exact absurd (hsame (by omega) (by omega)) hne
    have hv : Hid (SpV (R.to (p, u) (q, x)) = SpV (R.au (q, x) (R.dep (p, u) + 1))) := by show _ = _; rw [hv.out, if_neg hlt]
    unfold SpV at hv
    clear hnear hfar hanc hsame hroot hlt
    go_enter Try.func55, Try.ntmps55
    go_upto_region 2 with (first | (go_at_call 20; refine (DSt.out _ (hT2.kept hK24)).mono ?_; rintro e w5 ⟨rfl, hk5⟩; have hT5 := hT2.kept (hK24.trans hk5); obtain ⟨k0, k1, k2, k3, k4, k5, _⟩ := keep6 z0 z1 z2 z3 z4 z5 hk5))
    go_cut [25] (fun v25 wx => v25 = .bool false ∧ Kept w5 wx)
    case first =>
      refine wp_region_held_drew (S := (fun w' => w'.cell? ⟨n0, 0, none⟩ = some (.slice (some ⟨b0, o0, none⟩) R.n c0) ∧ w'.cell? ⟨n0, 1, none⟩ = some (.slice (some ⟨b1, o1, none⟩) R.n c1) ∧ w'.cell? ⟨n0 + 1, 0, none⟩ = some (.int .i64 ((p : Nat) : Int)) ∧ w'.cell? ⟨n0 + 1, 1, none⟩ = some (.int .i64 ((u : Nat) : Int)) ∧ w'.cell? ⟨n0 + 1 + 1, 0, none⟩ = some (.int .i64 ((q : Nat) : Int)) ∧ w'.cell? ⟨n0 + 1 + 1, 1, none⟩ = some (.int .i64 ((x : Nat) : Int)) ∧ Kept w5 w')) (by kernel_rfl) ?_ (fun hHeld => ?_)
      · (try dsimp only)
        exact keep6 k0 k1 k2 k3 k4 k5 (by repeat (first | assumption | exact Kept.refl _ | apply Kept.drew | apply Kept.drewN | apply Kept.alloc | refine Kept.trans ?_ (by assumption)))
      refine wpAnyH_take (i := 0) (oi := { dst := some 13, op := Go.Op.load 24 (Go.Operand.tmp 3), type := 24, pos := "ref.go:80", after := #[], guard := none }) (v := ?v23) rfl (by kernel_rfl) (by kernel_rfl) (by kernel_rfl) (fun _ _ _ h => h) (Or.inl ⟨by rfl, ?hy23⟩) (by assumption) ?rs23
      case hy23 =>
        intro w hSw
        (try dsimp only at hSw)
        go_simp
        try with_reducible rfl
      (try simp only [Act.put, List.setIfInBounds_toArray, List.set_cons_zero, List.set_cons_succ])
      refine wpAnyH_take (i := 1) (oi := { dst := some 14, op := Go.Op.load 24 (Go.Operand.tmp 3), type := 24, pos := "ref.go:80", after := #[], guard := none }) (v := ?v24) rfl (by kernel_rfl) (by kernel_rfl) (by kernel_rfl) (fun _ _ _ h => h) (Or.inl ⟨by rfl, ?hy24⟩) (by assumption) ?rs24
      case hy24 =>
        intro w hSw
        (try dsimp only at hSw)
        go_simp
        try with_reducible rfl
      (try simp only [Act.put, List.setIfInBounds_toArray, List.set_cons_zero, List.set_cons_succ])
      refine wpAnyH_take (i := 2) (oi := { dst := some 15, op := Go.Op.load 26 (Go.Operand.tmp 4), type := 26, pos := "ref.go:80", after := #[], guard := none }) (v := ?v25) rfl (by kernel_rfl) (by kernel_rfl) (by kernel_rfl) (fun _ _ _ h => h) (Or.inl ⟨by rfl, ?hy25⟩) (by assumption) ?rs25
      case hy25 =>
        intro w hSw
        (try dsimp only at hSw)
        go_simp
        try with_reducible rfl
      (try simp only [Act.put, List.setIfInBounds_toArray, List.set_cons_zero, List.set_cons_succ])
      refine wpAnyH_take (i := 4) (oi := { dst := some 17, op := Go.Op.load 26 (Go.Operand.tmp 5), type := 26, pos := "ref.go:80", after := #[], guard := none }) (v := ?v26) rfl (by kernel_rfl) (by kernel_rfl) (by kernel_rfl) (fun _ _ _ h => h) (Or.inl ⟨by rfl, ?hy26⟩) (by assumption) ?rs26
      case hy26 =>
        intro w hSw
        (try dsimp only at hSw)
        go_simp
        try with_reducible rfl
      (try simp only [Act.put, List.setIfInBounds_toArray, List.set_cons_zero, List.set_cons_succ])
      refine wpAnyH_take (i := 6) (oi := { dst := some 19, op := Go.Op.move (Go.Operand.tmp 7), type := 3, pos := "ref.go:80", after := #[], guard := none }) (v := ?v27) rfl (by kernel_rfl) (by kernel_rfl) (by kernel_rfl) (fun _ _ _ h => h) (Or.inl ⟨by rfl, ?hy27⟩) (by assumption) ?rs27
      case hy27 =>
        intro w hSw
        (try dsimp only at hSw)
        go_simp
        try with_reducible rfl
      (try simp only [Act.put, List.setIfInBounds_toArray, List.set_cons_zero, List.set_cons_succ])
      refine wpAnyH_ready (rs := [3]) (by kernel_rfl) (by simp) ?_
      refine AllReadyH.cons (o := { dst := some 16, op := Go.Op.call { callee := Go.Callee.value (Go.Operand.func 51), args := #[Go.Operand.tmp 14, Go.Operand.tmp 15], argTypes := #[24, 26] }, type := 26, pos := "ref.go:80", after := #[{ on := 1, ground := Go.Ground.data }, { on := 2, ground := Go.Ground.data }], guard := none }) rfl (fun K3 hK3 => ?_) AllReadyH.nil
      go_simp
      (go_at_call 51; refine (UPs.out _ (hT5.kept (by repeat (first | assumption | exact Kept.refl _ | apply Kept.drew | apply Kept.drewN | apply Kept.alloc | refine Kept.trans ?_ (by assumption))))).mono ?_; rintro e w6 ⟨rfl, hk6⟩)
      (try go_wp2_with fail)
      refine hK3.out _ _ ?_ (fun hHeld => ?_)
      · (try dsimp only)
        exact keep6 k0 k1 k2 k3 k4 k5 (by repeat (first | assumption | exact Kept.refl _ | apply Kept.drew | apply Kept.drewN | apply Kept.alloc | refine Kept.trans ?_ (by assumption)))
      (try simp only [Act.put, List.setIfInBounds_toArray, List.set_cons_zero, List.set_cons_succ])
      refine wpAnyH_ready (rs := [5]) (by kernel_rfl) (by simp) ?_
      refine AllReadyH.cons (o := { dst := some 18, op := Go.Op.call { callee := Go.Callee.value (Go.Operand.func 20), args := #[Go.Operand.tmp 13, Go.Operand.tmp 16, Go.Operand.tmp 17], argTypes := #[24, 26, 26] }, type := 3, pos := "ref.go:80", after := #[{ on := 0, ground := Go.Ground.data }, { on := 3, ground := Go.Ground.data }, { on := 4, ground := Go.Ground.data }, { on := 3, ground := Go.Ground.chain }], guard := none }) rfl (fun K5 hK5 => ?_) AllReadyH.nil
      go_simp
      (go_at_call 20; refine (DUt.out _ (hT5.kept (by repeat (first | assumption | exact Kept.refl _ | apply Kept.drew | apply Kept.drewN | apply Kept.alloc | refine Kept.trans ?_ (by assumption))))).mono ?_; rintro e w7 ⟨rfl, hk7⟩)
      (try go_wp2_with fail)
      refine hK5.out _ _ ?_ (fun hHeld => ?_)
      · (try dsimp only)
        exact keep6 k0 k1 k2 k3 k4 k5 (by repeat (first | assumption | exact Kept.refl _ | apply Kept.drew | apply Kept.drewN | apply Kept.alloc | refine Kept.trans ?_ (by assumption)))
      (try simp only [Act.put, List.setIfInBounds_toArray, List.set_cons_zero, List.set_cons_succ])
      refine wpAnyH_take (i := 7) (oi := { dst := some 20, op := Go.Op.binOp Go.BinOp.lss 3 (Go.Operand.tmp 18) (Go.Operand.tmp 19) 3, type := 4, pos := "ref.go:80", after := #[{ on := 5, ground := Go.Ground.data }, { on := 6, ground := Go.Ground.data }], guard := none }) (v := ?v28) rfl (by kernel_rfl) (by kernel_rfl) (by kernel_rfl) (fun _ _ _ h => h) (Or.inl ⟨by rfl, ?hy28⟩) (by assumption) ?rs28
      case hy28 =>
        intro w hSw
        (try dsimp only at hSw)
        go_simp
        try with_reducible rfl
      (try simp only [Act.put, List.setIfInBounds_toArray, List.set_cons_zero, List.set_cons_succ])
      refine wpAnyH_take (i := 8) (oi := { dst := some 21, op := Go.Op.move (Go.Operand.tmp 20), type := 4, pos := "ref.go:80", after := #[{ on := 7, ground := Go.Ground.data }, { on := 5, ground := Go.Ground.chain }], guard := none }) (v := ?v29) rfl (by kernel_rfl) (by kernel_rfl) (by kernel_rfl) (fun _ _ _ h => h) (Or.inl ⟨by rfl, ?hy29⟩) (by assumption) ?rs29
      case hy29 =>
        intro w hSw
        (try dsimp only at hSw)
        go_simp
        try with_reducible rfl
      (try simp only [Act.put, List.setIfInBounds_toArray, List.set_cons_zero, List.set_cons_succ])
      refine wpAnyH_take (i := 9) (oi := { dst := some 22, op := Go.Op.load 26 (Go.Operand.tmp 4), type := 26, pos := "ref.go:80", after := #[{ on := 8, ground := Go.Ground.guard }], guard := some (8, true) }) (v := undef) rfl (by kernel_rfl) (by kernel_rfl) (by kernel_rfl) (fun _ _ _ h => h) (Or.inr ⟨by rfl, rfl⟩) (by assumption) ?_
      (try simp only [Act.put, List.setIfInBounds_toArray, List.set_cons_zero, List.set_cons_succ])
      refine wpAnyH_take (i := 10) (oi := { dst := some 23, op := Go.Op.build 26 #[], type := 26, pos := "ref.go:80", after := #[{ on := 8, ground := Go.Ground.guard }], guard := some (8, true) }) (v := undef) rfl (by kernel_rfl) (by kernel_rfl) (by kernel_rfl) (fun _ _ _ h => h) (Or.inr ⟨by rfl, rfl⟩) (by assumption) ?_
      (try simp only [Act.put, List.setIfInBounds_toArray, List.set_cons_zero, List.set_cons_succ])
      refine wpAnyH_take (i := 11) (oi := { dst := some 24, op := Go.Op.binOp Go.BinOp.neq 26 (Go.Operand.tmp 22) (Go.Operand.tmp 23) 26, type := 4, pos := "ref.go:80", after := #[{ on := 9, ground := Go.Ground.data }, { on := 10, ground := Go.Ground.data }, { on := 8, ground := Go.Ground.guard }], guard := some (8, true) }) (v := undef) rfl (by kernel_rfl) (by kernel_rfl) (by kernel_rfl) (fun _ _ _ h => h) (Or.inr ⟨by rfl, rfl⟩) (by assumption) ?_
      (try simp only [Act.put, List.setIfInBounds_toArray, List.set_cons_zero, List.set_cons_succ])
      refine wpAnyH_take (i := 12) (oi := { dst := some 25, op := Go.Op.pick (Go.Operand.tmp 21) (Go.Operand.tmp 24) (Go.Operand.const (Go.Value.bool false)), type := 4, pos := "ref.go:80", after := #[{ on := 8, ground := Go.Ground.data }, { on := 11, ground := Go.Ground.data }], guard := none }) (v := ?v30) rfl (by kernel_rfl) (by kernel_rfl) (by kernel_rfl) (fun _ _ _ h => h) (Or.inl ⟨by rfl, ?hy30⟩) (by assumption) ?rs30
      case hy30 =>
        intro w hSw
        (try dsimp only at hSw)
        go_simp
        try with_reducible rfl
      (try simp only [Act.put, List.setIfInBounds_toArray, List.set_cons_zero, List.set_cons_succ])
      refine wpAnyH_done (by kernel_rfl) ?_ _
      go_wp2_with fail
      go_meet
      exact ⟨rfl, (by repeat (first | assumption | exact Kept.refl _ | apply Kept.drew | apply Kept.drewN | apply Kept.alloc | refine Kept.trans ?_ (by assumption)))⟩
    case rest =>
      obtain ⟨rfl, hhK⟩ := hcut
      go_wp2_with fail
      obtain ⟨nr, HNR⟩ : ∃ nr, n0 + 1 + 1 + 1 = nr := ⟨_, rfl⟩
      rw [HNR] at hrowR hgr hge hrt' ⊢
      obtain ⟨nt, HNT⟩ : ∃ nt, n0 + 1 + 1 = nt := ⟨_, rfl⟩
      rw [HNT] at hrowT hgt hrt' ⊢
      obtain ⟨na, HNA⟩ : ∃ na, n0 + 1 = na := ⟨_, rfl⟩
      rw [HNA] at yS0 yS1 ⊢
      have hKx := (hK24.trans hk5).trans hhK
      have hRx := (hk5.trans hhK).row hrowR
      have hTx := (hk5.trans hhK).row hrowT
      clear hW1 hW2 hW3 hW4 hsz hsz2 hsz3 hsz4 HNR HNT HNA HN0 k0 k1 k2 k3 k4 k5 z0 z1 z2 z3 z4 z5 hT5 m3 m4 m5 DSt DUt UPs
      go_loopg [] (R.dep (q, x)) (fun g wr => ∃ (d : Nat) (a : Sp), d = g ∧ R.dep (p, u) + 1 ≤ d ∧ d ≤ R.dep (q, x) ∧ R.spot a ∧ a = R.au (q, x) d ∧ Kept W2 wr ∧ wr.rowIs nt 26 2 (bx2 (.int .i64 ((a.1 : Nat) : Int)) (.int .i64 ((a.2 : Nat) : Int))) ∧ wr.rowIs nr 26 2 (bx2 (.int .i64 0) (.int .i64 0)))
      case atStart => exact ⟨_, (q, x), rfl, hdt, Nat.le_refl _, ht, haus0.symm, hKx, hTx, hRx⟩
      case round =>
        clear hKx hTx hRx hrowT hrowR
        obtain ⟨d, ⟨q', x'⟩, rfl, hd1, hd2, hsa, hau, hKr, hrt, hrr⟩ := hrel
        simp only at hrt
        obtain ⟨x0, x1, x2, x3, _⟩ := keep4 y0 y1 yS0 yS1 hKr
        have a0 : wr.cell? ⟨nt, 0, none⟩ = some (.int .i64 (q' : Int)) := hrt.cell (i := 0) (by omega)
        have a1 : wr.cell? ⟨nt, 1, none⟩ = some (.int .i64 (x' : Int)) := hrt.cell (i := 1) (by omega)
        have UP2 := Lib.hid (fun W hW => UP.out W (q', x') hW hsa)
        have huz := HAS.out (d - 1)
        have hij0 := HUU.out d hd1 hd2
        rw [← hau] at hij0
        have hdd := HAU.out (d - 1) (by omega)
        rw [hij0] at UP2
        obtain ⟨⟨i, j⟩, hij⟩ : ∃ z, z = R.au (q, x) (d - 1) := ⟨_, rfl⟩
        rw [← hij] at UP2 huz hdd
        simp only at UP2
        clear hij0
        by_cases e : (i, j) = (p, u)
        · injection e with e0 e1
          subst e0
          subst e1
          obtain rfl : d = R.dep (i, j) + 1 := by omega
          rw [← hau] at hv
          simp only at hv
          clear hdd hij hd1 hd2 hau
          have hee := True.intro
          go_wp2_with (first | (go_at_call 51; refine (UP2.out _ (hT2.kept hKr)).mono ?_; rintro e w8 ⟨rfl, hk8⟩; obtain ⟨W9, hW9, hsz9, _, _, hK9⟩ := newbox2 w8 w8.heap.size rfl (.int .i64 0) (.int .i64 0) 26; have hrow9 := box2row w8 w8.heap.size rfl (.int .i64 0) (.int .i64 0) 26; rw [hW9] at hrow9; have hb9 : wr.heap.size ≤ w8.heap.size := hk8.size; obtain ⟨f0, f1, g0, g1, l0, l1, hK10⟩ := fin2a hrow9 (Kept.refl W9) (hk8.trans hK9) hb9 (.int .i64 (i : Int)) (.int .i64 (j : Int)); obtain ⟨WF, hWF⟩ : ∃ WF, (W9.setCell ⟨w8.heap.size, 0, none⟩ (.int .i64 (i : Int))).setCell ⟨w8.heap.size, 1, none⟩ (.int .i64 (j : Int)) = WF := ⟨_, rfl⟩; rw [hWF] at l0 l1 hK10; obtain ⟨m0, m1, m2, m3, m4, m5, _⟩ := keep6 x0 x1 x2 x3 a0 a1 hK10; obtain ⟨ft0, ft1⟩ : WF.frozen? ⟨nt, 0, none⟩ = false ∧ WF.frozen? ⟨nt, 1, none⟩ = false := ⟨(hK10.row hrt).frozen 0, (hK10.row hrt).frozen 1⟩; obtain ⟨fr0, fr1⟩ : WF.frozen? ⟨nr, 0, none⟩ = false ∧ WF.frozen? ⟨nr, 1, none⟩ = false := ⟨(hK10.row hrr).frozen 0, (hK10.row hrr).frozen 1⟩; have er0 : WF.cell? ⟨nr, 0, none⟩ = some (.int .i64 0) := (hK10.row hrr).cell (i := 0) (by omega); have er1 : WF.cell? ⟨nr, 1, none⟩ = some (.int .i64 0) := (hK10.row hrr).cell (i := 1) (by omega)))
          obtain ⟨r0, r1, hKF⟩ := fin2 ((hK.trans (hK12.trans hKr)).trans hK10) hge (hK10.row hrr) (.int .i64 (q' : Int)) (.int .i64 (x' : Int))
          exact bodyPost_ret (v := .agg #[.int .i64 (q' : Int), .int .i64 (x' : Int)]) (by simp [results, Try.results55, go_sem, r0, r1]) rfl ⟨by rw [hv.out], hKF⟩
        · have hdne : d - 1 ≠ R.dep (p, u) := fun h => e (by rw [hij, h]; exact hself)
          by_cases e0 : (i : Int) = (p : Int)
          · obtain rfl : i = p := by omega
            have b1' : ((j : Int) == (u : Int)) = false := by
              simp only [beq_eq_false_iff_ne, ne_eq]
              intro h
              exact e (by rw [show j = u by omega])
            clear e e0
            have hee := True.intro
            go_wp2_with (first | (go_at_call 51; refine (UP2.out _ (hT2.kept hKr)).mono ?_; rintro e w8 ⟨rfl, hk8⟩; obtain ⟨W9, hW9, hsz9, _, _, hK9⟩ := newbox2 w8 w8.heap.size rfl (.int .i64 0) (.int .i64 0) 26; have hrow9 := box2row w8 w8.heap.size rfl (.int .i64 0) (.int .i64 0) 26; rw [hW9] at hrow9; have hb9 : wr.heap.size ≤ w8.heap.size := hk8.size; obtain ⟨f0, f1, g0, g1, l0, l1, hK10⟩ := fin2a hrow9 (Kept.refl W9) (hk8.trans hK9) hb9 (.int .i64 (i : Int)) (.int .i64 (j : Int)); obtain ⟨WF, hWF⟩ : ∃ WF, (W9.setCell ⟨w8.heap.size, 0, none⟩ (.int .i64 (i : Int))).setCell ⟨w8.heap.size, 1, none⟩ (.int .i64 (j : Int)) = WF := ⟨_, rfl⟩; rw [hWF] at l0 l1 hK10; obtain ⟨m0, m1, m2, m3, m4, m5, _⟩ := keep6 x0 x1 x2 x3 a0 a1 hK10; obtain ⟨ft0, ft1⟩ : WF.frozen? ⟨nt, 0, none⟩ = false ∧ WF.frozen? ⟨nt, 1, none⟩ = false := ⟨(hK10.row hrt).frozen 0, (hK10.row hrt).frozen 1⟩; obtain ⟨fr0, fr1⟩ : WF.frozen? ⟨nr, 0, none⟩ = false ∧ WF.frozen? ⟨nr, 1, none⟩ = false := ⟨(hK10.row hrr).frozen 0, (hK10.row hrr).frozen 1⟩; have er0 : WF.cell? ⟨nr, 0, none⟩ = some (.int .i64 0) := (hK10.row hrr).cell (i := 0) (by omega); have er1 : WF.cell? ⟨nr, 1, none⟩ = some (.int .i64 0) := (hK10.row hrr).cell (i := 1) (by omega)))
            have hF := box2_set (hK10.row hrt) (.int .i64 (i : Int)) (.int .i64 (j : Int))
            have hKF := ((hKr.trans hK10).setCell (p := ⟨nt, 0, none⟩) hgt (.int .i64 (i : Int))).setCell (p := ⟨nt, 1, none⟩) hgt (.int .i64 (j : Int))
            go_roundg (d - 1)
            case measure => omega
            case rel => exact ⟨d - 1, (i, j), rfl, by omega, by omega, huz, hij, hKF, hF, row_other (row_other (hK10.row hrr) hrt' _) hrt' _⟩
          · have b0' : ((i : Int) == (p : Int)) = false := by simp only [beq_eq_false_iff_ne, ne_eq]; exact e0
            clear e
            have hee := True.intro
            go_wp2_with (first | (go_at_call 51; refine (UP2.out _ (hT2.kept hKr)).mono ?_; rintro e w8 ⟨rfl, hk8⟩; obtain ⟨W9, hW9, hsz9, _, _, hK9⟩ := newbox2 w8 w8.heap.size rfl (.int .i64 0) (.int .i64 0) 26; have hrow9 := box2row w8 w8.heap.size rfl (.int .i64 0) (.int .i64 0) 26; rw [hW9] at hrow9; have hb9 : wr.heap.size ≤ w8.heap.size := hk8.size; obtain ⟨f0, f1, g0, g1, l0, l1, hK10⟩ := fin2a hrow9 (Kept.refl W9) (hk8.trans hK9) hb9 (.int .i64 (i : Int)) (.int .i64 (j : Int)); obtain ⟨WF, hWF⟩ : ∃ WF, (W9.setCell ⟨w8.heap.size, 0, none⟩ (.int .i64 (i : Int))).setCell ⟨w8.heap.size, 1, none⟩ (.int .i64 (j : Int)) = WF := ⟨_, rfl⟩; rw [hWF] at l0 l1 hK10; obtain ⟨m0, m1, m2, m3, m4, m5, _⟩ := keep6 x0 x1 x2 x3 a0 a1 hK10; obtain ⟨ft0, ft1⟩ : WF.frozen? ⟨nt, 0, none⟩ = false ∧ WF.frozen? ⟨nt, 1, none⟩ = false := ⟨(hK10.row hrt).frozen 0, (hK10.row hrt).frozen 1⟩; obtain ⟨fr0, fr1⟩ : WF.frozen? ⟨nr, 0, none⟩ = false ∧ WF.frozen? ⟨nr, 1, none⟩ = false := ⟨(hK10.row hrr).frozen 0, (hK10.row hrr).frozen 1⟩; have er0 : WF.cell? ⟨nr, 0, none⟩ = some (.int .i64 0) := (hK10.row hrr).cell (i := 0) (by omega); have er1 : WF.cell? ⟨nr, 1, none⟩ = some (.int .i64 0) := (hK10.row hrr).cell (i := 1) (by omega)))
            have hF := box2_set (hK10.row hrt) (.int .i64 (i : Int)) (.int .i64 (j : Int))
            have hKF := ((hKr.trans hK10).setCell (p := ⟨nt, 0, none⟩) hgt (.int .i64 (i : Int))).setCell (p := ⟨nt, 1, none⟩) hgt (.int .i64 (j : Int))
            go_roundg (d - 1)
            case measure => omega
            case rel => exact ⟨d - 1, (i, j), rfl, by omega, by omega, huz, hij, hKF, hF, row_other (row_other (hK10.row hrr) hrt' _) hrt' _⟩
end Go.Proofs.Ytlgpclnmonpkjaa
