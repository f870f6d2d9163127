/-
  The reference of mark: put.
-/
import Derived.Test.YtjcgplocifmolaaMd
import Derived.Test.YtjcgplocifmolaaQs
import Derived.Maps.AppendAt
import Derived.Deep.RegionHeld
namespace Go.Proofs.Ytjcgplocifmolaa
open Go.RowKit Go.Deep Go.Sort

theorem own_zero (W : World) (base : Nat) (t : TypeId) (hb : base ≤ W.heap.size) : (W.alloc (.cells #[] t)).ownsRow base t 1 (.slice (some ⟨W.heap.size, 0, none⟩) 0 0) 0 [] := by
  have h := World.ownsRow_lit (base := base) (e := t) (size := 1) W #[] 0 hb (by decide) rfl
  exact h
theorem own_zeroH (W : World) (base : Nat) (t : TypeId) (hb : base ≤ W.heap.size) (H : Nat) (hH : W.heap.size = H) : (W.alloc (.cells #[] t)).ownsRow base t 1 (.slice (some ⟨H, 0, none⟩) 0 0) 0 [] := by
  subst hH; exact own_zero W base t hb
theorem sbox1H (W : World) (x : Value) (t : TypeId) (H : Nat) (hH : W.heap.size = H) : (W.alloc (.cells #[x] t)).cell? ⟨H, 0, none⟩ = some x := by
  subst hH; unfold World.cell?; dsimp only; rw [blk_alloc_new]; rfl
theorem grown_cell {A B : World} {e b : Nat} {x : Value} (hg : A.grownBy B (some e)) (hc : A.cell? ⟨b, 0, none⟩ = some x) (hne : b ≠ e) : B.cell? ⟨b, 0, none⟩ = some x :=
  KeptX.cellSome (S := fun k => k = e) ((KeptX.refl _ A).grown hg (fun k hk => .inl (by cases hk; rfl))) hc hne
theorem sb12 (w : World) (o : Obj) (x : Value) : (((w.alloc o).alloc (.cells #[x] 9)).drew).cell? ⟨w.heap.size + 1, 0, none⟩ = some x := by
  rw [World.cell?_drew]; exact sbox1H _ _ 9 _ (by simp)
theorem sb21 (w : World) (o : Obj) (x : Value) : (((w.alloc (.cells #[x] 9)).alloc o).drew).cell? ⟨w.heap.size, 0, none⟩ = some x := by
  rw [World.cell?_drew]; exact Kept.cellSome ((Kept.refl _).alloc _) (sbox1H w _ 9 _ rfl)
theorem sb12g {A : World} (w w1 : World) (S : ByteArray) (hg : A.grownBy w1 (Value.slice (some ⟨w.heap.size, 0, none⟩) 0 0).ownBlock) (hA : A.heap = (((w.alloc (.cells #[] 9)).alloc (.cells #[.string S] 9)).drew).heap) : w1.cell? ⟨w.heap.size + 1, 0, none⟩ = some (.string S) :=
  grown_cell (e := w.heap.size) hg ((World.cell?_of_block (by rw [hA])).trans (sb12 w (.cells #[] 9) (.string S))) (Nat.succ_ne_self _)
theorem sb21g {A : World} (w w1 : World) (S : ByteArray) (hg : A.grownBy w1 (Value.slice (some ⟨w.heap.size + 1, 0, none⟩) 0 0).ownBlock) (hA : A.heap = (((w.alloc (.cells #[.string S] 9)).alloc (.cells #[] 9)).drew).heap) : w1.cell? ⟨w.heap.size, 0, none⟩ = some (.string S) :=
  grown_cell (e := w.heap.size + 1) hg ((World.cell?_of_block (by rw [hA])).trans (sb21 w (.cells #[] 9) (.string S))) (Nat.succ_ne_self _).symm
theorem own_cap {w : World} {base e size n cap : Nat} {a : Addr} {xs : List Value} (h : w.ownsRow base e size (.slice (some a) n cap) n xs) : n ≤ cap := by
  rcases h.2 with ⟨h1, _⟩ | ⟨g, cap', cur, h1, _, _, h2, _⟩
  · cases h1
  · cases h1; exact h2
def PutPost (base : Nat) (w : World) (L : List Wd) (s : Wd) (e : Ending) (w' : World) : Prop :=
  ∃ g cap, e = .returned (.slice (some ⟨g, 0, none⟩) (putL L s).length cap) ∧ w'.ownsRow base 9 1 (.slice (some ⟨g, 0, none⟩) (putL L s).length cap) (putL L s).length (wds (putL L s)) ∧ Kept w w'
theorem news_at {W : World} {b o : Nat} {L : List Wd} (h : ∀ i, i < L.length → W.cell? ⟨b, o + i, none⟩ = some (.string (bs (L.getD i [])))) : ∀ (j : Nat) (u : Value), (wds L)[j]? = some u → W.cell? ((⟨b, o, none⟩ : Addr).add j) = some u := by
  intro j u hu
  have hj : j < L.length := by
    have := (List.getElem?_eq_some_iff.1 hu).1
    rwa [wds_len] at this
  rw [add_at, h j hj]
  simp only [wds, List.getElem?_map, List.getElem?_eq_getElem hj, Option.map_some] at hu
  rw [getD_at hj]; exact hu
theorem news_one {W : World} {b : Nat} {x : Value} (h : W.cell? ⟨b, 0, none⟩ = some x) : ∀ (j : Nat) (u : Value), [x][j]? = some u → W.cell? ((⟨b, 0, none⟩ : Addr).add j) = some u := by
  intro j u hu
  cases j with
  | zero => simp at hu; subst hu; exact h
  | succ j => simp at hu
theorem wds_one {L : List Wd} : ∀ v ∈ wds L, v.oneCell' = true := by
  intro v hv
  simp only [wds, List.mem_map] at hv
  obtain ⟨l, _, rfl⟩ := hv
  rfl
theorem wds_app (L M : List Wd) : wds (L ++ M) = wds L ++ wds M := by simp [wds]
set_option maxRecDepth 100000 in
set_option maxHeartbeats 2000000 in
theorem put_any (w : World) (base g cap : Nat) (L : List Wd) (s : Wd) (hO : w.ownsRow base 9 1 (.slice (some ⟨g, 0, none⟩) L.length cap) L.length (wds L)) (hb : base ≤ w.heap.size) (hL : L.length ≤ 100000) :
    Calls Try.prog 78 #[.slice (some ⟨g, 0, none⟩) L.length cap, .string (bs s)] w (PutPost base w L s) := by
  obtain ⟨i0, hi0, hz0, hz1, hz2⟩ := info_parts Try.info9
  have hcap := own_cap hO
  obtain ⟨_, a, b, o, cap2, hsl, ha, hc⟩ := wds_own hO
  obtain ⟨n, HN⟩ : ∃ n, Hid (n = L.length) := ⟨_, rfl⟩
  have hc2 : ∀ i, i < n → w.cell? ⟨g, i, none⟩ = some (.string (bs (L.getD i []))) := fun i hi => by
    have hi2 : i < L.length := by rw [← HN.out]; exact hi
    have h1 := ha (by omega)
    have h2 := hc i hi2
    simp only [Value.slice.injEq] at hsl
    rw [h1] at hsl
    have h3 := hsl.1
    simp only [Option.some.injEq, Addr.mk.injEq] at h3
    rw [← h3.1, ← h3.2.1, Nat.zero_add] at h2
    exact h2
  have HC := Lib.hid hc2
  have HO := Lib.hid hO
  obtain ⟨S, HS⟩ : ∃ x : ByteArray, Hid (x = bs s) := ⟨_, Lib.hid rfl⟩
  rw [← HN.out] at hcap hL HO ⊢
  rw [← HS.out]
  clear hc hc2 hO hsl ha
  go_enter Try.func78, Try.ntmps78
  go_wp2_with fail
  go_loopg [5] n (fun g s5 wr => ∃ k : Nat, k ≤ n ∧ g = n - k ∧ s5 = .int .i64 k ∧ w = wr ∧ Hid (∀ j (hj : j < L.length), j < k → L[j] < s))
  case atStart => exact ⟨0, Nat.zero_le _, rfl, rfl, rfl, Lib.hid (fun j hj h => absurd h (by omega))⟩
  case round =>
    obtain ⟨k, hk, rfl, rfl, rfl, HX⟩ := hrel
    have s3 : (0 : Int) ≤ (k : Int) := by omega
    by_cases hlt : k < n
    · have t0 := HC.out k hlt
      have s2 : (k : Int) < (n : Int) := by omega
      have hkL : k < L.length := by rw [← HN.out]; exact hlt
      rw [getD_at hkL] at t0
      obtain ⟨X, HXX⟩ : ∃ x : ByteArray, Hid (x = bs L[k]) := ⟨bs L[k], Lib.hid rfl⟩
      rw [← HXX.out] at t0
      have elt : Op.bytesLess X.toList S.toList = decide (L[k] < s) := by rw [HXX.out, HS.out, Proofs.bytesLess_eq, ByteArray.toList_eq, ByteArray.toList_eq]; rfl
      by_cases h1 : L[k] < s
      · rw [decide_eq_true h1] at elt
        have hnx : Hid (∀ j (hj : j < L.length), j < k + 1 → L[j] < s) := Lib.hid (fun j hj h => by
          by_cases e : j = k
          · subst e; exact h1
          · exact HX.out j hj (by omega))
        clear h1
        go_wp2_with fail
        go_roundg (n - (k + 1))
        case measure => omega
        case rel => exact ⟨k + 1, by omega, rfl, by first | rfl | go_num, rfl, hnx⟩
      · rw [decide_eq_false h1] at elt
        by_cases h2 : L[k] = s
        · have e2 := beq_yes (a := X) (b := S) (by rw [HXX.out, HS.out, h2])
          have hres : Hid (PutPost base w L s (.returned (.slice (some ⟨g, 0, none⟩) n cap)) w) := by
            have hp := putL_there hkL (fun j hj h => HX.out j hj h) h2
            refine Lib.hid ⟨g, cap, ?_, ?_, Kept.refl _⟩
            · rw [hp, HN.out]
            · rw [hp, ← HN.out]; exact HO.out
          clear h1 h2 HX
          go_wp2_with fail
          go_ret
          exact hres.out
        · have e2 := beq_no (a := X) (b := S) (fun h => h2 (bs_inj (by rw [← HXX.out, ← HS.out]; exact h)))
          have hnew := Lib.hid (putL_new (k := k) (Nat.le_of_lt hkL) (fun j hj h => HX.out j hj h) (fun _ => ⟨h1, h2⟩))
          clear h1 h2 HX
          go_wp2_with fail
          have NEWS1 : Hid (∀ W, Kept w W → ∀ (j : Nat) (u : Value), (wds (L.take k))[j]? = some u → W.cell? ((⟨g, 0, none⟩ : Addr).add j) = some u) := Lib.hid (fun W hW => news_at (L := L.take k) (fun i hi => by
            have hi2 : i < k := by rw [List.length_take] at hi; omega
            have h := hW.cellSome (HC.out i (by omega))
            rw [Nat.zero_add, h, List.getD_eq_getElem?_getD, List.getD_eq_getElem?_getD, List.getElem?_take_of_lt hi2]))
          have NEWS3 : Hid (∀ W, Kept w W → ∀ (j : Nat) (u : Value), (wds (L.drop k))[j]? = some u → W.cell? ((⟨g, k, none⟩ : Addr).add j) = some u) := Lib.hid (fun W hW => news_at (L := L.drop k) (fun i hi => by
            have h := hW.cellSome (HC.out (k + i) (by rw [List.length_drop, ← HN.out] at hi; omega))
            rw [h, List.getD_eq_getElem?_getD, List.getD_eq_getElem?_getD, List.getElem?_drop]))
          have hl1 : (wds (L.take k)).length = k * 1 := by rw [wds_len, List.length_take, ← HN.out]; omega
          have hl3 : (wds (L.drop k)).length = (n - k) * 1 := by rw [wds_len, List.length_drop, ← HN.out]; omega
          have hend : Hid (∀ (m g3 c3 : Nat) (w3 : World) (xs : List Value), xs = wds (L.take k) ++ [.string S] ++ wds (L.drop k) → m = n + 1 → w3.ownsRow w.heap.size 9 1 (.slice (some ⟨g3, 0, none⟩) m c3) m xs → Kept w w3 → PutPost base w L s (.returned (.slice (some ⟨g3, 0, none⟩) m c3)) w3) := Lib.hid (fun m g3 c3 w3 xs hxs hm ho hk => by
            have he : wds (putL L s) = xs := by rw [hnew.out, hxs, HS.out]; simp [wds]
            have hlen : (putL L s).length = m := by
              rw [hnew.out, hm]; simp only [List.length_append, List.length_take, List.length_cons, List.length_drop, ← HN.out]; omega
            exact ⟨g3, c3, by rw [hlen], by rw [hlen, he]; exact own_base ho hb, hk⟩)
          have hck : (cap = k) = False := eq_false (by omega)
          have s4 : (k : Int) ≤ (n : Int) := by omega
          have s5 : (k : Int) ≤ (cap : Int) := by omega
          by_cases hk0 : k = 0
          · subst hk0
            have hend0 : Hid (∀ (m g3 c3 : Nat) (w3 : World) (xs : List Value), xs = [.string S] ++ wds (L.drop 0) → m = n + 1 → w3.ownsRow w.heap.size 9 1 (.slice (some ⟨g3, 0, none⟩) m c3) m xs → Kept w w3 → PutPost base w L s (.returned (.slice (some ⟨g3, 0, none⟩) m c3)) w3) := Lib.hid (fun m g3 c3 w3 xs hxs hm ho hk => hend.out m g3 c3 w3 xs (by rw [hxs]; rfl) hm ho hk)
            clear hend NEWS1 hl1
            refine wp_region_held_drew (S := (fun _ => True)) (by kernel_rfl) ?_ (fun hHeld => ?_)
            · (try dsimp only)
              (first | trivial | skip)
            refine wpAnyH_take (i := 1) (oi := { dst := some 34, op := Go.Op.move (Go.Operand.tmp 0), type := 26, pos := "ref.go:88", after := #[], guard := none }) (v := ?v11) rfl (by kernel_rfl) (by kernel_rfl) (by kernel_rfl) (fun _ _ _ h => h) (Or.inl ⟨by rfl, ?hy11⟩) (by assumption) ?rs11
            case hy11 =>
              intro w hSw
              (try dsimp only at hSw)
              go_simp
              try with_reducible rfl
            (try simp only [Act.put, List.setIfInBounds_toArray, List.set_cons_zero, List.set_cons_succ])
            refine wpAnyH_take (i := 2) (oi := { dst := some 35, op := Go.Op.move (Go.Operand.tmp 5), type := 3, pos := "ref.go:88", after := #[], guard := none }) (v := ?v12) rfl (by kernel_rfl) (by kernel_rfl) (by kernel_rfl) (fun _ _ _ h => h) (Or.inl ⟨by rfl, ?hy12⟩) (by assumption) ?rs12
            case hy12 =>
              intro w hSw
              (try dsimp only at hSw)
              go_simp
              try with_reducible rfl
            (try simp only [Act.put, List.setIfInBounds_toArray, List.set_cons_zero, List.set_cons_succ])
            refine wpAnyH_take (i := 3) (oi := { dst := some 36, op := Go.Op.slice 26 (Go.Operand.tmp 34) none (some (Go.Operand.tmp 35)) none, type := 26, pos := "ref.go:88", after := #[{ on := 1, ground := Go.Ground.data }, { on := 2, ground := Go.Ground.data }], guard := none }) (v := ?v13) rfl (by kernel_rfl) (by kernel_rfl) (by kernel_rfl) (fun _ _ _ h => h) (Or.inl ⟨by rfl, ?hy13⟩) (by assumption) ?rs13
            case hy13 =>
              intro w hSw
              (try dsimp only at hSw)
              go_simp
              try with_reducible rfl
            (try simp only [Act.put, List.setIfInBounds_toArray, List.set_cons_zero, List.set_cons_succ])
            refine wpAnyH_take (i := 5) (oi := { dst := some 38, op := Go.Op.move (Go.Operand.tmp 1), type := 9, pos := "ref.go:88", after := #[], guard := none }) (v := ?v14) rfl (by kernel_rfl) (by kernel_rfl) (by kernel_rfl) (fun _ _ _ h => h) (Or.inl ⟨by rfl, ?hy14⟩) (by assumption) ?rs14
            case hy14 =>
              intro w hSw
              (try dsimp only at hSw)
              go_simp
              try with_reducible rfl
            (try simp only [Act.put, List.setIfInBounds_toArray, List.set_cons_zero, List.set_cons_succ])
            refine wpAnyH_take (i := 8) (oi := { dst := some 41, op := Go.Op.move (Go.Operand.tmp 0), type := 26, pos := "ref.go:88", after := #[], guard := none }) (v := ?v15) rfl (by kernel_rfl) (by kernel_rfl) (by kernel_rfl) (fun _ _ _ h => h) (Or.inl ⟨by rfl, ?hy15⟩) (by assumption) ?rs15
            case hy15 =>
              intro w hSw
              (try dsimp only at hSw)
              go_simp
              try with_reducible rfl
            (try simp only [Act.put, List.setIfInBounds_toArray, List.set_cons_zero, List.set_cons_succ])
            refine wpAnyH_take (i := 9) (oi := { dst := some 42, op := Go.Op.move (Go.Operand.tmp 5), type := 3, pos := "ref.go:88", after := #[], guard := none }) (v := ?v16) rfl (by kernel_rfl) (by kernel_rfl) (by kernel_rfl) (fun _ _ _ h => h) (Or.inl ⟨by rfl, ?hy16⟩) (by assumption) ?rs16
            case hy16 =>
              intro w hSw
              (try dsimp only at hSw)
              go_simp
              try with_reducible rfl
            (try simp only [Act.put, List.setIfInBounds_toArray, List.set_cons_zero, List.set_cons_succ])
            refine wpAnyH_take (i := 10) (oi := { dst := some 43, op := Go.Op.slice 26 (Go.Operand.tmp 41) (some (Go.Operand.tmp 42)) none none, type := 26, pos := "ref.go:88", after := #[{ on := 8, ground := Go.Ground.data }, { on := 9, ground := Go.Ground.data }], guard := none }) (v := ?v17) rfl (by kernel_rfl) (by kernel_rfl) (by kernel_rfl) (fun _ _ _ h => h) (Or.inl ⟨by rfl, ?hy17⟩) (by assumption) ?rs17
            case hy17 =>
              intro w hSw
              (try dsimp only at hSw)
              go_simp
              try with_reducible rfl
            (try simp only [Act.put, List.setIfInBounds_toArray, List.set_cons_zero, List.set_cons_succ])
            refine wpAnyH_ready (rs := [0, 6]) (by kernel_rfl) (by simp) ?_
            refine AllReadyH.cons (o := { dst := some 33, op := Go.Op.buildSlice 26 0 #[], type := 26, pos := "ref.go:88", after := #[], guard := none }) rfl (fun K0 hK0 => ?_) (AllReadyH.cons (o := { dst := some 39, op := Go.Op.buildSlice 26 1 #[(0, Go.Operand.tmp 38)], type := 26, pos := "ref.go:88", after := #[{ on := 5, ground := Go.Ground.data }], guard := none }) rfl (fun K6 hK6 => ?_) AllReadyH.nil)
            · skip
              go_simp
              skip
              (try go_wp2_with fail)
              obtain ⟨a0, ha0⟩ : ∃ a, a = (World.drew (World.alloc w (.cells #[] 9))) := ⟨_, rfl⟩
              have hk0 : Kept w a0 := by rw [ha0]; exact ((Kept.refl _).alloc _).drew
              have hsz0 : a0.heap.size = w.heap.size + 1 := by rw [ha0]; simp
              have hq0 : Kept w a0 := hk0
              have hE : a0.ownsRow w.heap.size 9 1 (.slice (some ⟨w.heap.size, 0, none⟩) 0 0) 0 [] := by
                rw [ha0]
                have h := own_zero w w.heap.size 9 (by exact Nat.le_refl _)
                exact h.drew
              rw [← ha0]
              clear ha0
              refine hK0.out _ _ ?_ (fun hHeld => ?_)
              · (try dsimp only)
                (first | trivial | skip)
              (try simp only [Act.put, List.setIfInBounds_toArray, List.set_cons_zero, List.set_cons_succ])
              refine wpAnyH_take (i := 4) (oi := { dst := some 37, op := Go.Op.call { callee := Go.Callee.builtin Go.Builtin.append, args := #[Go.Operand.tmp 33, Go.Operand.tmp 36], argTypes := #[26, 26] }, type := 26, pos := "ref.go:88", after := #[{ on := 0, ground := Go.Ground.data }, { on := 3, ground := Go.Ground.data }], guard := none }) (v := ?v18) rfl (by kernel_rfl) (by kernel_rfl) (by kernel_rfl) (fun _ _ _ h => h) (Or.inl ⟨by rfl, ?hy18⟩) (by assumption) ?rs18
              case hy18 =>
                intro w hSw
                (try dsimp only at hSw)
                go_simp
                try with_reducible rfl
              (try simp only [Act.put, List.setIfInBounds_toArray, List.set_cons_zero, List.set_cons_succ])
              refine wpAnyH_ready (rs := [6]) (by kernel_rfl) (by simp) ?_
              refine AllReadyH.cons (o := { dst := some 39, op := Go.Op.buildSlice 26 1 #[(0, Go.Operand.tmp 38)], type := 26, pos := "ref.go:88", after := #[{ on := 5, ground := Go.Ground.data }], guard := none }) rfl (fun K6 hK6 => ?_) AllReadyH.nil
              go_simp
              skip
              (try go_wp2_with fail)
              obtain ⟨a6, ha6⟩ : ∃ a, a = (World.alloc a0 (.cells #[.string S] 9)) := ⟨_, rfl⟩
              have hk6 : Kept a0 a6 := by rw [ha6]; exact (Kept.refl _).alloc _
              have hsz6 : a6.heap.size = a0.heap.size + 1 := by rw [ha6]; simp
              have hq6 : Kept w a6 := hq0.trans hk6
              have hS : a6.cell? ⟨a0.heap.size, 0, none⟩ = some (.string S) := by
                rw [ha6]
                exact sbox1H a0 _ 9 _ rfl
              rw [hsz0] at hS
              have hE := own_kept hE hk6
              rw [← ha6]
              clear ha6
              refine hK6.out _ _ ?_ (fun hHeld => ?_)
              · (try dsimp only)
                (first | trivial | skip)
              (try simp only [Act.put, List.setIfInBounds_toArray, List.set_cons_zero, List.set_cons_succ])
              refine wpAnyH_ready (rs := [7]) (by kernel_rfl) (by simp) ?_
              refine AllReadyH.cons (o := { dst := some 40, op := Go.Op.call { callee := Go.Callee.builtin Go.Builtin.append, args := #[Go.Operand.tmp 37, Go.Operand.tmp 39], argTypes := #[26, 26] }, type := 26, pos := "ref.go:88", after := #[{ on := 4, ground := Go.Ground.data }, { on := 6, ground := Go.Ground.data }, { on := 4, ground := Go.Ground.chain }], guard := none }) rfl (fun K7 hK7 => ?_) AllReadyH.nil
              rw [if_pos (by rfl)]
              refine wp_append_lies _ _ _ 26 rfl w.heap.size 9 i0 (.string ⟨#[]⟩) 1 16 Try.underlying26 hi0 hz0 hz1 hz2 rfl (by decide) _ 0 [] (by rfl) hE ⟨w.heap.size + 1, 0, none⟩ 1 1 [.string S] (by rfl) rfl (news_one hS) (by simp [Value.oneCell']) (by omega) (by unfold maxLen; omega) (by omega) (by have := Kept.size hq6; omega) _ rfl ?_
              intro g2 c2 w2 hO2 hgr2 hgl2 hgs2
              have hqw2 : Kept w w2 := hq6.grew hgr2 hE (Nat.le_refl _)
              rw [List.nil_append, Nat.zero_add] at hO2
              (try rw [Nat.zero_add])
              refine hK7.out _ _ ?_ (fun hHeld => ?_)
              · (try dsimp only)
                (first | trivial | skip)
              (try simp only [Act.put, List.setIfInBounds_toArray, List.set_cons_zero, List.set_cons_succ])
              refine wpAnyH_ready (rs := [11]) (by kernel_rfl) (by simp) ?_
              refine AllReadyH.cons (o := { dst := some 44, op := Go.Op.call { callee := Go.Callee.builtin Go.Builtin.append, args := #[Go.Operand.tmp 40, Go.Operand.tmp 43], argTypes := #[26, 26] }, type := 26, pos := "ref.go:88", after := #[{ on := 7, ground := Go.Ground.data }, { on := 10, ground := Go.Ground.data }, { on := 7, ground := Go.Ground.chain }], guard := none }) rfl (fun K11 hK11 => ?_) AllReadyH.nil
              rw [if_pos (by rfl)]
              refine wp_append_lies _ _ _ 26 rfl w.heap.size 9 i0 (.string ⟨#[]⟩) 1 16 Try.underlying26 hi0 hz0 hz1 hz2 rfl (by decide) _ 1 [.string S] (by rfl) hO2 ⟨g, 0, none⟩ n cap (wds (L.drop 0)) (by rfl) hl3 (NEWS3.out _ hqw2) wds_one (by omega) (by unfold maxLen; omega) (by omega) (by have := Kept.size hqw2; omega) _ rfl ?_
              intro g3 c3 w3 hO3 hgr3 hgl3 hgs3
              have hqw3 : Kept w w3 := hqw2.grew hgr3 hO2 (Nat.le_refl _)
              refine hK11.out _ _ ?_ (fun hHeld => ?_)
              · (try dsimp only)
                (first | trivial | skip)
              (try simp only [Act.put, List.setIfInBounds_toArray, List.set_cons_zero, List.set_cons_succ])
              refine wpAnyH_take (i := 12) (oi := { dst := some 4, op := Go.Op.assign (Go.Operand.tmp 44), type := 26, pos := "ref.go:88", after := #[{ on := 11, ground := Go.Ground.data }, { on := 11, ground := Go.Ground.chain }, { on := 0, ground := Go.Ground.phase }, { on := 1, ground := Go.Ground.phase }, { on := 2, ground := Go.Ground.phase }, { on := 3, ground := Go.Ground.phase }, { on := 4, ground := Go.Ground.phase }, { on := 5, ground := Go.Ground.phase }, { on := 6, ground := Go.Ground.phase }, { on := 7, ground := Go.Ground.phase }, { on := 8, ground := Go.Ground.phase }, { on := 9, ground := Go.Ground.phase }, { on := 10, ground := Go.Ground.phase }, { on := 11, ground := Go.Ground.phase }], guard := none }) (v := ?v19) rfl (by kernel_rfl) (by kernel_rfl) (by kernel_rfl) (fun _ _ _ h => h) (Or.inl ⟨by rfl, ?hy19⟩) (by assumption) ?rs19
              case hy19 =>
                intro w hSw
                (try dsimp only at hSw)
                go_simp
                try with_reducible rfl
              (try simp only [Act.put, List.setIfInBounds_toArray, List.set_cons_zero, List.set_cons_succ])
              refine wpAnyH_done (by kernel_rfl) ?_ _
              go_wp2_with fail
              go_ret
              exact hend0.out _ _ _ _ _ rfl (by omega) hO3 hqw3
            · skip
              go_simp
              skip
              (try go_wp2_with fail)
              obtain ⟨a6, ha6⟩ : ∃ a, a = (World.drew (World.alloc w (.cells #[.string S] 9))) := ⟨_, rfl⟩
              have hk6 : Kept w a6 := by rw [ha6]; exact ((Kept.refl _).alloc _).drew
              have hsz6 : a6.heap.size = w.heap.size + 1 := by rw [ha6]; simp
              have hq6 : Kept w a6 := hk6
              have hS : a6.cell? ⟨w.heap.size, 0, none⟩ = some (.string S) := by
                rw [ha6]
                rw [World.cell?_drew]
                exact sbox1H w _ 9 _ rfl
              rw [← ha6]
              clear ha6
              refine hK6.out _ _ ?_ (fun hHeld => ?_)
              · (try dsimp only)
                (first | trivial | skip)
              (try simp only [Act.put, List.setIfInBounds_toArray, List.set_cons_zero, List.set_cons_succ])
              refine wpAnyH_ready (rs := [0]) (by kernel_rfl) (by simp) ?_
              refine AllReadyH.cons (o := { dst := some 33, op := Go.Op.buildSlice 26 0 #[], type := 26, pos := "ref.go:88", after := #[], guard := none }) rfl (fun K0 hK0 => ?_) AllReadyH.nil
              go_simp
              skip
              (try go_wp2_with fail)
              obtain ⟨a0, ha0⟩ : ∃ a, a = (World.alloc a6 (.cells #[] 9)) := ⟨_, rfl⟩
              have hk0 : Kept a6 a0 := by rw [ha0]; exact (Kept.refl _).alloc _
              have hsz0 : a0.heap.size = a6.heap.size + 1 := by rw [ha0]; simp
              have hq0 : Kept w a0 := hq6.trans hk0
              have hE : a0.ownsRow w.heap.size 9 1 (.slice (some ⟨a6.heap.size, 0, none⟩) 0 0) 0 [] := by
                rw [ha0]
                have h := own_zero a6 w.heap.size 9 (by exact hq6.size)
                exact h
              have hS := hk0.cellSome hS
              rw [hsz6] at hE
              rw [← ha0]
              clear ha0
              refine hK0.out _ _ ?_ (fun hHeld => ?_)
              · (try dsimp only)
                (first | trivial | skip)
              (try simp only [Act.put, List.setIfInBounds_toArray, List.set_cons_zero, List.set_cons_succ])
              refine wpAnyH_take (i := 4) (oi := { dst := some 37, op := Go.Op.call { callee := Go.Callee.builtin Go.Builtin.append, args := #[Go.Operand.tmp 33, Go.Operand.tmp 36], argTypes := #[26, 26] }, type := 26, pos := "ref.go:88", after := #[{ on := 0, ground := Go.Ground.data }, { on := 3, ground := Go.Ground.data }], guard := none }) (v := ?v20) rfl (by kernel_rfl) (by kernel_rfl) (by kernel_rfl) (fun _ _ _ h => h) (Or.inl ⟨by rfl, ?hy20⟩) (by assumption) ?rs20
              case hy20 =>
                intro w hSw
                (try dsimp only at hSw)
                go_simp
                try with_reducible rfl
              (try simp only [Act.put, List.setIfInBounds_toArray, List.set_cons_zero, List.set_cons_succ])
              refine wpAnyH_ready (rs := [7]) (by kernel_rfl) (by simp) ?_
              refine AllReadyH.cons (o := { dst := some 40, op := Go.Op.call { callee := Go.Callee.builtin Go.Builtin.append, args := #[Go.Operand.tmp 37, Go.Operand.tmp 39], argTypes := #[26, 26] }, type := 26, pos := "ref.go:88", after := #[{ on := 4, ground := Go.Ground.data }, { on := 6, ground := Go.Ground.data }, { on := 4, ground := Go.Ground.chain }], guard := none }) rfl (fun K7 hK7 => ?_) AllReadyH.nil
              rw [if_pos (by rfl)]
              refine wp_append_lies _ _ _ 26 rfl w.heap.size 9 i0 (.string ⟨#[]⟩) 1 16 Try.underlying26 hi0 hz0 hz1 hz2 rfl (by decide) _ 0 [] (by rfl) hE ⟨w.heap.size, 0, none⟩ 1 1 [.string S] (by rfl) rfl (news_one hS) (by simp [Value.oneCell']) (by omega) (by unfold maxLen; omega) (by omega) (by have := Kept.size hq0; omega) _ rfl ?_
              intro g2 c2 w2 hO2 hgr2 hgl2 hgs2
              have hqw2 : Kept w w2 := hq0.grew hgr2 hE (Nat.le_refl _)
              rw [List.nil_append, Nat.zero_add] at hO2
              (try rw [Nat.zero_add])
              refine hK7.out _ _ ?_ (fun hHeld => ?_)
              · (try dsimp only)
                (first | trivial | skip)
              (try simp only [Act.put, List.setIfInBounds_toArray, List.set_cons_zero, List.set_cons_succ])
              refine wpAnyH_ready (rs := [11]) (by kernel_rfl) (by simp) ?_
              refine AllReadyH.cons (o := { dst := some 44, op := Go.Op.call { callee := Go.Callee.builtin Go.Builtin.append, args := #[Go.Operand.tmp 40, Go.Operand.tmp 43], argTypes := #[26, 26] }, type := 26, pos := "ref.go:88", after := #[{ on := 7, ground := Go.Ground.data }, { on := 10, ground := Go.Ground.data }, { on := 7, ground := Go.Ground.chain }], guard := none }) rfl (fun K11 hK11 => ?_) AllReadyH.nil
              rw [if_pos (by rfl)]
              refine wp_append_lies _ _ _ 26 rfl w.heap.size 9 i0 (.string ⟨#[]⟩) 1 16 Try.underlying26 hi0 hz0 hz1 hz2 rfl (by decide) _ 1 [.string S] (by rfl) hO2 ⟨g, 0, none⟩ n cap (wds (L.drop 0)) (by rfl) hl3 (NEWS3.out _ hqw2) wds_one (by omega) (by unfold maxLen; omega) (by omega) (by have := Kept.size hqw2; omega) _ rfl ?_
              intro g3 c3 w3 hO3 hgr3 hgl3 hgs3
              have hqw3 : Kept w w3 := hqw2.grew hgr3 hO2 (Nat.le_refl _)
              refine hK11.out _ _ ?_ (fun hHeld => ?_)
              · (try dsimp only)
                (first | trivial | skip)
              (try simp only [Act.put, List.setIfInBounds_toArray, List.set_cons_zero, List.set_cons_succ])
              refine wpAnyH_take (i := 12) (oi := { dst := some 4, op := Go.Op.assign (Go.Operand.tmp 44), type := 26, pos := "ref.go:88", after := #[{ on := 11, ground := Go.Ground.data }, { on := 11, ground := Go.Ground.chain }, { on := 0, ground := Go.Ground.phase }, { on := 1, ground := Go.Ground.phase }, { on := 2, ground := Go.Ground.phase }, { on := 3, ground := Go.Ground.phase }, { on := 4, ground := Go.Ground.phase }, { on := 5, ground := Go.Ground.phase }, { on := 6, ground := Go.Ground.phase }, { on := 7, ground := Go.Ground.phase }, { on := 8, ground := Go.Ground.phase }, { on := 9, ground := Go.Ground.phase }, { on := 10, ground := Go.Ground.phase }, { on := 11, ground := Go.Ground.phase }], guard := none }) (v := ?v21) rfl (by kernel_rfl) (by kernel_rfl) (by kernel_rfl) (fun _ _ _ h => h) (Or.inl ⟨by rfl, ?hy21⟩) (by assumption) ?rs21
              case hy21 =>
                intro w hSw
                (try dsimp only at hSw)
                go_simp
                try with_reducible rfl
              (try simp only [Act.put, List.setIfInBounds_toArray, List.set_cons_zero, List.set_cons_succ])
              refine wpAnyH_done (by kernel_rfl) ?_ _
              go_wp2_with fail
              go_ret
              exact hend0.out _ _ _ _ _ rfl (by omega) hO3 hqw3
          · have hkp : 0 < k := by omega
            refine wp_region_held_drew (S := (fun _ => True)) (by kernel_rfl) ?_ (fun hHeld => ?_)
            · (try dsimp only)
              (first | trivial | skip)
            refine wpAnyH_take (i := 1) (oi := { dst := some 34, op := Go.Op.move (Go.Operand.tmp 0), type := 26, pos := "ref.go:88", after := #[], guard := none }) (v := ?v1) rfl (by kernel_rfl) (by kernel_rfl) (by kernel_rfl) (fun _ _ _ h => h) (Or.inl ⟨by rfl, ?hy1⟩) (by assumption) ?rs1
            case hy1 =>
              intro w hSw
              (try dsimp only at hSw)
              go_simp
              try with_reducible rfl
            (try simp only [Act.put, List.setIfInBounds_toArray, List.set_cons_zero, List.set_cons_succ])
            refine wpAnyH_take (i := 2) (oi := { dst := some 35, op := Go.Op.move (Go.Operand.tmp 5), type := 3, pos := "ref.go:88", after := #[], guard := none }) (v := ?v2) rfl (by kernel_rfl) (by kernel_rfl) (by kernel_rfl) (fun _ _ _ h => h) (Or.inl ⟨by rfl, ?hy2⟩) (by assumption) ?rs2
            case hy2 =>
              intro w hSw
              (try dsimp only at hSw)
              go_simp
              try with_reducible rfl
            (try simp only [Act.put, List.setIfInBounds_toArray, List.set_cons_zero, List.set_cons_succ])
            refine wpAnyH_take (i := 3) (oi := { dst := some 36, op := Go.Op.slice 26 (Go.Operand.tmp 34) none (some (Go.Operand.tmp 35)) none, type := 26, pos := "ref.go:88", after := #[{ on := 1, ground := Go.Ground.data }, { on := 2, ground := Go.Ground.data }], guard := none }) (v := ?v3) rfl (by kernel_rfl) (by kernel_rfl) (by kernel_rfl) (fun _ _ _ h => h) (Or.inl ⟨by rfl, ?hy3⟩) (by assumption) ?rs3
            case hy3 =>
              intro w hSw
              (try dsimp only at hSw)
              go_simp
              try with_reducible rfl
            (try simp only [Act.put, List.setIfInBounds_toArray, List.set_cons_zero, List.set_cons_succ])
            refine wpAnyH_take (i := 5) (oi := { dst := some 38, op := Go.Op.move (Go.Operand.tmp 1), type := 9, pos := "ref.go:88", after := #[], guard := none }) (v := ?v4) rfl (by kernel_rfl) (by kernel_rfl) (by kernel_rfl) (fun _ _ _ h => h) (Or.inl ⟨by rfl, ?hy4⟩) (by assumption) ?rs4
            case hy4 =>
              intro w hSw
              (try dsimp only at hSw)
              go_simp
              try with_reducible rfl
            (try simp only [Act.put, List.setIfInBounds_toArray, List.set_cons_zero, List.set_cons_succ])
            refine wpAnyH_take (i := 8) (oi := { dst := some 41, op := Go.Op.move (Go.Operand.tmp 0), type := 26, pos := "ref.go:88", after := #[], guard := none }) (v := ?v5) rfl (by kernel_rfl) (by kernel_rfl) (by kernel_rfl) (fun _ _ _ h => h) (Or.inl ⟨by rfl, ?hy5⟩) (by assumption) ?rs5
            case hy5 =>
              intro w hSw
              (try dsimp only at hSw)
              go_simp
              try with_reducible rfl
            (try simp only [Act.put, List.setIfInBounds_toArray, List.set_cons_zero, List.set_cons_succ])
            refine wpAnyH_take (i := 9) (oi := { dst := some 42, op := Go.Op.move (Go.Operand.tmp 5), type := 3, pos := "ref.go:88", after := #[], guard := none }) (v := ?v6) rfl (by kernel_rfl) (by kernel_rfl) (by kernel_rfl) (fun _ _ _ h => h) (Or.inl ⟨by rfl, ?hy6⟩) (by assumption) ?rs6
            case hy6 =>
              intro w hSw
              (try dsimp only at hSw)
              go_simp
              try with_reducible rfl
            (try simp only [Act.put, List.setIfInBounds_toArray, List.set_cons_zero, List.set_cons_succ])
            refine wpAnyH_take (i := 10) (oi := { dst := some 43, op := Go.Op.slice 26 (Go.Operand.tmp 41) (some (Go.Operand.tmp 42)) none none, type := 26, pos := "ref.go:88", after := #[{ on := 8, ground := Go.Ground.data }, { on := 9, ground := Go.Ground.data }], guard := none }) (v := ?v7) rfl (by kernel_rfl) (by kernel_rfl) (by kernel_rfl) (fun _ _ _ h => h) (Or.inl ⟨by rfl, ?hy7⟩) (by assumption) ?rs7
            case hy7 =>
              intro w hSw
              (try dsimp only at hSw)
              go_simp
              try with_reducible rfl
            (try simp only [Act.put, List.setIfInBounds_toArray, List.set_cons_zero, List.set_cons_succ])
            refine wpAnyH_ready (rs := [0, 6]) (by kernel_rfl) (by simp) ?_
            refine AllReadyH.cons (o := { dst := some 33, op := Go.Op.buildSlice 26 0 #[], type := 26, pos := "ref.go:88", after := #[], guard := none }) rfl (fun K0 hK0 => ?_) (AllReadyH.cons (o := { dst := some 39, op := Go.Op.buildSlice 26 1 #[(0, Go.Operand.tmp 38)], type := 26, pos := "ref.go:88", after := #[{ on := 5, ground := Go.Ground.data }], guard := none }) rfl (fun K6 hK6 => ?_) AllReadyH.nil)
            · skip
              go_simp
              skip
              (try go_wp2_with fail)
              obtain ⟨a0, ha0⟩ : ∃ a, a = (World.drew (World.alloc w (.cells #[] 9))) := ⟨_, rfl⟩
              have hk0 : Kept w a0 := by rw [ha0]; exact ((Kept.refl _).alloc _).drew
              have hsz0 : a0.heap.size = w.heap.size + 1 := by rw [ha0]; simp
              have hq0 : Kept w a0 := hk0
              have hE : a0.ownsRow w.heap.size 9 1 (.slice (some ⟨w.heap.size, 0, none⟩) 0 0) 0 [] := by
                rw [ha0]
                have h := own_zero w w.heap.size 9 (by exact Nat.le_refl _)
                exact h.drew
              rw [← ha0]
              clear ha0
              refine hK0.out _ _ ?_ (fun hHeld => ?_)
              · (try dsimp only)
                (first | trivial | skip)
              (try simp only [Act.put, List.setIfInBounds_toArray, List.set_cons_zero, List.set_cons_succ])
              refine wpAnyH_ready (rs := [4, 6]) (by kernel_rfl) (by simp) ?_
              refine AllReadyH.cons (o := { dst := some 37, op := Go.Op.call { callee := Go.Callee.builtin Go.Builtin.append, args := #[Go.Operand.tmp 33, Go.Operand.tmp 36], argTypes := #[26, 26] }, type := 26, pos := "ref.go:88", after := #[{ on := 0, ground := Go.Ground.data }, { on := 3, ground := Go.Ground.data }], guard := none }) rfl (fun K4 hK4 => ?_) (AllReadyH.cons (o := { dst := some 39, op := Go.Op.buildSlice 26 1 #[(0, Go.Operand.tmp 38)], type := 26, pos := "ref.go:88", after := #[{ on := 5, ground := Go.Ground.data }], guard := none }) rfl (fun K6 hK6 => ?_) AllReadyH.nil)
              · skip
                rw [if_pos (by rfl)]
                refine wp_append_lies _ _ _ 26 rfl w.heap.size 9 i0 (.string ⟨#[]⟩) 1 16 Try.underlying26 hi0 hz0 hz1 hz2 rfl (by decide) _ 0 [] (by rfl) hE ⟨g, 0, none⟩ k _ (wds (L.take k)) (by rfl) hl1 (NEWS1.out _ hq0) wds_one (by omega) (by unfold maxLen; omega) (by omega) (by have := Kept.size hq0; omega) _ rfl ?_
                intro g1 c1 w1 hO1 hgr1 hgl1 hgs1
                have hqw1 : Kept w w1 := hq0.grew hgr1 hE (Nat.le_refl _)
                rw [Nat.zero_add, List.nil_append] at hO1
                (try rw [Nat.zero_add])
                refine hK4.out _ _ ?_ (fun hHeld => ?_)
                · (try dsimp only)
                  (first | trivial | skip)
                (try simp only [Act.put, List.setIfInBounds_toArray, List.set_cons_zero, List.set_cons_succ])
                refine wpAnyH_ready (rs := [6]) (by kernel_rfl) (by simp) ?_
                refine AllReadyH.cons (o := { dst := some 39, op := Go.Op.buildSlice 26 1 #[(0, Go.Operand.tmp 38)], type := 26, pos := "ref.go:88", after := #[{ on := 5, ground := Go.Ground.data }], guard := none }) rfl (fun K6 hK6 => ?_) AllReadyH.nil
                go_simp
                skip
                (try go_wp2_with fail)
                obtain ⟨a6, ha6⟩ : ∃ a, a = (World.alloc w1 (.cells #[.string S] 9)) := ⟨_, rfl⟩
                have hk6 : Kept w1 a6 := by rw [ha6]; exact (Kept.refl _).alloc _
                have hsz6 : a6.heap.size = w1.heap.size + 1 := by rw [ha6]; simp
                have hq6 : Kept w a6 := hqw1.trans hk6
                have hS : a6.cell? ⟨w1.heap.size, 0, none⟩ = some (.string S) := by
                  rw [ha6]
                  exact sbox1H w1 _ 9 _ rfl
                have hO1 := own_kept hO1 hk6
                rw [← ha6]
                clear ha6
                refine hK6.out _ _ ?_ (fun hHeld => ?_)
                · (try dsimp only)
                  (first | trivial | skip)
                (try simp only [Act.put, List.setIfInBounds_toArray, List.set_cons_zero, List.set_cons_succ])
                refine wpAnyH_ready (rs := [7]) (by kernel_rfl) (by simp) ?_
                refine AllReadyH.cons (o := { dst := some 40, op := Go.Op.call { callee := Go.Callee.builtin Go.Builtin.append, args := #[Go.Operand.tmp 37, Go.Operand.tmp 39], argTypes := #[26, 26] }, type := 26, pos := "ref.go:88", after := #[{ on := 4, ground := Go.Ground.data }, { on := 6, ground := Go.Ground.data }, { on := 4, ground := Go.Ground.chain }], guard := none }) rfl (fun K7 hK7 => ?_) AllReadyH.nil
                rw [if_pos (by rfl)]
                refine wp_append_lies _ _ _ 26 rfl w.heap.size 9 i0 (.string ⟨#[]⟩) 1 16 Try.underlying26 hi0 hz0 hz1 hz2 rfl (by decide) _ k (wds (L.take k)) (by rfl) hO1 ⟨w1.heap.size, 0, none⟩ 1 1 [.string S] (by rfl) rfl (news_one hS) (by simp [Value.oneCell']) (by omega) (by unfold maxLen; omega) (by omega) (by have := Kept.size hq6; omega) _ rfl ?_
                intro g2 c2 w2 hO2 hgr2 hgl2 hgs2
                have hqw2 : Kept w w2 := hq6.grew hgr2 hO1 (Nat.le_refl _)
                refine hK7.out _ _ ?_ (fun hHeld => ?_)
                · (try dsimp only)
                  (first | trivial | skip)
                (try simp only [Act.put, List.setIfInBounds_toArray, List.set_cons_zero, List.set_cons_succ])
                refine wpAnyH_ready (rs := [11]) (by kernel_rfl) (by simp) ?_
                refine AllReadyH.cons (o := { dst := some 44, op := Go.Op.call { callee := Go.Callee.builtin Go.Builtin.append, args := #[Go.Operand.tmp 40, Go.Operand.tmp 43], argTypes := #[26, 26] }, type := 26, pos := "ref.go:88", after := #[{ on := 7, ground := Go.Ground.data }, { on := 10, ground := Go.Ground.data }, { on := 7, ground := Go.Ground.chain }], guard := none }) rfl (fun K11 hK11 => ?_) AllReadyH.nil
                rw [if_pos (by rfl)]
                refine wp_append_lies _ _ _ 26 rfl w.heap.size 9 i0 (.string ⟨#[]⟩) 1 16 Try.underlying26 hi0 hz0 hz1 hz2 rfl (by decide) _ (k + 1) (wds (L.take k) ++ [.string S]) (by rfl) hO2 ⟨g, k, none⟩ (n - k) (cap - k) (wds (L.drop k)) (by rfl) hl3 (NEWS3.out _ hqw2) wds_one (by omega) (by unfold maxLen; omega) (by omega) (by have := Kept.size hqw2; omega) _ rfl ?_
                intro g3 c3 w3 hO3 hgr3 hgl3 hgs3
                have hqw3 : Kept w w3 := hqw2.grew hgr3 hO2 (Nat.le_refl _)
                refine hK11.out _ _ ?_ (fun hHeld => ?_)
                · (try dsimp only)
                  (first | trivial | skip)
                (try simp only [Act.put, List.setIfInBounds_toArray, List.set_cons_zero, List.set_cons_succ])
                refine wpAnyH_take (i := 12) (oi := { dst := some 4, op := Go.Op.assign (Go.Operand.tmp 44), type := 26, pos := "ref.go:88", after := #[{ on := 11, ground := Go.Ground.data }, { on := 11, ground := Go.Ground.chain }, { on := 0, ground := Go.Ground.phase }, { on := 1, ground := Go.Ground.phase }, { on := 2, ground := Go.Ground.phase }, { on := 3, ground := Go.Ground.phase }, { on := 4, ground := Go.Ground.phase }, { on := 5, ground := Go.Ground.phase }, { on := 6, ground := Go.Ground.phase }, { on := 7, ground := Go.Ground.phase }, { on := 8, ground := Go.Ground.phase }, { on := 9, ground := Go.Ground.phase }, { on := 10, ground := Go.Ground.phase }, { on := 11, ground := Go.Ground.phase }], guard := none }) (v := ?v8) rfl (by kernel_rfl) (by kernel_rfl) (by kernel_rfl) (fun _ _ _ h => h) (Or.inl ⟨by rfl, ?hy8⟩) (by assumption) ?rs8
                case hy8 =>
                  intro w hSw
                  (try dsimp only at hSw)
                  go_simp
                  try with_reducible rfl
                (try simp only [Act.put, List.setIfInBounds_toArray, List.set_cons_zero, List.set_cons_succ])
                refine wpAnyH_done (by kernel_rfl) ?_ _
                go_wp2_with fail
                go_ret
                exact hend.out _ _ _ _ _ rfl (by omega) hO3 hqw3
              · skip
                go_simp
                skip
                (try go_wp2_with fail)
                obtain ⟨a6, ha6⟩ : ∃ a, a = (World.alloc a0 (.cells #[.string S] 9)) := ⟨_, rfl⟩
                have hk6 : Kept a0 a6 := by rw [ha6]; exact (Kept.refl _).alloc _
                have hsz6 : a6.heap.size = a0.heap.size + 1 := by rw [ha6]; simp
                have hq6 : Kept w a6 := hq0.trans hk6
                have hS : a6.cell? ⟨a0.heap.size, 0, none⟩ = some (.string S) := by
                  rw [ha6]
                  exact sbox1H a0 _ 9 _ rfl
                rw [hsz0] at hS
                have hE := own_kept hE hk6
                rw [← ha6]
                clear ha6
                refine hK6.out _ _ ?_ (fun hHeld => ?_)
                · (try dsimp only)
                  (first | trivial | skip)
                (try simp only [Act.put, List.setIfInBounds_toArray, List.set_cons_zero, List.set_cons_succ])
                refine wpAnyH_ready (rs := [4]) (by kernel_rfl) (by simp) ?_
                refine AllReadyH.cons (o := { dst := some 37, op := Go.Op.call { callee := Go.Callee.builtin Go.Builtin.append, args := #[Go.Operand.tmp 33, Go.Operand.tmp 36], argTypes := #[26, 26] }, type := 26, pos := "ref.go:88", after := #[{ on := 0, ground := Go.Ground.data }, { on := 3, ground := Go.Ground.data }], guard := none }) rfl (fun K4 hK4 => ?_) AllReadyH.nil
                rw [if_pos (by rfl)]
                refine wp_append_lies _ _ _ 26 rfl w.heap.size 9 i0 (.string ⟨#[]⟩) 1 16 Try.underlying26 hi0 hz0 hz1 hz2 rfl (by decide) _ 0 [] (by rfl) hE ⟨g, 0, none⟩ k _ (wds (L.take k)) (by rfl) hl1 (NEWS1.out _ hq6) wds_one (by omega) (by unfold maxLen; omega) (by omega) (by have := Kept.size hq6; omega) _ rfl ?_
                intro g1 c1 w1 hO1 hgr1 hgl1 hgs1
                have hqw1 : Kept w w1 := hq6.grew hgr1 hE (Nat.le_refl _)
                rw [Nat.zero_add, List.nil_append] at hO1
                have hS : w1.cell? ⟨w.heap.size + 1, 0, none⟩ = some (.string S) := grown_cell hgr1 hS (by dsimp only; omega)
                (try rw [Nat.zero_add])
                refine hK4.out _ _ ?_ (fun hHeld => ?_)
                · (try dsimp only)
                  (first | trivial | skip)
                (try simp only [Act.put, List.setIfInBounds_toArray, List.set_cons_zero, List.set_cons_succ])
                refine wpAnyH_ready (rs := [7]) (by kernel_rfl) (by simp) ?_
                refine AllReadyH.cons (o := { dst := some 40, op := Go.Op.call { callee := Go.Callee.builtin Go.Builtin.append, args := #[Go.Operand.tmp 37, Go.Operand.tmp 39], argTypes := #[26, 26] }, type := 26, pos := "ref.go:88", after := #[{ on := 4, ground := Go.Ground.data }, { on := 6, ground := Go.Ground.data }, { on := 4, ground := Go.Ground.chain }], guard := none }) rfl (fun K7 hK7 => ?_) AllReadyH.nil
                rw [if_pos (by rfl)]
                refine wp_append_lies _ _ _ 26 rfl w.heap.size 9 i0 (.string ⟨#[]⟩) 1 16 Try.underlying26 hi0 hz0 hz1 hz2 rfl (by decide) _ k (wds (L.take k)) (by rfl) hO1 ⟨w.heap.size + 1, 0, none⟩ 1 1 [.string S] (by rfl) rfl (news_one hS) (by simp [Value.oneCell']) (by omega) (by unfold maxLen; omega) (by omega) (by have := Kept.size hqw1; omega) _ rfl ?_
                intro g2 c2 w2 hO2 hgr2 hgl2 hgs2
                have hqw2 : Kept w w2 := hqw1.grew hgr2 hO1 (Nat.le_refl _)
                refine hK7.out _ _ ?_ (fun hHeld => ?_)
                · (try dsimp only)
                  (first | trivial | skip)
                (try simp only [Act.put, List.setIfInBounds_toArray, List.set_cons_zero, List.set_cons_succ])
                refine wpAnyH_ready (rs := [11]) (by kernel_rfl) (by simp) ?_
                refine AllReadyH.cons (o := { dst := some 44, op := Go.Op.call { callee := Go.Callee.builtin Go.Builtin.append, args := #[Go.Operand.tmp 40, Go.Operand.tmp 43], argTypes := #[26, 26] }, type := 26, pos := "ref.go:88", after := #[{ on := 7, ground := Go.Ground.data }, { on := 10, ground := Go.Ground.data }, { on := 7, ground := Go.Ground.chain }], guard := none }) rfl (fun K11 hK11 => ?_) AllReadyH.nil
                rw [if_pos (by rfl)]
                refine wp_append_lies _ _ _ 26 rfl w.heap.size 9 i0 (.string ⟨#[]⟩) 1 16 Try.underlying26 hi0 hz0 hz1 hz2 rfl (by decide) _ (k + 1) (wds (L.take k) ++ [.string S]) (by rfl) hO2 ⟨g, k, none⟩ (n - k) (cap - k) (wds (L.drop k)) (by rfl) hl3 (NEWS3.out _ hqw2) wds_one (by omega) (by unfold maxLen; omega) (by omega) (by have := Kept.size hqw2; omega) _ rfl ?_
                intro g3 c3 w3 hO3 hgr3 hgl3 hgs3
                have hqw3 : Kept w w3 := hqw2.grew hgr3 hO2 (Nat.le_refl _)
                refine hK11.out _ _ ?_ (fun hHeld => ?_)
                · (try dsimp only)
                  (first | trivial | skip)
                (try simp only [Act.put, List.setIfInBounds_toArray, List.set_cons_zero, List.set_cons_succ])
                refine wpAnyH_take (i := 12) (oi := { dst := some 4, op := Go.Op.assign (Go.Operand.tmp 44), type := 26, pos := "ref.go:88", after := #[{ on := 11, ground := Go.Ground.data }, { on := 11, ground := Go.Ground.chain }, { on := 0, ground := Go.Ground.phase }, { on := 1, ground := Go.Ground.phase }, { on := 2, ground := Go.Ground.phase }, { on := 3, ground := Go.Ground.phase }, { on := 4, ground := Go.Ground.phase }, { on := 5, ground := Go.Ground.phase }, { on := 6, ground := Go.Ground.phase }, { on := 7, ground := Go.Ground.phase }, { on := 8, ground := Go.Ground.phase }, { on := 9, ground := Go.Ground.phase }, { on := 10, ground := Go.Ground.phase }, { on := 11, ground := Go.Ground.phase }], guard := none }) (v := ?v9) rfl (by kernel_rfl) (by kernel_rfl) (by kernel_rfl) (fun _ _ _ h => h) (Or.inl ⟨by rfl, ?hy9⟩) (by assumption) ?rs9
                case hy9 =>
                  intro w hSw
                  (try dsimp only at hSw)
                  go_simp
                  try with_reducible rfl
                (try simp only [Act.put, List.setIfInBounds_toArray, List.set_cons_zero, List.set_cons_succ])
                refine wpAnyH_done (by kernel_rfl) ?_ _
                go_wp2_with fail
                go_ret
                exact hend.out _ _ _ _ _ rfl (by omega) hO3 hqw3
            · skip
              go_simp
              skip
              (try go_wp2_with fail)
              obtain ⟨a6, ha6⟩ : ∃ a, a = (World.drew (World.alloc w (.cells #[.string S] 9))) := ⟨_, rfl⟩
              have hk6 : Kept w a6 := by rw [ha6]; exact ((Kept.refl _).alloc _).drew
              have hsz6 : a6.heap.size = w.heap.size + 1 := by rw [ha6]; simp
              have hq6 : Kept w a6 := hk6
              have hS : a6.cell? ⟨w.heap.size, 0, none⟩ = some (.string S) := by
                rw [ha6]
                rw [World.cell?_drew]
                exact sbox1H w _ 9 _ rfl
              rw [← ha6]
              clear ha6
              refine hK6.out _ _ ?_ (fun hHeld => ?_)
              · (try dsimp only)
                (first | trivial | skip)
              (try simp only [Act.put, List.setIfInBounds_toArray, List.set_cons_zero, List.set_cons_succ])
              refine wpAnyH_ready (rs := [0]) (by kernel_rfl) (by simp) ?_
              refine AllReadyH.cons (o := { dst := some 33, op := Go.Op.buildSlice 26 0 #[], type := 26, pos := "ref.go:88", after := #[], guard := none }) rfl (fun K0 hK0 => ?_) AllReadyH.nil
              go_simp
              skip
              (try go_wp2_with fail)
              obtain ⟨a0, ha0⟩ : ∃ a, a = (World.alloc a6 (.cells #[] 9)) := ⟨_, rfl⟩
              have hk0 : Kept a6 a0 := by rw [ha0]; exact (Kept.refl _).alloc _
              have hsz0 : a0.heap.size = a6.heap.size + 1 := by rw [ha0]; simp
              have hq0 : Kept w a0 := hq6.trans hk0
              have hE : a0.ownsRow w.heap.size 9 1 (.slice (some ⟨a6.heap.size, 0, none⟩) 0 0) 0 [] := by
                rw [ha0]
                have h := own_zero a6 w.heap.size 9 (by exact hq6.size)
                exact h
              have hS := hk0.cellSome hS
              rw [hsz6] at hE
              rw [← ha0]
              clear ha0
              refine hK0.out _ _ ?_ (fun hHeld => ?_)
              · (try dsimp only)
                (first | trivial | skip)
              (try simp only [Act.put, List.setIfInBounds_toArray, List.set_cons_zero, List.set_cons_succ])
              refine wpAnyH_ready (rs := [4]) (by kernel_rfl) (by simp) ?_
              refine AllReadyH.cons (o := { dst := some 37, op := Go.Op.call { callee := Go.Callee.builtin Go.Builtin.append, args := #[Go.Operand.tmp 33, Go.Operand.tmp 36], argTypes := #[26, 26] }, type := 26, pos := "ref.go:88", after := #[{ on := 0, ground := Go.Ground.data }, { on := 3, ground := Go.Ground.data }], guard := none }) rfl (fun K4 hK4 => ?_) AllReadyH.nil
              rw [if_pos (by rfl)]
              refine wp_append_lies _ _ _ 26 rfl w.heap.size 9 i0 (.string ⟨#[]⟩) 1 16 Try.underlying26 hi0 hz0 hz1 hz2 rfl (by decide) _ 0 [] (by rfl) hE ⟨g, 0, none⟩ k _ (wds (L.take k)) (by rfl) hl1 (NEWS1.out _ hq0) wds_one (by omega) (by unfold maxLen; omega) (by omega) (by have := Kept.size hq0; omega) _ rfl ?_
              intro g1 c1 w1 hO1 hgr1 hgl1 hgs1
              have hqw1 : Kept w w1 := hq0.grew hgr1 hE (Nat.le_refl _)
              rw [Nat.zero_add, List.nil_append] at hO1
              have hS : w1.cell? ⟨w.heap.size, 0, none⟩ = some (.string S) := grown_cell hgr1 hS (by dsimp only; omega)
              (try rw [Nat.zero_add])
              refine hK4.out _ _ ?_ (fun hHeld => ?_)
              · (try dsimp only)
                (first | trivial | skip)
              (try simp only [Act.put, List.setIfInBounds_toArray, List.set_cons_zero, List.set_cons_succ])
              refine wpAnyH_ready (rs := [7]) (by kernel_rfl) (by simp) ?_
              refine AllReadyH.cons (o := { dst := some 40, op := Go.Op.call { callee := Go.Callee.builtin Go.Builtin.append, args := #[Go.Operand.tmp 37, Go.Operand.tmp 39], argTypes := #[26, 26] }, type := 26, pos := "ref.go:88", after := #[{ on := 4, ground := Go.Ground.data }, { on := 6, ground := Go.Ground.data }, { on := 4, ground := Go.Ground.chain }], guard := none }) rfl (fun K7 hK7 => ?_) AllReadyH.nil
              rw [if_pos (by rfl)]
              refine wp_append_lies _ _ _ 26 rfl w.heap.size 9 i0 (.string ⟨#[]⟩) 1 16 Try.underlying26 hi0 hz0 hz1 hz2 rfl (by decide) _ k (wds (L.take k)) (by rfl) hO1 ⟨w.heap.size, 0, none⟩ 1 1 [.string S] (by rfl) rfl (news_one hS) (by simp [Value.oneCell']) (by omega) (by unfold maxLen; omega) (by omega) (by have := Kept.size hqw1; omega) _ rfl ?_
              intro g2 c2 w2 hO2 hgr2 hgl2 hgs2
              have hqw2 : Kept w w2 := hqw1.grew hgr2 hO1 (Nat.le_refl _)
              refine hK7.out _ _ ?_ (fun hHeld => ?_)
              · (try dsimp only)
                (first | trivial | skip)
              (try simp only [Act.put, List.setIfInBounds_toArray, List.set_cons_zero, List.set_cons_succ])
              refine wpAnyH_ready (rs := [11]) (by kernel_rfl) (by simp) ?_
              refine AllReadyH.cons (o := { dst := some 44, op := Go.Op.call { callee := Go.Callee.builtin Go.Builtin.append, args := #[Go.Operand.tmp 40, Go.Operand.tmp 43], argTypes := #[26, 26] }, type := 26, pos := "ref.go:88", after := #[{ on := 7, ground := Go.Ground.data }, { on := 10, ground := Go.Ground.data }, { on := 7, ground := Go.Ground.chain }], guard := none }) rfl (fun K11 hK11 => ?_) AllReadyH.nil
              rw [if_pos (by rfl)]
              refine wp_append_lies _ _ _ 26 rfl w.heap.size 9 i0 (.string ⟨#[]⟩) 1 16 Try.underlying26 hi0 hz0 hz1 hz2 rfl (by decide) _ (k + 1) (wds (L.take k) ++ [.string S]) (by rfl) hO2 ⟨g, k, none⟩ (n - k) (cap - k) (wds (L.drop k)) (by rfl) hl3 (NEWS3.out _ hqw2) wds_one (by omega) (by unfold maxLen; omega) (by omega) (by have := Kept.size hqw2; omega) _ rfl ?_
              intro g3 c3 w3 hO3 hgr3 hgl3 hgs3
              have hqw3 : Kept w w3 := hqw2.grew hgr3 hO2 (Nat.le_refl _)
              refine hK11.out _ _ ?_ (fun hHeld => ?_)
              · (try dsimp only)
                (first | trivial | skip)
              (try simp only [Act.put, List.setIfInBounds_toArray, List.set_cons_zero, List.set_cons_succ])
              refine wpAnyH_take (i := 12) (oi := { dst := some 4, op := Go.Op.assign (Go.Operand.tmp 44), type := 26, pos := "ref.go:88", after := #[{ on := 11, ground := Go.Ground.data }, { on := 11, ground := Go.Ground.chain }, { on := 0, ground := Go.Ground.phase }, { on := 1, ground := Go.Ground.phase }, { on := 2, ground := Go.Ground.phase }, { on := 3, ground := Go.Ground.phase }, { on := 4, ground := Go.Ground.phase }, { on := 5, ground := Go.Ground.phase }, { on := 6, ground := Go.Ground.phase }, { on := 7, ground := Go.Ground.phase }, { on := 8, ground := Go.Ground.phase }, { on := 9, ground := Go.Ground.phase }, { on := 10, ground := Go.Ground.phase }, { on := 11, ground := Go.Ground.phase }], guard := none }) (v := ?v10) rfl (by kernel_rfl) (by kernel_rfl) (by kernel_rfl) (fun _ _ _ h => h) (Or.inl ⟨by rfl, ?hy10⟩) (by assumption) ?rs10
              case hy10 =>
                intro w hSw
                (try dsimp only at hSw)
                go_simp
                try with_reducible rfl
              (try simp only [Act.put, List.setIfInBounds_toArray, List.set_cons_zero, List.set_cons_succ])
              refine wpAnyH_done (by kernel_rfl) ?_ _
              go_wp2_with fail
              go_ret
              exact hend.out _ _ _ _ _ rfl (by omega) hO3 hqw3
    · have hkn : k = n := by omega
      subst hkn
      have s2 : ¬ (k : Int) < (k : Int) := by omega
      have hnew := Lib.hid (putL_new (k := k) (l := L) (by rw [HN.out]; exact Nat.le_refl _) (fun j hj h => HX.out j hj h) (fun hj => absurd hj (by rw [HN.out]; omega)))
      clear HX hlt
      go_wp2_with fail
      have NEWS1 : Hid (∀ W, Kept w W → ∀ (j : Nat) (u : Value), (wds (L.take k))[j]? = some u → W.cell? ((⟨g, 0, none⟩ : Addr).add j) = some u) := Lib.hid (fun W hW => news_at (L := L.take k) (fun i hi => by
        have hi2 : i < k := by rw [List.length_take] at hi; omega
        have h := hW.cellSome (HC.out i (by omega))
        rw [Nat.zero_add, h, List.getD_eq_getElem?_getD, List.getD_eq_getElem?_getD, List.getElem?_take_of_lt hi2]))
      have hl1 : (wds (L.take k)).length = k * 1 := by rw [wds_len, List.length_take, ← HN.out]; omega
      have hdr : L.drop k = [] := List.drop_eq_nil_of_le (by rw [← HN.out]; exact Nat.le_refl _)
      have hend2 : Hid (∀ (m g3 c3 : Nat) (w3 : World) (xs : List Value), xs = wds (L.take k) ++ [.string S] → m = k + 1 → w3.ownsRow w.heap.size 9 1 (.slice (some ⟨g3, 0, none⟩) m c3) m xs → Kept w w3 → PutPost base w L s (.returned (.slice (some ⟨g3, 0, none⟩) m c3)) w3) := Lib.hid (fun m g3 c3 w3 xs hxs hm ho hk => by
        have he : wds (putL L s) = xs := by rw [hnew.out, hxs, HS.out, hdr]; simp [wds]
        have hlen : (putL L s).length = m := by
          rw [hnew.out, hm]; simp only [List.length_append, List.length_take, List.length_cons, List.length_drop, ← HN.out]; omega
        exact ⟨g3, c3, by rw [hlen], by rw [hlen, he]; exact own_base ho hb, hk⟩)
      have s4 : (k : Int) ≤ (k : Int) := by omega
      have s5 : (k : Int) ≤ (cap : Int) := by omega
      by_cases hk0 : k = 0
      · have hw0 : wds (L.take k) = [] := by rw [hk0]; rfl
        have hend3 : Hid (∀ (m g3 c3 : Nat) (w3 : World) (xs : List Value), xs = [.string S] → m = 1 → w3.ownsRow w.heap.size 9 1 (.slice (some ⟨g3, 0, none⟩) m c3) m xs → Kept w w3 → PutPost base w L s (.returned (.slice (some ⟨g3, 0, none⟩) m c3)) w3) := Lib.hid (fun m g3 c3 w3 xs hxs hm ho hk => hend2.out m g3 c3 w3 xs (by rw [hw0, hxs]; rfl) (by rw [hk0]; exact hm) ho hk)
        clear hend2 NEWS1 hl1 hw0 hnew hdr HC
        subst hk0
        by_cases hck : cap = 0
        · subst hck
          refine wp_region_held_drew (S := (fun _ => True)) (by kernel_rfl) ?_ (fun hHeld => ?_)
          · (try dsimp only)
            (first | trivial | skip)
          refine wpAnyH_take (i := 1) (oi := { dst := some 34, op := Go.Op.move (Go.Operand.tmp 0), type := 26, pos := "ref.go:88", after := #[], guard := none }) (v := ?v35) rfl (by kernel_rfl) (by kernel_rfl) (by kernel_rfl) (fun _ _ _ h => h) (Or.inl ⟨by rfl, ?hy35⟩) (by assumption) ?rs35
          case hy35 =>
            intro w hSw
            (try dsimp only at hSw)
            go_simp
            try with_reducible rfl
          (try simp only [Act.put, List.setIfInBounds_toArray, List.set_cons_zero, List.set_cons_succ])
          refine wpAnyH_take (i := 2) (oi := { dst := some 35, op := Go.Op.move (Go.Operand.tmp 5), type := 3, pos := "ref.go:88", after := #[], guard := none }) (v := ?v36) rfl (by kernel_rfl) (by kernel_rfl) (by kernel_rfl) (fun _ _ _ h => h) (Or.inl ⟨by rfl, ?hy36⟩) (by assumption) ?rs36
          case hy36 =>
            intro w hSw
            (try dsimp only at hSw)
            go_simp
            try with_reducible rfl
          (try simp only [Act.put, List.setIfInBounds_toArray, List.set_cons_zero, List.set_cons_succ])
          refine wpAnyH_take (i := 3) (oi := { dst := some 36, op := Go.Op.slice 26 (Go.Operand.tmp 34) none (some (Go.Operand.tmp 35)) none, type := 26, pos := "ref.go:88", after := #[{ on := 1, ground := Go.Ground.data }, { on := 2, ground := Go.Ground.data }], guard := none }) (v := ?v37) rfl (by kernel_rfl) (by kernel_rfl) (by kernel_rfl) (fun _ _ _ h => h) (Or.inl ⟨by rfl, ?hy37⟩) (by assumption) ?rs37
          case hy37 =>
            intro w hSw
            (try dsimp only at hSw)
            go_simp
            try with_reducible rfl
          (try simp only [Act.put, List.setIfInBounds_toArray, List.set_cons_zero, List.set_cons_succ])
          refine wpAnyH_take (i := 5) (oi := { dst := some 38, op := Go.Op.move (Go.Operand.tmp 1), type := 9, pos := "ref.go:88", after := #[], guard := none }) (v := ?v38) rfl (by kernel_rfl) (by kernel_rfl) (by kernel_rfl) (fun _ _ _ h => h) (Or.inl ⟨by rfl, ?hy38⟩) (by assumption) ?rs38
          case hy38 =>
            intro w hSw
            (try dsimp only at hSw)
            go_simp
            try with_reducible rfl
          (try simp only [Act.put, List.setIfInBounds_toArray, List.set_cons_zero, List.set_cons_succ])
          refine wpAnyH_take (i := 8) (oi := { dst := some 41, op := Go.Op.move (Go.Operand.tmp 0), type := 26, pos := "ref.go:88", after := #[], guard := none }) (v := ?v39) rfl (by kernel_rfl) (by kernel_rfl) (by kernel_rfl) (fun _ _ _ h => h) (Or.inl ⟨by rfl, ?hy39⟩) (by assumption) ?rs39
          case hy39 =>
            intro w hSw
            (try dsimp only at hSw)
            go_simp
            try with_reducible rfl
          (try simp only [Act.put, List.setIfInBounds_toArray, List.set_cons_zero, List.set_cons_succ])
          refine wpAnyH_take (i := 9) (oi := { dst := some 42, op := Go.Op.move (Go.Operand.tmp 5), type := 3, pos := "ref.go:88", after := #[], guard := none }) (v := ?v40) rfl (by kernel_rfl) (by kernel_rfl) (by kernel_rfl) (fun _ _ _ h => h) (Or.inl ⟨by rfl, ?hy40⟩) (by assumption) ?rs40
          case hy40 =>
            intro w hSw
            (try dsimp only at hSw)
            go_simp
            try with_reducible rfl
          (try simp only [Act.put, List.setIfInBounds_toArray, List.set_cons_zero, List.set_cons_succ])
          refine wpAnyH_take (i := 10) (oi := { dst := some 43, op := Go.Op.slice 26 (Go.Operand.tmp 41) (some (Go.Operand.tmp 42)) none none, type := 26, pos := "ref.go:88", after := #[{ on := 8, ground := Go.Ground.data }, { on := 9, ground := Go.Ground.data }], guard := none }) (v := ?v41) rfl (by kernel_rfl) (by kernel_rfl) (by kernel_rfl) (fun _ _ _ h => h) (Or.inl ⟨by rfl, ?hy41⟩) (by assumption) ?rs41
          case hy41 =>
            intro w hSw
            (try dsimp only at hSw)
            go_simp
            try with_reducible rfl
          (try simp only [Act.put, List.setIfInBounds_toArray, List.set_cons_zero, List.set_cons_succ])
          refine wpAnyH_ready (rs := [0, 6]) (by kernel_rfl) (by simp) ?_
          refine AllReadyH.cons (o := { dst := some 33, op := Go.Op.buildSlice 26 0 #[], type := 26, pos := "ref.go:88", after := #[], guard := none }) rfl (fun K0 hK0 => ?_) (AllReadyH.cons (o := { dst := some 39, op := Go.Op.buildSlice 26 1 #[(0, Go.Operand.tmp 38)], type := 26, pos := "ref.go:88", after := #[{ on := 5, ground := Go.Ground.data }], guard := none }) rfl (fun K6 hK6 => ?_) AllReadyH.nil)
          · skip
            go_simp
            skip
            (try go_wp2_with fail)
            obtain ⟨a0, ha0⟩ : ∃ a, a = (World.drew (World.alloc w (.cells #[] 9))) := ⟨_, rfl⟩
            have hk0 : Kept w a0 := by rw [ha0]; exact ((Kept.refl _).alloc _).drew
            have hsz0 : a0.heap.size = w.heap.size + 1 := by rw [ha0]; simp
            have hq0 : Kept w a0 := hk0
            have hE : a0.ownsRow w.heap.size 9 1 (.slice (some ⟨w.heap.size, 0, none⟩) 0 0) 0 [] := by
              rw [ha0]
              have h := own_zero w w.heap.size 9 (by exact Nat.le_refl _)
              exact h.drew
            rw [← ha0]
            clear ha0
            refine hK0.out _ _ ?_ (fun hHeld => ?_)
            · (try dsimp only)
              (first | trivial | skip)
            (try simp only [Act.put, List.setIfInBounds_toArray, List.set_cons_zero, List.set_cons_succ])
            refine wpAnyH_take (i := 4) (oi := { dst := some 37, op := Go.Op.call { callee := Go.Callee.builtin Go.Builtin.append, args := #[Go.Operand.tmp 33, Go.Operand.tmp 36], argTypes := #[26, 26] }, type := 26, pos := "ref.go:88", after := #[{ on := 0, ground := Go.Ground.data }, { on := 3, ground := Go.Ground.data }], guard := none }) (v := ?v42) rfl (by kernel_rfl) (by kernel_rfl) (by kernel_rfl) (fun _ _ _ h => h) (Or.inl ⟨by rfl, ?hy42⟩) (by assumption) ?rs42
            case hy42 =>
              intro w hSw
              (try dsimp only at hSw)
              go_simp
              try with_reducible rfl
            (try simp only [Act.put, List.setIfInBounds_toArray, List.set_cons_zero, List.set_cons_succ])
            refine wpAnyH_ready (rs := [6]) (by kernel_rfl) (by simp) ?_
            refine AllReadyH.cons (o := { dst := some 39, op := Go.Op.buildSlice 26 1 #[(0, Go.Operand.tmp 38)], type := 26, pos := "ref.go:88", after := #[{ on := 5, ground := Go.Ground.data }], guard := none }) rfl (fun K6 hK6 => ?_) AllReadyH.nil
            go_simp
            skip
            (try go_wp2_with fail)
            obtain ⟨a6, ha6⟩ : ∃ a, a = (World.alloc a0 (.cells #[.string S] 9)) := ⟨_, rfl⟩
            have hk6 : Kept a0 a6 := by rw [ha6]; exact (Kept.refl _).alloc _
            have hsz6 : a6.heap.size = a0.heap.size + 1 := by rw [ha6]; simp
            have hq6 : Kept w a6 := hq0.trans hk6
            have hS : a6.cell? ⟨a0.heap.size, 0, none⟩ = some (.string S) := by
              rw [ha6]
              exact sbox1H a0 _ 9 _ rfl
            rw [hsz0] at hS
            have hE := own_kept hE hk6
            rw [← ha6]
            clear ha6
            refine hK6.out _ _ ?_ (fun hHeld => ?_)
            · (try dsimp only)
              (first | trivial | skip)
            (try simp only [Act.put, List.setIfInBounds_toArray, List.set_cons_zero, List.set_cons_succ])
            refine wpAnyH_ready (rs := [7]) (by kernel_rfl) (by simp) ?_
            refine AllReadyH.cons (o := { dst := some 40, op := Go.Op.call { callee := Go.Callee.builtin Go.Builtin.append, args := #[Go.Operand.tmp 37, Go.Operand.tmp 39], argTypes := #[26, 26] }, type := 26, pos := "ref.go:88", after := #[{ on := 4, ground := Go.Ground.data }, { on := 6, ground := Go.Ground.data }, { on := 4, ground := Go.Ground.chain }], guard := none }) rfl (fun K7 hK7 => ?_) AllReadyH.nil
            rw [if_pos (by rfl)]
            refine wp_append_lies _ _ _ 26 rfl w.heap.size 9 i0 (.string ⟨#[]⟩) 1 16 Try.underlying26 hi0 hz0 hz1 hz2 rfl (by decide) _ 0 [] (by rfl) hE ⟨w.heap.size + 1, 0, none⟩ 1 1 [.string S] (by rfl) rfl (news_one hS) (by simp [Value.oneCell']) (by omega) (by unfold maxLen; omega) (by omega) (by have := Kept.size hq6; omega) _ rfl ?_
            intro g2 c2 w2 hO2 hgr2 hgl2 hgs2
            have hqw2 : Kept w w2 := hq6.grew hgr2 hE (Nat.le_refl _)
            rw [List.nil_append, Nat.zero_add] at hO2
            (try rw [Nat.zero_add])
            have hcc2 := own_cap hO2
            refine hK7.out _ _ ?_ (fun hHeld => ?_)
            · (try dsimp only)
              (first | trivial | skip)
            (try simp only [Act.put, List.setIfInBounds_toArray, List.set_cons_zero, List.set_cons_succ])
            refine wpAnyH_take (i := 11) (oi := { dst := some 44, op := Go.Op.call { callee := Go.Callee.builtin Go.Builtin.append, args := #[Go.Operand.tmp 40, Go.Operand.tmp 43], argTypes := #[26, 26] }, type := 26, pos := "ref.go:88", after := #[{ on := 7, ground := Go.Ground.data }, { on := 10, ground := Go.Ground.data }, { on := 7, ground := Go.Ground.chain }], guard := none }) (v := ?v43) rfl (by kernel_rfl) (by kernel_rfl) (by kernel_rfl) (fun _ _ _ h => h) (Or.inl ⟨by rfl, ?hy43⟩) (by assumption) ?rs43
            case hy43 =>
              intro w hSw
              (try dsimp only at hSw)
              go_simp
              try with_reducible rfl
            (try simp only [Act.put, List.setIfInBounds_toArray, List.set_cons_zero, List.set_cons_succ])
            refine wpAnyH_take (i := 12) (oi := { dst := some 4, op := Go.Op.assign (Go.Operand.tmp 44), type := 26, pos := "ref.go:88", after := #[{ on := 11, ground := Go.Ground.data }, { on := 11, ground := Go.Ground.chain }, { on := 0, ground := Go.Ground.phase }, { on := 1, ground := Go.Ground.phase }, { on := 2, ground := Go.Ground.phase }, { on := 3, ground := Go.Ground.phase }, { on := 4, ground := Go.Ground.phase }, { on := 5, ground := Go.Ground.phase }, { on := 6, ground := Go.Ground.phase }, { on := 7, ground := Go.Ground.phase }, { on := 8, ground := Go.Ground.phase }, { on := 9, ground := Go.Ground.phase }, { on := 10, ground := Go.Ground.phase }, { on := 11, ground := Go.Ground.phase }], guard := none }) (v := ?v44) rfl (by kernel_rfl) (by kernel_rfl) (by kernel_rfl) (fun _ _ _ h => h) (Or.inl ⟨by rfl, ?hy44⟩) (by assumption) ?rs44
            case hy44 =>
              intro w hSw
              (try dsimp only at hSw)
              go_simp
              try with_reducible rfl
            (try simp only [Act.put, List.setIfInBounds_toArray, List.set_cons_zero, List.set_cons_succ])
            refine wpAnyH_done (by kernel_rfl) ?_ _
            go_wp2_with fail
            go_ret
            exact hend3.out _ _ _ _ _ rfl rfl hO2 hqw2
          · skip
            go_simp
            skip
            (try go_wp2_with fail)
            obtain ⟨a6, ha6⟩ : ∃ a, a = (World.drew (World.alloc w (.cells #[.string S] 9))) := ⟨_, rfl⟩
            have hk6 : Kept w a6 := by rw [ha6]; exact ((Kept.refl _).alloc _).drew
            have hsz6 : a6.heap.size = w.heap.size + 1 := by rw [ha6]; simp
            have hq6 : Kept w a6 := hk6
            have hS : a6.cell? ⟨w.heap.size, 0, none⟩ = some (.string S) := by
              rw [ha6]
              rw [World.cell?_drew]
              exact sbox1H w _ 9 _ rfl
            rw [← ha6]
            clear ha6
            refine hK6.out _ _ ?_ (fun hHeld => ?_)
            · (try dsimp only)
              (first | trivial | skip)
            (try simp only [Act.put, List.setIfInBounds_toArray, List.set_cons_zero, List.set_cons_succ])
            refine wpAnyH_ready (rs := [0]) (by kernel_rfl) (by simp) ?_
            refine AllReadyH.cons (o := { dst := some 33, op := Go.Op.buildSlice 26 0 #[], type := 26, pos := "ref.go:88", after := #[], guard := none }) rfl (fun K0 hK0 => ?_) AllReadyH.nil
            go_simp
            skip
            (try go_wp2_with fail)
            obtain ⟨a0, ha0⟩ : ∃ a, a = (World.alloc a6 (.cells #[] 9)) := ⟨_, rfl⟩
            have hk0 : Kept a6 a0 := by rw [ha0]; exact (Kept.refl _).alloc _
            have hsz0 : a0.heap.size = a6.heap.size + 1 := by rw [ha0]; simp
            have hq0 : Kept w a0 := hq6.trans hk0
            have hE : a0.ownsRow w.heap.size 9 1 (.slice (some ⟨a6.heap.size, 0, none⟩) 0 0) 0 [] := by
              rw [ha0]
              have h := own_zero a6 w.heap.size 9 (by exact hq6.size)
              exact h
            have hS := hk0.cellSome hS
            rw [hsz6] at hE
            rw [← ha0]
            clear ha0
            refine hK0.out _ _ ?_ (fun hHeld => ?_)
            · (try dsimp only)
              (first | trivial | skip)
            (try simp only [Act.put, List.setIfInBounds_toArray, List.set_cons_zero, List.set_cons_succ])
            refine wpAnyH_take (i := 4) (oi := { dst := some 37, op := Go.Op.call { callee := Go.Callee.builtin Go.Builtin.append, args := #[Go.Operand.tmp 33, Go.Operand.tmp 36], argTypes := #[26, 26] }, type := 26, pos := "ref.go:88", after := #[{ on := 0, ground := Go.Ground.data }, { on := 3, ground := Go.Ground.data }], guard := none }) (v := ?v45) rfl (by kernel_rfl) (by kernel_rfl) (by kernel_rfl) (fun _ _ _ h => h) (Or.inl ⟨by rfl, ?hy45⟩) (by assumption) ?rs45
            case hy45 =>
              intro w hSw
              (try dsimp only at hSw)
              go_simp
              try with_reducible rfl
            (try simp only [Act.put, List.setIfInBounds_toArray, List.set_cons_zero, List.set_cons_succ])
            refine wpAnyH_ready (rs := [7]) (by kernel_rfl) (by simp) ?_
            refine AllReadyH.cons (o := { dst := some 40, op := Go.Op.call { callee := Go.Callee.builtin Go.Builtin.append, args := #[Go.Operand.tmp 37, Go.Operand.tmp 39], argTypes := #[26, 26] }, type := 26, pos := "ref.go:88", after := #[{ on := 4, ground := Go.Ground.data }, { on := 6, ground := Go.Ground.data }, { on := 4, ground := Go.Ground.chain }], guard := none }) rfl (fun K7 hK7 => ?_) AllReadyH.nil
            rw [if_pos (by rfl)]
            refine wp_append_lies _ _ _ 26 rfl w.heap.size 9 i0 (.string ⟨#[]⟩) 1 16 Try.underlying26 hi0 hz0 hz1 hz2 rfl (by decide) _ 0 [] (by rfl) hE ⟨w.heap.size, 0, none⟩ 1 1 [.string S] (by rfl) rfl (news_one hS) (by simp [Value.oneCell']) (by omega) (by unfold maxLen; omega) (by omega) (by have := Kept.size hq0; omega) _ rfl ?_
            intro g2 c2 w2 hO2 hgr2 hgl2 hgs2
            have hqw2 : Kept w w2 := hq0.grew hgr2 hE (Nat.le_refl _)
            rw [List.nil_append, Nat.zero_add] at hO2
            (try rw [Nat.zero_add])
            have hcc2 := own_cap hO2
            refine hK7.out _ _ ?_ (fun hHeld => ?_)
            · (try dsimp only)
              (first | trivial | skip)
            (try simp only [Act.put, List.setIfInBounds_toArray, List.set_cons_zero, List.set_cons_succ])
            refine wpAnyH_take (i := 11) (oi := { dst := some 44, op := Go.Op.call { callee := Go.Callee.builtin Go.Builtin.append, args := #[Go.Operand.tmp 40, Go.Operand.tmp 43], argTypes := #[26, 26] }, type := 26, pos := "ref.go:88", after := #[{ on := 7, ground := Go.Ground.data }, { on := 10, ground := Go.Ground.data }, { on := 7, ground := Go.Ground.chain }], guard := none }) (v := ?v46) rfl (by kernel_rfl) (by kernel_rfl) (by kernel_rfl) (fun _ _ _ h => h) (Or.inl ⟨by rfl, ?hy46⟩) (by assumption) ?rs46
            case hy46 =>
              intro w hSw
              (try dsimp only at hSw)
              go_simp
              try with_reducible rfl
            (try simp only [Act.put, List.setIfInBounds_toArray, List.set_cons_zero, List.set_cons_succ])
            refine wpAnyH_take (i := 12) (oi := { dst := some 4, op := Go.Op.assign (Go.Operand.tmp 44), type := 26, pos := "ref.go:88", after := #[{ on := 11, ground := Go.Ground.data }, { on := 11, ground := Go.Ground.chain }, { on := 0, ground := Go.Ground.phase }, { on := 1, ground := Go.Ground.phase }, { on := 2, ground := Go.Ground.phase }, { on := 3, ground := Go.Ground.phase }, { on := 4, ground := Go.Ground.phase }, { on := 5, ground := Go.Ground.phase }, { on := 6, ground := Go.Ground.phase }, { on := 7, ground := Go.Ground.phase }, { on := 8, ground := Go.Ground.phase }, { on := 9, ground := Go.Ground.phase }, { on := 10, ground := Go.Ground.phase }, { on := 11, ground := Go.Ground.phase }], guard := none }) (v := ?v47) rfl (by kernel_rfl) (by kernel_rfl) (by kernel_rfl) (fun _ _ _ h => h) (Or.inl ⟨by rfl, ?hy47⟩) (by assumption) ?rs47
            case hy47 =>
              intro w hSw
              (try dsimp only at hSw)
              go_simp
              try with_reducible rfl
            (try simp only [Act.put, List.setIfInBounds_toArray, List.set_cons_zero, List.set_cons_succ])
            refine wpAnyH_done (by kernel_rfl) ?_ _
            go_wp2_with fail
            go_ret
            exact hend3.out _ _ _ _ _ rfl rfl hO2 hqw2
        · have hck2 : 0 ≤ cap := Nat.zero_le _
          refine wp_region_held_drew (S := (fun _ => True)) (by kernel_rfl) ?_ (fun hHeld => ?_)
          · (try dsimp only)
            (first | trivial | skip)
          refine wpAnyH_take (i := 1) (oi := { dst := some 34, op := Go.Op.move (Go.Operand.tmp 0), type := 26, pos := "ref.go:88", after := #[], guard := none }) (v := ?v61) rfl (by kernel_rfl) (by kernel_rfl) (by kernel_rfl) (fun _ _ _ h => h) (Or.inl ⟨by rfl, ?hy61⟩) (by assumption) ?rs61
          case hy61 =>
            intro w hSw
            (try dsimp only at hSw)
            go_simp
            try with_reducible rfl
          (try simp only [Act.put, List.setIfInBounds_toArray, List.set_cons_zero, List.set_cons_succ])
          refine wpAnyH_take (i := 2) (oi := { dst := some 35, op := Go.Op.move (Go.Operand.tmp 5), type := 3, pos := "ref.go:88", after := #[], guard := none }) (v := ?v62) rfl (by kernel_rfl) (by kernel_rfl) (by kernel_rfl) (fun _ _ _ h => h) (Or.inl ⟨by rfl, ?hy62⟩) (by assumption) ?rs62
          case hy62 =>
            intro w hSw
            (try dsimp only at hSw)
            go_simp
            try with_reducible rfl
          (try simp only [Act.put, List.setIfInBounds_toArray, List.set_cons_zero, List.set_cons_succ])
          refine wpAnyH_take (i := 3) (oi := { dst := some 36, op := Go.Op.slice 26 (Go.Operand.tmp 34) none (some (Go.Operand.tmp 35)) none, type := 26, pos := "ref.go:88", after := #[{ on := 1, ground := Go.Ground.data }, { on := 2, ground := Go.Ground.data }], guard := none }) (v := ?v63) rfl (by kernel_rfl) (by kernel_rfl) (by kernel_rfl) (fun _ _ _ h => h) (Or.inl ⟨by rfl, ?hy63⟩) (by assumption) ?rs63
          case hy63 =>
            intro w hSw
            (try dsimp only at hSw)
            go_simp
            try with_reducible rfl
          (try simp only [Act.put, List.setIfInBounds_toArray, List.set_cons_zero, List.set_cons_succ])
          refine wpAnyH_take (i := 5) (oi := { dst := some 38, op := Go.Op.move (Go.Operand.tmp 1), type := 9, pos := "ref.go:88", after := #[], guard := none }) (v := ?v64) rfl (by kernel_rfl) (by kernel_rfl) (by kernel_rfl) (fun _ _ _ h => h) (Or.inl ⟨by rfl, ?hy64⟩) (by assumption) ?rs64
          case hy64 =>
            intro w hSw
            (try dsimp only at hSw)
            go_simp
            try with_reducible rfl
          (try simp only [Act.put, List.setIfInBounds_toArray, List.set_cons_zero, List.set_cons_succ])
          refine wpAnyH_take (i := 8) (oi := { dst := some 41, op := Go.Op.move (Go.Operand.tmp 0), type := 26, pos := "ref.go:88", after := #[], guard := none }) (v := ?v65) rfl (by kernel_rfl) (by kernel_rfl) (by kernel_rfl) (fun _ _ _ h => h) (Or.inl ⟨by rfl, ?hy65⟩) (by assumption) ?rs65
          case hy65 =>
            intro w hSw
            (try dsimp only at hSw)
            go_simp
            try with_reducible rfl
          (try simp only [Act.put, List.setIfInBounds_toArray, List.set_cons_zero, List.set_cons_succ])
          refine wpAnyH_take (i := 9) (oi := { dst := some 42, op := Go.Op.move (Go.Operand.tmp 5), type := 3, pos := "ref.go:88", after := #[], guard := none }) (v := ?v66) rfl (by kernel_rfl) (by kernel_rfl) (by kernel_rfl) (fun _ _ _ h => h) (Or.inl ⟨by rfl, ?hy66⟩) (by assumption) ?rs66
          case hy66 =>
            intro w hSw
            (try dsimp only at hSw)
            go_simp
            try with_reducible rfl
          (try simp only [Act.put, List.setIfInBounds_toArray, List.set_cons_zero, List.set_cons_succ])
          refine wpAnyH_take (i := 10) (oi := { dst := some 43, op := Go.Op.slice 26 (Go.Operand.tmp 41) (some (Go.Operand.tmp 42)) none none, type := 26, pos := "ref.go:88", after := #[{ on := 8, ground := Go.Ground.data }, { on := 9, ground := Go.Ground.data }], guard := none }) (v := ?v67) rfl (by kernel_rfl) (by kernel_rfl) (by kernel_rfl) (fun _ _ _ h => h) (Or.inl ⟨by rfl, ?hy67⟩) (by assumption) ?rs67
          case hy67 =>
            intro w hSw
            (try dsimp only at hSw)
            go_simp
            try with_reducible rfl
          (try simp only [Act.put, List.setIfInBounds_toArray, List.set_cons_zero, List.set_cons_succ])
          refine wpAnyH_ready (rs := [0, 6]) (by kernel_rfl) (by simp) ?_
          refine AllReadyH.cons (o := { dst := some 33, op := Go.Op.buildSlice 26 0 #[], type := 26, pos := "ref.go:88", after := #[], guard := none }) rfl (fun K0 hK0 => ?_) (AllReadyH.cons (o := { dst := some 39, op := Go.Op.buildSlice 26 1 #[(0, Go.Operand.tmp 38)], type := 26, pos := "ref.go:88", after := #[{ on := 5, ground := Go.Ground.data }], guard := none }) rfl (fun K6 hK6 => ?_) AllReadyH.nil)
          · skip
            go_simp
            skip
            (try go_wp2_with fail)
            obtain ⟨a0, ha0⟩ : ∃ a, a = (World.drew (World.alloc w (.cells #[] 9))) := ⟨_, rfl⟩
            have hk0 : Kept w a0 := by rw [ha0]; exact ((Kept.refl _).alloc _).drew
            have hsz0 : a0.heap.size = w.heap.size + 1 := by rw [ha0]; simp
            have hq0 : Kept w a0 := hk0
            have hE : a0.ownsRow w.heap.size 9 1 (.slice (some ⟨w.heap.size, 0, none⟩) 0 0) 0 [] := by
              rw [ha0]
              have h := own_zero w w.heap.size 9 (by exact Nat.le_refl _)
              exact h.drew
            rw [← ha0]
            clear ha0
            refine hK0.out _ _ ?_ (fun hHeld => ?_)
            · (try dsimp only)
              (first | trivial | skip)
            (try simp only [Act.put, List.setIfInBounds_toArray, List.set_cons_zero, List.set_cons_succ])
            refine wpAnyH_take (i := 4) (oi := { dst := some 37, op := Go.Op.call { callee := Go.Callee.builtin Go.Builtin.append, args := #[Go.Operand.tmp 33, Go.Operand.tmp 36], argTypes := #[26, 26] }, type := 26, pos := "ref.go:88", after := #[{ on := 0, ground := Go.Ground.data }, { on := 3, ground := Go.Ground.data }], guard := none }) (v := ?v68) rfl (by kernel_rfl) (by kernel_rfl) (by kernel_rfl) (fun _ _ _ h => h) (Or.inl ⟨by rfl, ?hy68⟩) (by assumption) ?rs68
            case hy68 =>
              intro w hSw
              (try dsimp only at hSw)
              go_simp
              try with_reducible rfl
            (try simp only [Act.put, List.setIfInBounds_toArray, List.set_cons_zero, List.set_cons_succ])
            refine wpAnyH_ready (rs := [6]) (by kernel_rfl) (by simp) ?_
            refine AllReadyH.cons (o := { dst := some 39, op := Go.Op.buildSlice 26 1 #[(0, Go.Operand.tmp 38)], type := 26, pos := "ref.go:88", after := #[{ on := 5, ground := Go.Ground.data }], guard := none }) rfl (fun K6 hK6 => ?_) AllReadyH.nil
            go_simp
            skip
            (try go_wp2_with fail)
            obtain ⟨a6, ha6⟩ : ∃ a, a = (World.alloc a0 (.cells #[.string S] 9)) := ⟨_, rfl⟩
            have hk6 : Kept a0 a6 := by rw [ha6]; exact (Kept.refl _).alloc _
            have hsz6 : a6.heap.size = a0.heap.size + 1 := by rw [ha6]; simp
            have hq6 : Kept w a6 := hq0.trans hk6
            have hS : a6.cell? ⟨a0.heap.size, 0, none⟩ = some (.string S) := by
              rw [ha6]
              exact sbox1H a0 _ 9 _ rfl
            rw [hsz0] at hS
            have hE := own_kept hE hk6
            rw [← ha6]
            clear ha6
            refine hK6.out _ _ ?_ (fun hHeld => ?_)
            · (try dsimp only)
              (first | trivial | skip)
            (try simp only [Act.put, List.setIfInBounds_toArray, List.set_cons_zero, List.set_cons_succ])
            refine wpAnyH_ready (rs := [7]) (by kernel_rfl) (by simp) ?_
            refine AllReadyH.cons (o := { dst := some 40, op := Go.Op.call { callee := Go.Callee.builtin Go.Builtin.append, args := #[Go.Operand.tmp 37, Go.Operand.tmp 39], argTypes := #[26, 26] }, type := 26, pos := "ref.go:88", after := #[{ on := 4, ground := Go.Ground.data }, { on := 6, ground := Go.Ground.data }, { on := 4, ground := Go.Ground.chain }], guard := none }) rfl (fun K7 hK7 => ?_) AllReadyH.nil
            rw [if_pos (by rfl)]
            refine wp_append_lies _ _ _ 26 rfl w.heap.size 9 i0 (.string ⟨#[]⟩) 1 16 Try.underlying26 hi0 hz0 hz1 hz2 rfl (by decide) _ 0 [] (by rfl) hE ⟨w.heap.size + 1, 0, none⟩ 1 1 [.string S] (by rfl) rfl (news_one hS) (by simp [Value.oneCell']) (by omega) (by unfold maxLen; omega) (by omega) (by have := Kept.size hq6; omega) _ rfl ?_
            intro g2 c2 w2 hO2 hgr2 hgl2 hgs2
            have hqw2 : Kept w w2 := hq6.grew hgr2 hE (Nat.le_refl _)
            rw [List.nil_append, Nat.zero_add] at hO2
            (try rw [Nat.zero_add])
            have hcc2 := own_cap hO2
            refine hK7.out _ _ ?_ (fun hHeld => ?_)
            · (try dsimp only)
              (first | trivial | skip)
            (try simp only [Act.put, List.setIfInBounds_toArray, List.set_cons_zero, List.set_cons_succ])
            refine wpAnyH_take (i := 11) (oi := { dst := some 44, op := Go.Op.call { callee := Go.Callee.builtin Go.Builtin.append, args := #[Go.Operand.tmp 40, Go.Operand.tmp 43], argTypes := #[26, 26] }, type := 26, pos := "ref.go:88", after := #[{ on := 7, ground := Go.Ground.data }, { on := 10, ground := Go.Ground.data }, { on := 7, ground := Go.Ground.chain }], guard := none }) (v := ?v69) rfl (by kernel_rfl) (by kernel_rfl) (by kernel_rfl) (fun _ _ _ h => h) (Or.inl ⟨by rfl, ?hy69⟩) (by assumption) ?rs69
            case hy69 =>
              intro w hSw
              (try dsimp only at hSw)
              go_simp
              try with_reducible rfl
            (try simp only [Act.put, List.setIfInBounds_toArray, List.set_cons_zero, List.set_cons_succ])
            refine wpAnyH_take (i := 12) (oi := { dst := some 4, op := Go.Op.assign (Go.Operand.tmp 44), type := 26, pos := "ref.go:88", after := #[{ on := 11, ground := Go.Ground.data }, { on := 11, ground := Go.Ground.chain }, { on := 0, ground := Go.Ground.phase }, { on := 1, ground := Go.Ground.phase }, { on := 2, ground := Go.Ground.phase }, { on := 3, ground := Go.Ground.phase }, { on := 4, ground := Go.Ground.phase }, { on := 5, ground := Go.Ground.phase }, { on := 6, ground := Go.Ground.phase }, { on := 7, ground := Go.Ground.phase }, { on := 8, ground := Go.Ground.phase }, { on := 9, ground := Go.Ground.phase }, { on := 10, ground := Go.Ground.phase }, { on := 11, ground := Go.Ground.phase }], guard := none }) (v := ?v70) rfl (by kernel_rfl) (by kernel_rfl) (by kernel_rfl) (fun _ _ _ h => h) (Or.inl ⟨by rfl, ?hy70⟩) (by assumption) ?rs70
            case hy70 =>
              intro w hSw
              (try dsimp only at hSw)
              go_simp
              try with_reducible rfl
            (try simp only [Act.put, List.setIfInBounds_toArray, List.set_cons_zero, List.set_cons_succ])
            refine wpAnyH_done (by kernel_rfl) ?_ _
            go_wp2_with fail
            go_ret
            exact hend3.out _ _ _ _ _ rfl rfl hO2 hqw2
          · skip
            go_simp
            skip
            (try go_wp2_with fail)
            obtain ⟨a6, ha6⟩ : ∃ a, a = (World.drew (World.alloc w (.cells #[.string S] 9))) := ⟨_, rfl⟩
            have hk6 : Kept w a6 := by rw [ha6]; exact ((Kept.refl _).alloc _).drew
            have hsz6 : a6.heap.size = w.heap.size + 1 := by rw [ha6]; simp
            have hq6 : Kept w a6 := hk6
            have hS : a6.cell? ⟨w.heap.size, 0, none⟩ = some (.string S) := by
              rw [ha6]
              rw [World.cell?_drew]
              exact sbox1H w _ 9 _ rfl
            rw [← ha6]
            clear ha6
            refine hK6.out _ _ ?_ (fun hHeld => ?_)
            · (try dsimp only)
              (first | trivial | skip)
            (try simp only [Act.put, List.setIfInBounds_toArray, List.set_cons_zero, List.set_cons_succ])
            refine wpAnyH_ready (rs := [0]) (by kernel_rfl) (by simp) ?_
            refine AllReadyH.cons (o := { dst := some 33, op := Go.Op.buildSlice 26 0 #[], type := 26, pos := "ref.go:88", after := #[], guard := none }) rfl (fun K0 hK0 => ?_) AllReadyH.nil
            go_simp
            skip
            (try go_wp2_with fail)
            obtain ⟨a0, ha0⟩ : ∃ a, a = (World.alloc a6 (.cells #[] 9)) := ⟨_, rfl⟩
            have hk0 : Kept a6 a0 := by rw [ha0]; exact (Kept.refl _).alloc _
            have hsz0 : a0.heap.size = a6.heap.size + 1 := by rw [ha0]; simp
            have hq0 : Kept w a0 := hq6.trans hk0
            have hE : a0.ownsRow w.heap.size 9 1 (.slice (some ⟨a6.heap.size, 0, none⟩) 0 0) 0 [] := by
              rw [ha0]
              have h := own_zero a6 w.heap.size 9 (by exact hq6.size)
              exact h
            have hS := hk0.cellSome hS
            rw [hsz6] at hE
            rw [← ha0]
            clear ha0
            refine hK0.out _ _ ?_ (fun hHeld => ?_)
            · (try dsimp only)
              (first | trivial | skip)
            (try simp only [Act.put, List.setIfInBounds_toArray, List.set_cons_zero, List.set_cons_succ])
            refine wpAnyH_take (i := 4) (oi := { dst := some 37, op := Go.Op.call { callee := Go.Callee.builtin Go.Builtin.append, args := #[Go.Operand.tmp 33, Go.Operand.tmp 36], argTypes := #[26, 26] }, type := 26, pos := "ref.go:88", after := #[{ on := 0, ground := Go.Ground.data }, { on := 3, ground := Go.Ground.data }], guard := none }) (v := ?v71) rfl (by kernel_rfl) (by kernel_rfl) (by kernel_rfl) (fun _ _ _ h => h) (Or.inl ⟨by rfl, ?hy71⟩) (by assumption) ?rs71
            case hy71 =>
              intro w hSw
              (try dsimp only at hSw)
              go_simp
              try with_reducible rfl
            (try simp only [Act.put, List.setIfInBounds_toArray, List.set_cons_zero, List.set_cons_succ])
            refine wpAnyH_ready (rs := [7]) (by kernel_rfl) (by simp) ?_
            refine AllReadyH.cons (o := { dst := some 40, op := Go.Op.call { callee := Go.Callee.builtin Go.Builtin.append, args := #[Go.Operand.tmp 37, Go.Operand.tmp 39], argTypes := #[26, 26] }, type := 26, pos := "ref.go:88", after := #[{ on := 4, ground := Go.Ground.data }, { on := 6, ground := Go.Ground.data }, { on := 4, ground := Go.Ground.chain }], guard := none }) rfl (fun K7 hK7 => ?_) AllReadyH.nil
            rw [if_pos (by rfl)]
            refine wp_append_lies _ _ _ 26 rfl w.heap.size 9 i0 (.string ⟨#[]⟩) 1 16 Try.underlying26 hi0 hz0 hz1 hz2 rfl (by decide) _ 0 [] (by rfl) hE ⟨w.heap.size, 0, none⟩ 1 1 [.string S] (by rfl) rfl (news_one hS) (by simp [Value.oneCell']) (by omega) (by unfold maxLen; omega) (by omega) (by have := Kept.size hq0; omega) _ rfl ?_
            intro g2 c2 w2 hO2 hgr2 hgl2 hgs2
            have hqw2 : Kept w w2 := hq0.grew hgr2 hE (Nat.le_refl _)
            rw [List.nil_append, Nat.zero_add] at hO2
            (try rw [Nat.zero_add])
            have hcc2 := own_cap hO2
            refine hK7.out _ _ ?_ (fun hHeld => ?_)
            · (try dsimp only)
              (first | trivial | skip)
            (try simp only [Act.put, List.setIfInBounds_toArray, List.set_cons_zero, List.set_cons_succ])
            refine wpAnyH_take (i := 11) (oi := { dst := some 44, op := Go.Op.call { callee := Go.Callee.builtin Go.Builtin.append, args := #[Go.Operand.tmp 40, Go.Operand.tmp 43], argTypes := #[26, 26] }, type := 26, pos := "ref.go:88", after := #[{ on := 7, ground := Go.Ground.data }, { on := 10, ground := Go.Ground.data }, { on := 7, ground := Go.Ground.chain }], guard := none }) (v := ?v72) rfl (by kernel_rfl) (by kernel_rfl) (by kernel_rfl) (fun _ _ _ h => h) (Or.inl ⟨by rfl, ?hy72⟩) (by assumption) ?rs72
            case hy72 =>
              intro w hSw
              (try dsimp only at hSw)
              go_simp
              try with_reducible rfl
            (try simp only [Act.put, List.setIfInBounds_toArray, List.set_cons_zero, List.set_cons_succ])
            refine wpAnyH_take (i := 12) (oi := { dst := some 4, op := Go.Op.assign (Go.Operand.tmp 44), type := 26, pos := "ref.go:88", after := #[{ on := 11, ground := Go.Ground.data }, { on := 11, ground := Go.Ground.chain }, { on := 0, ground := Go.Ground.phase }, { on := 1, ground := Go.Ground.phase }, { on := 2, ground := Go.Ground.phase }, { on := 3, ground := Go.Ground.phase }, { on := 4, ground := Go.Ground.phase }, { on := 5, ground := Go.Ground.phase }, { on := 6, ground := Go.Ground.phase }, { on := 7, ground := Go.Ground.phase }, { on := 8, ground := Go.Ground.phase }, { on := 9, ground := Go.Ground.phase }, { on := 10, ground := Go.Ground.phase }, { on := 11, ground := Go.Ground.phase }], guard := none }) (v := ?v73) rfl (by kernel_rfl) (by kernel_rfl) (by kernel_rfl) (fun _ _ _ h => h) (Or.inl ⟨by rfl, ?hy73⟩) (by assumption) ?rs73
            case hy73 =>
              intro w hSw
              (try dsimp only at hSw)
              go_simp
              try with_reducible rfl
            (try simp only [Act.put, List.setIfInBounds_toArray, List.set_cons_zero, List.set_cons_succ])
            refine wpAnyH_done (by kernel_rfl) ?_ _
            go_wp2_with fail
            go_ret
            exact hend3.out _ _ _ _ _ rfl rfl hO2 hqw2
      · have hkp : 0 < k := by omega
        by_cases hck : cap = k
        · replace hck := hck.symm
          subst hck
          refine wp_region_held_drew (S := (fun _ => True)) (by kernel_rfl) ?_ (fun hHeld => ?_)
          · (try dsimp only)
            (first | trivial | skip)
          refine wpAnyH_take (i := 1) (oi := { dst := some 34, op := Go.Op.move (Go.Operand.tmp 0), type := 26, pos := "ref.go:88", after := #[], guard := none }) (v := ?v22) rfl (by kernel_rfl) (by kernel_rfl) (by kernel_rfl) (fun _ _ _ h => h) (Or.inl ⟨by rfl, ?hy22⟩) (by assumption) ?rs22
          case hy22 =>
            intro w hSw
            (try dsimp only at hSw)
            go_simp
            try with_reducible rfl
          (try simp only [Act.put, List.setIfInBounds_toArray, List.set_cons_zero, List.set_cons_succ])
          refine wpAnyH_take (i := 2) (oi := { dst := some 35, op := Go.Op.move (Go.Operand.tmp 5), type := 3, pos := "ref.go:88", after := #[], guard := none }) (v := ?v23) rfl (by kernel_rfl) (by kernel_rfl) (by kernel_rfl) (fun _ _ _ h => h) (Or.inl ⟨by rfl, ?hy23⟩) (by assumption) ?rs23
          case hy23 =>
            intro w hSw
            (try dsimp only at hSw)
            go_simp
            try with_reducible rfl
          (try simp only [Act.put, List.setIfInBounds_toArray, List.set_cons_zero, List.set_cons_succ])
          refine wpAnyH_take (i := 3) (oi := { dst := some 36, op := Go.Op.slice 26 (Go.Operand.tmp 34) none (some (Go.Operand.tmp 35)) none, type := 26, pos := "ref.go:88", after := #[{ on := 1, ground := Go.Ground.data }, { on := 2, ground := Go.Ground.data }], guard := none }) (v := ?v24) rfl (by kernel_rfl) (by kernel_rfl) (by kernel_rfl) (fun _ _ _ h => h) (Or.inl ⟨by rfl, ?hy24⟩) (by assumption) ?rs24
          case hy24 =>
            intro w hSw
            (try dsimp only at hSw)
            go_simp
            try with_reducible rfl
          (try simp only [Act.put, List.setIfInBounds_toArray, List.set_cons_zero, List.set_cons_succ])
          refine wpAnyH_take (i := 5) (oi := { dst := some 38, op := Go.Op.move (Go.Operand.tmp 1), type := 9, pos := "ref.go:88", after := #[], guard := none }) (v := ?v25) rfl (by kernel_rfl) (by kernel_rfl) (by kernel_rfl) (fun _ _ _ h => h) (Or.inl ⟨by rfl, ?hy25⟩) (by assumption) ?rs25
          case hy25 =>
            intro w hSw
            (try dsimp only at hSw)
            go_simp
            try with_reducible rfl
          (try simp only [Act.put, List.setIfInBounds_toArray, List.set_cons_zero, List.set_cons_succ])
          refine wpAnyH_take (i := 8) (oi := { dst := some 41, op := Go.Op.move (Go.Operand.tmp 0), type := 26, pos := "ref.go:88", after := #[], guard := none }) (v := ?v26) rfl (by kernel_rfl) (by kernel_rfl) (by kernel_rfl) (fun _ _ _ h => h) (Or.inl ⟨by rfl, ?hy26⟩) (by assumption) ?rs26
          case hy26 =>
            intro w hSw
            (try dsimp only at hSw)
            go_simp
            try with_reducible rfl
          (try simp only [Act.put, List.setIfInBounds_toArray, List.set_cons_zero, List.set_cons_succ])
          refine wpAnyH_take (i := 9) (oi := { dst := some 42, op := Go.Op.move (Go.Operand.tmp 5), type := 3, pos := "ref.go:88", after := #[], guard := none }) (v := ?v27) rfl (by kernel_rfl) (by kernel_rfl) (by kernel_rfl) (fun _ _ _ h => h) (Or.inl ⟨by rfl, ?hy27⟩) (by assumption) ?rs27
          case hy27 =>
            intro w hSw
            (try dsimp only at hSw)
            go_simp
            try with_reducible rfl
          (try simp only [Act.put, List.setIfInBounds_toArray, List.set_cons_zero, List.set_cons_succ])
          refine wpAnyH_take (i := 10) (oi := { dst := some 43, op := Go.Op.slice 26 (Go.Operand.tmp 41) (some (Go.Operand.tmp 42)) none none, type := 26, pos := "ref.go:88", after := #[{ on := 8, ground := Go.Ground.data }, { on := 9, ground := Go.Ground.data }], guard := none }) (v := ?v28) rfl (by kernel_rfl) (by kernel_rfl) (by kernel_rfl) (fun _ _ _ h => h) (Or.inl ⟨by rfl, ?hy28⟩) (by assumption) ?rs28
          case hy28 =>
            intro w hSw
            (try dsimp only at hSw)
            go_simp
            try with_reducible rfl
          (try simp only [Act.put, List.setIfInBounds_toArray, List.set_cons_zero, List.set_cons_succ])
          refine wpAnyH_ready (rs := [0, 6]) (by kernel_rfl) (by simp) ?_
          refine AllReadyH.cons (o := { dst := some 33, op := Go.Op.buildSlice 26 0 #[], type := 26, pos := "ref.go:88", after := #[], guard := none }) rfl (fun K0 hK0 => ?_) (AllReadyH.cons (o := { dst := some 39, op := Go.Op.buildSlice 26 1 #[(0, Go.Operand.tmp 38)], type := 26, pos := "ref.go:88", after := #[{ on := 5, ground := Go.Ground.data }], guard := none }) rfl (fun K6 hK6 => ?_) AllReadyH.nil)
          · skip
            go_simp
            skip
            (try go_wp2_with fail)
            obtain ⟨a0, ha0⟩ : ∃ a, a = (World.drew (World.alloc w (.cells #[] 9))) := ⟨_, rfl⟩
            have hk0 : Kept w a0 := by rw [ha0]; exact ((Kept.refl _).alloc _).drew
            have hsz0 : a0.heap.size = w.heap.size + 1 := by rw [ha0]; simp
            have hq0 : Kept w a0 := hk0
            have hE : a0.ownsRow w.heap.size 9 1 (.slice (some ⟨w.heap.size, 0, none⟩) 0 0) 0 [] := by
              rw [ha0]
              have h := own_zero w w.heap.size 9 (by exact Nat.le_refl _)
              exact h.drew
            rw [← ha0]
            clear ha0
            refine hK0.out _ _ ?_ (fun hHeld => ?_)
            · (try dsimp only)
              (first | trivial | skip)
            (try simp only [Act.put, List.setIfInBounds_toArray, List.set_cons_zero, List.set_cons_succ])
            refine wpAnyH_ready (rs := [4, 6]) (by kernel_rfl) (by simp) ?_
            refine AllReadyH.cons (o := { dst := some 37, op := Go.Op.call { callee := Go.Callee.builtin Go.Builtin.append, args := #[Go.Operand.tmp 33, Go.Operand.tmp 36], argTypes := #[26, 26] }, type := 26, pos := "ref.go:88", after := #[{ on := 0, ground := Go.Ground.data }, { on := 3, ground := Go.Ground.data }], guard := none }) rfl (fun K4 hK4 => ?_) (AllReadyH.cons (o := { dst := some 39, op := Go.Op.buildSlice 26 1 #[(0, Go.Operand.tmp 38)], type := 26, pos := "ref.go:88", after := #[{ on := 5, ground := Go.Ground.data }], guard := none }) rfl (fun K6 hK6 => ?_) AllReadyH.nil)
            · skip
              rw [if_pos (by rfl)]
              refine wp_append_lies _ _ _ 26 rfl w.heap.size 9 i0 (.string ⟨#[]⟩) 1 16 Try.underlying26 hi0 hz0 hz1 hz2 rfl (by decide) _ 0 [] (by rfl) hE ⟨g, 0, none⟩ k _ (wds (L.take k)) (by rfl) hl1 (NEWS1.out _ hq0) wds_one (by omega) (by unfold maxLen; omega) (by omega) (by have := Kept.size hq0; omega) _ rfl ?_
              intro g1 c1 w1 hO1 hgr1 hgl1 hgs1
              have hqw1 : Kept w w1 := hq0.grew hgr1 hE (Nat.le_refl _)
              rw [Nat.zero_add, List.nil_append] at hO1
              (try rw [Nat.zero_add])
              refine hK4.out _ _ ?_ (fun hHeld => ?_)
              · (try dsimp only)
                (first | trivial | skip)
              (try simp only [Act.put, List.setIfInBounds_toArray, List.set_cons_zero, List.set_cons_succ])
              refine wpAnyH_ready (rs := [6]) (by kernel_rfl) (by simp) ?_
              refine AllReadyH.cons (o := { dst := some 39, op := Go.Op.buildSlice 26 1 #[(0, Go.Operand.tmp 38)], type := 26, pos := "ref.go:88", after := #[{ on := 5, ground := Go.Ground.data }], guard := none }) rfl (fun K6 hK6 => ?_) AllReadyH.nil
              go_simp
              skip
              (try go_wp2_with fail)
              obtain ⟨a6, ha6⟩ : ∃ a, a = (World.alloc w1 (.cells #[.string S] 9)) := ⟨_, rfl⟩
              have hk6 : Kept w1 a6 := by rw [ha6]; exact (Kept.refl _).alloc _
              have hsz6 : a6.heap.size = w1.heap.size + 1 := by rw [ha6]; simp
              have hq6 : Kept w a6 := hqw1.trans hk6
              have hS : a6.cell? ⟨w1.heap.size, 0, none⟩ = some (.string S) := by
                rw [ha6]
                exact sbox1H w1 _ 9 _ rfl
              have hO1 := own_kept hO1 hk6
              rw [← ha6]
              clear ha6
              refine hK6.out _ _ ?_ (fun hHeld => ?_)
              · (try dsimp only)
                (first | trivial | skip)
              (try simp only [Act.put, List.setIfInBounds_toArray, List.set_cons_zero, List.set_cons_succ])
              refine wpAnyH_ready (rs := [7]) (by kernel_rfl) (by simp) ?_
              refine AllReadyH.cons (o := { dst := some 40, op := Go.Op.call { callee := Go.Callee.builtin Go.Builtin.append, args := #[Go.Operand.tmp 37, Go.Operand.tmp 39], argTypes := #[26, 26] }, type := 26, pos := "ref.go:88", after := #[{ on := 4, ground := Go.Ground.data }, { on := 6, ground := Go.Ground.data }, { on := 4, ground := Go.Ground.chain }], guard := none }) rfl (fun K7 hK7 => ?_) AllReadyH.nil
              rw [if_pos (by rfl)]
              refine wp_append_lies _ _ _ 26 rfl w.heap.size 9 i0 (.string ⟨#[]⟩) 1 16 Try.underlying26 hi0 hz0 hz1 hz2 rfl (by decide) _ k (wds (L.take k)) (by rfl) hO1 ⟨w1.heap.size, 0, none⟩ 1 1 [.string S] (by rfl) rfl (news_one hS) (by simp [Value.oneCell']) (by omega) (by unfold maxLen; omega) (by omega) (by have := Kept.size hq6; omega) _ rfl ?_
              intro g2 c2 w2 hO2 hgr2 hgl2 hgs2
              have hqw2 : Kept w w2 := hq6.grew hgr2 hO1 (Nat.le_refl _)
              have hcc2 := own_cap hO2
              refine hK7.out _ _ ?_ (fun hHeld => ?_)
              · (try dsimp only)
                (first | trivial | skip)
              (try simp only [Act.put, List.setIfInBounds_toArray, List.set_cons_zero, List.set_cons_succ])
              refine wpAnyH_take (i := 11) (oi := { dst := some 44, op := Go.Op.call { callee := Go.Callee.builtin Go.Builtin.append, args := #[Go.Operand.tmp 40, Go.Operand.tmp 43], argTypes := #[26, 26] }, type := 26, pos := "ref.go:88", after := #[{ on := 7, ground := Go.Ground.data }, { on := 10, ground := Go.Ground.data }, { on := 7, ground := Go.Ground.chain }], guard := none }) (v := ?v29) rfl (by kernel_rfl) (by kernel_rfl) (by kernel_rfl) (fun _ _ _ h => h) (Or.inl ⟨by rfl, ?hy29⟩) (by assumption) ?rs29
              case hy29 =>
                intro w hSw
                (try dsimp only at hSw)
                go_simp
                try with_reducible rfl
              (try simp only [Act.put, List.setIfInBounds_toArray, List.set_cons_zero, List.set_cons_succ])
              refine wpAnyH_take (i := 12) (oi := { dst := some 4, op := Go.Op.assign (Go.Operand.tmp 44), type := 26, pos := "ref.go:88", after := #[{ on := 11, ground := Go.Ground.data }, { on := 11, ground := Go.Ground.chain }, { on := 0, ground := Go.Ground.phase }, { on := 1, ground := Go.Ground.phase }, { on := 2, ground := Go.Ground.phase }, { on := 3, ground := Go.Ground.phase }, { on := 4, ground := Go.Ground.phase }, { on := 5, ground := Go.Ground.phase }, { on := 6, ground := Go.Ground.phase }, { on := 7, ground := Go.Ground.phase }, { on := 8, ground := Go.Ground.phase }, { on := 9, ground := Go.Ground.phase }, { on := 10, ground := Go.Ground.phase }, { on := 11, ground := Go.Ground.phase }], guard := none }) (v := ?v30) rfl (by kernel_rfl) (by kernel_rfl) (by kernel_rfl) (fun _ _ _ h => h) (Or.inl ⟨by rfl, ?hy30⟩) (by assumption) ?rs30
              case hy30 =>
                intro w hSw
                (try dsimp only at hSw)
                go_simp
                try with_reducible rfl
              (try simp only [Act.put, List.setIfInBounds_toArray, List.set_cons_zero, List.set_cons_succ])
              refine wpAnyH_done (by kernel_rfl) ?_ _
              go_wp2_with fail
              go_ret
              exact hend2.out _ _ _ _ _ rfl rfl hO2 hqw2
            · skip
              go_simp
              skip
              (try go_wp2_with fail)
              obtain ⟨a6, ha6⟩ : ∃ a, a = (World.alloc a0 (.cells #[.string S] 9)) := ⟨_, rfl⟩
              have hk6 : Kept a0 a6 := by rw [ha6]; exact (Kept.refl _).alloc _
              have hsz6 : a6.heap.size = a0.heap.size + 1 := by rw [ha6]; simp
              have hq6 : Kept w a6 := hq0.trans hk6
              have hS : a6.cell? ⟨a0.heap.size, 0, none⟩ = some (.string S) := by
                rw [ha6]
                exact sbox1H a0 _ 9 _ rfl
              rw [hsz0] at hS
              have hE := own_kept hE hk6
              rw [← ha6]
              clear ha6
              refine hK6.out _ _ ?_ (fun hHeld => ?_)
              · (try dsimp only)
                (first | trivial | skip)
              (try simp only [Act.put, List.setIfInBounds_toArray, List.set_cons_zero, List.set_cons_succ])
              refine wpAnyH_ready (rs := [4]) (by kernel_rfl) (by simp) ?_
              refine AllReadyH.cons (o := { dst := some 37, op := Go.Op.call { callee := Go.Callee.builtin Go.Builtin.append, args := #[Go.Operand.tmp 33, Go.Operand.tmp 36], argTypes := #[26, 26] }, type := 26, pos := "ref.go:88", after := #[{ on := 0, ground := Go.Ground.data }, { on := 3, ground := Go.Ground.data }], guard := none }) rfl (fun K4 hK4 => ?_) AllReadyH.nil
              rw [if_pos (by rfl)]
              refine wp_append_lies _ _ _ 26 rfl w.heap.size 9 i0 (.string ⟨#[]⟩) 1 16 Try.underlying26 hi0 hz0 hz1 hz2 rfl (by decide) _ 0 [] (by rfl) hE ⟨g, 0, none⟩ k _ (wds (L.take k)) (by rfl) hl1 (NEWS1.out _ hq6) wds_one (by omega) (by unfold maxLen; omega) (by omega) (by have := Kept.size hq6; omega) _ rfl ?_
              intro g1 c1 w1 hO1 hgr1 hgl1 hgs1
              have hqw1 : Kept w w1 := hq6.grew hgr1 hE (Nat.le_refl _)
              rw [Nat.zero_add, List.nil_append] at hO1
              have hS : w1.cell? ⟨w.heap.size + 1, 0, none⟩ = some (.string S) := grown_cell hgr1 hS (by dsimp only; omega)
              (try rw [Nat.zero_add])
              refine hK4.out _ _ ?_ (fun hHeld => ?_)
              · (try dsimp only)
                (first | trivial | skip)
              (try simp only [Act.put, List.setIfInBounds_toArray, List.set_cons_zero, List.set_cons_succ])
              refine wpAnyH_ready (rs := [7]) (by kernel_rfl) (by simp) ?_
              refine AllReadyH.cons (o := { dst := some 40, op := Go.Op.call { callee := Go.Callee.builtin Go.Builtin.append, args := #[Go.Operand.tmp 37, Go.Operand.tmp 39], argTypes := #[26, 26] }, type := 26, pos := "ref.go:88", after := #[{ on := 4, ground := Go.Ground.data }, { on := 6, ground := Go.Ground.data }, { on := 4, ground := Go.Ground.chain }], guard := none }) rfl (fun K7 hK7 => ?_) AllReadyH.nil
              rw [if_pos (by rfl)]
              refine wp_append_lies _ _ _ 26 rfl w.heap.size 9 i0 (.string ⟨#[]⟩) 1 16 Try.underlying26 hi0 hz0 hz1 hz2 rfl (by decide) _ k (wds (L.take k)) (by rfl) hO1 ⟨w.heap.size + 1, 0, none⟩ 1 1 [.string S] (by rfl) rfl (news_one hS) (by simp [Value.oneCell']) (by omega) (by unfold maxLen; omega) (by omega) (by have := Kept.size hqw1; omega) _ rfl ?_
              intro g2 c2 w2 hO2 hgr2 hgl2 hgs2
              have hqw2 : Kept w w2 := hqw1.grew hgr2 hO1 (Nat.le_refl _)
              have hcc2 := own_cap hO2
              refine hK7.out _ _ ?_ (fun hHeld => ?_)
              · (try dsimp only)
                (first | trivial | skip)
              (try simp only [Act.put, List.setIfInBounds_toArray, List.set_cons_zero, List.set_cons_succ])
              refine wpAnyH_take (i := 11) (oi := { dst := some 44, op := Go.Op.call { callee := Go.Callee.builtin Go.Builtin.append, args := #[Go.Operand.tmp 40, Go.Operand.tmp 43], argTypes := #[26, 26] }, type := 26, pos := "ref.go:88", after := #[{ on := 7, ground := Go.Ground.data }, { on := 10, ground := Go.Ground.data }, { on := 7, ground := Go.Ground.chain }], guard := none }) (v := ?v31) rfl (by kernel_rfl) (by kernel_rfl) (by kernel_rfl) (fun _ _ _ h => h) (Or.inl ⟨by rfl, ?hy31⟩) (by assumption) ?rs31
              case hy31 =>
                intro w hSw
                (try dsimp only at hSw)
                go_simp
                try with_reducible rfl
              (try simp only [Act.put, List.setIfInBounds_toArray, List.set_cons_zero, List.set_cons_succ])
              refine wpAnyH_take (i := 12) (oi := { dst := some 4, op := Go.Op.assign (Go.Operand.tmp 44), type := 26, pos := "ref.go:88", after := #[{ on := 11, ground := Go.Ground.data }, { on := 11, ground := Go.Ground.chain }, { on := 0, ground := Go.Ground.phase }, { on := 1, ground := Go.Ground.phase }, { on := 2, ground := Go.Ground.phase }, { on := 3, ground := Go.Ground.phase }, { on := 4, ground := Go.Ground.phase }, { on := 5, ground := Go.Ground.phase }, { on := 6, ground := Go.Ground.phase }, { on := 7, ground := Go.Ground.phase }, { on := 8, ground := Go.Ground.phase }, { on := 9, ground := Go.Ground.phase }, { on := 10, ground := Go.Ground.phase }, { on := 11, ground := Go.Ground.phase }], guard := none }) (v := ?v32) rfl (by kernel_rfl) (by kernel_rfl) (by kernel_rfl) (fun _ _ _ h => h) (Or.inl ⟨by rfl, ?hy32⟩) (by assumption) ?rs32
              case hy32 =>
                intro w hSw
                (try dsimp only at hSw)
                go_simp
                try with_reducible rfl
              (try simp only [Act.put, List.setIfInBounds_toArray, List.set_cons_zero, List.set_cons_succ])
              refine wpAnyH_done (by kernel_rfl) ?_ _
              go_wp2_with fail
              go_ret
              exact hend2.out _ _ _ _ _ rfl rfl hO2 hqw2
          · skip
            go_simp
            skip
            (try go_wp2_with fail)
            obtain ⟨a6, ha6⟩ : ∃ a, a = (World.drew (World.alloc w (.cells #[.string S] 9))) := ⟨_, rfl⟩
            have hk6 : Kept w a6 := by rw [ha6]; exact ((Kept.refl _).alloc _).drew
            have hsz6 : a6.heap.size = w.heap.size + 1 := by rw [ha6]; simp
            have hq6 : Kept w a6 := hk6
            have hS : a6.cell? ⟨w.heap.size, 0, none⟩ = some (.string S) := by
              rw [ha6]
              rw [World.cell?_drew]
              exact sbox1H w _ 9 _ rfl
            rw [← ha6]
            clear ha6
            refine hK6.out _ _ ?_ (fun hHeld => ?_)
            · (try dsimp only)
              (first | trivial | skip)
            (try simp only [Act.put, List.setIfInBounds_toArray, List.set_cons_zero, List.set_cons_succ])
            refine wpAnyH_ready (rs := [0]) (by kernel_rfl) (by simp) ?_
            refine AllReadyH.cons (o := { dst := some 33, op := Go.Op.buildSlice 26 0 #[], type := 26, pos := "ref.go:88", after := #[], guard := none }) rfl (fun K0 hK0 => ?_) AllReadyH.nil
            go_simp
            skip
            (try go_wp2_with fail)
            obtain ⟨a0, ha0⟩ : ∃ a, a = (World.alloc a6 (.cells #[] 9)) := ⟨_, rfl⟩
            have hk0 : Kept a6 a0 := by rw [ha0]; exact (Kept.refl _).alloc _
            have hsz0 : a0.heap.size = a6.heap.size + 1 := by rw [ha0]; simp
            have hq0 : Kept w a0 := hq6.trans hk0
            have hE : a0.ownsRow w.heap.size 9 1 (.slice (some ⟨a6.heap.size, 0, none⟩) 0 0) 0 [] := by
              rw [ha0]
              have h := own_zero a6 w.heap.size 9 (by exact hq6.size)
              exact h
            have hS := hk0.cellSome hS
            rw [hsz6] at hE
            rw [← ha0]
            clear ha0
            refine hK0.out _ _ ?_ (fun hHeld => ?_)
            · (try dsimp only)
              (first | trivial | skip)
            (try simp only [Act.put, List.setIfInBounds_toArray, List.set_cons_zero, List.set_cons_succ])
            refine wpAnyH_ready (rs := [4]) (by kernel_rfl) (by simp) ?_
            refine AllReadyH.cons (o := { dst := some 37, op := Go.Op.call { callee := Go.Callee.builtin Go.Builtin.append, args := #[Go.Operand.tmp 33, Go.Operand.tmp 36], argTypes := #[26, 26] }, type := 26, pos := "ref.go:88", after := #[{ on := 0, ground := Go.Ground.data }, { on := 3, ground := Go.Ground.data }], guard := none }) rfl (fun K4 hK4 => ?_) AllReadyH.nil
            rw [if_pos (by rfl)]
            refine wp_append_lies _ _ _ 26 rfl w.heap.size 9 i0 (.string ⟨#[]⟩) 1 16 Try.underlying26 hi0 hz0 hz1 hz2 rfl (by decide) _ 0 [] (by rfl) hE ⟨g, 0, none⟩ k _ (wds (L.take k)) (by rfl) hl1 (NEWS1.out _ hq0) wds_one (by omega) (by unfold maxLen; omega) (by omega) (by have := Kept.size hq0; omega) _ rfl ?_
            intro g1 c1 w1 hO1 hgr1 hgl1 hgs1
            have hqw1 : Kept w w1 := hq0.grew hgr1 hE (Nat.le_refl _)
            rw [Nat.zero_add, List.nil_append] at hO1
            have hS : w1.cell? ⟨w.heap.size, 0, none⟩ = some (.string S) := grown_cell hgr1 hS (by dsimp only; omega)
            (try rw [Nat.zero_add])
            refine hK4.out _ _ ?_ (fun hHeld => ?_)
            · (try dsimp only)
              (first | trivial | skip)
            (try simp only [Act.put, List.setIfInBounds_toArray, List.set_cons_zero, List.set_cons_succ])
            refine wpAnyH_ready (rs := [7]) (by kernel_rfl) (by simp) ?_
            refine AllReadyH.cons (o := { dst := some 40, op := Go.Op.call { callee := Go.Callee.builtin Go.Builtin.append, args := #[Go.Operand.tmp 37, Go.Operand.tmp 39], argTypes := #[26, 26] }, type := 26, pos := "ref.go:88", after := #[{ on := 4, ground := Go.Ground.data }, { on := 6, ground := Go.Ground.data }, { on := 4, ground := Go.Ground.chain }], guard := none }) rfl (fun K7 hK7 => ?_) AllReadyH.nil
            rw [if_pos (by rfl)]
            refine wp_append_lies _ _ _ 26 rfl w.heap.size 9 i0 (.string ⟨#[]⟩) 1 16 Try.underlying26 hi0 hz0 hz1 hz2 rfl (by decide) _ k (wds (L.take k)) (by rfl) hO1 ⟨w.heap.size, 0, none⟩ 1 1 [.string S] (by rfl) rfl (news_one hS) (by simp [Value.oneCell']) (by omega) (by unfold maxLen; omega) (by omega) (by have := Kept.size hqw1; omega) _ rfl ?_
            intro g2 c2 w2 hO2 hgr2 hgl2 hgs2
            have hqw2 : Kept w w2 := hqw1.grew hgr2 hO1 (Nat.le_refl _)
            have hcc2 := own_cap hO2
            refine hK7.out _ _ ?_ (fun hHeld => ?_)
            · (try dsimp only)
              (first | trivial | skip)
            (try simp only [Act.put, List.setIfInBounds_toArray, List.set_cons_zero, List.set_cons_succ])
            refine wpAnyH_take (i := 11) (oi := { dst := some 44, op := Go.Op.call { callee := Go.Callee.builtin Go.Builtin.append, args := #[Go.Operand.tmp 40, Go.Operand.tmp 43], argTypes := #[26, 26] }, type := 26, pos := "ref.go:88", after := #[{ on := 7, ground := Go.Ground.data }, { on := 10, ground := Go.Ground.data }, { on := 7, ground := Go.Ground.chain }], guard := none }) (v := ?v33) rfl (by kernel_rfl) (by kernel_rfl) (by kernel_rfl) (fun _ _ _ h => h) (Or.inl ⟨by rfl, ?hy33⟩) (by assumption) ?rs33
            case hy33 =>
              intro w hSw
              (try dsimp only at hSw)
              go_simp
              try with_reducible rfl
            (try simp only [Act.put, List.setIfInBounds_toArray, List.set_cons_zero, List.set_cons_succ])
            refine wpAnyH_take (i := 12) (oi := { dst := some 4, op := Go.Op.assign (Go.Operand.tmp 44), type := 26, pos := "ref.go:88", after := #[{ on := 11, ground := Go.Ground.data }, { on := 11, ground := Go.Ground.chain }, { on := 0, ground := Go.Ground.phase }, { on := 1, ground := Go.Ground.phase }, { on := 2, ground := Go.Ground.phase }, { on := 3, ground := Go.Ground.phase }, { on := 4, ground := Go.Ground.phase }, { on := 5, ground := Go.Ground.phase }, { on := 6, ground := Go.Ground.phase }, { on := 7, ground := Go.Ground.phase }, { on := 8, ground := Go.Ground.phase }, { on := 9, ground := Go.Ground.phase }, { on := 10, ground := Go.Ground.phase }, { on := 11, ground := Go.Ground.phase }], guard := none }) (v := ?v34) rfl (by kernel_rfl) (by kernel_rfl) (by kernel_rfl) (fun _ _ _ h => h) (Or.inl ⟨by rfl, ?hy34⟩) (by assumption) ?rs34
            case hy34 =>
              intro w hSw
              (try dsimp only at hSw)
              go_simp
              try with_reducible rfl
            (try simp only [Act.put, List.setIfInBounds_toArray, List.set_cons_zero, List.set_cons_succ])
            refine wpAnyH_done (by kernel_rfl) ?_ _
            go_wp2_with fail
            go_ret
            exact hend2.out _ _ _ _ _ rfl rfl hO2 hqw2
        · have hck2 : k ≤ cap := hcap
          refine wp_region_held_drew (S := (fun _ => True)) (by kernel_rfl) ?_ (fun hHeld => ?_)
          · (try dsimp only)
            (first | trivial | skip)
          refine wpAnyH_take (i := 1) (oi := { dst := some 34, op := Go.Op.move (Go.Operand.tmp 0), type := 26, pos := "ref.go:88", after := #[], guard := none }) (v := ?v48) rfl (by kernel_rfl) (by kernel_rfl) (by kernel_rfl) (fun _ _ _ h => h) (Or.inl ⟨by rfl, ?hy48⟩) (by assumption) ?rs48
          case hy48 =>
            intro w hSw
            (try dsimp only at hSw)
            go_simp
            try with_reducible rfl
          (try simp only [Act.put, List.setIfInBounds_toArray, List.set_cons_zero, List.set_cons_succ])
          refine wpAnyH_take (i := 2) (oi := { dst := some 35, op := Go.Op.move (Go.Operand.tmp 5), type := 3, pos := "ref.go:88", after := #[], guard := none }) (v := ?v49) rfl (by kernel_rfl) (by kernel_rfl) (by kernel_rfl) (fun _ _ _ h => h) (Or.inl ⟨by rfl, ?hy49⟩) (by assumption) ?rs49
          case hy49 =>
            intro w hSw
            (try dsimp only at hSw)
            go_simp
            try with_reducible rfl
          (try simp only [Act.put, List.setIfInBounds_toArray, List.set_cons_zero, List.set_cons_succ])
          refine wpAnyH_take (i := 3) (oi := { dst := some 36, op := Go.Op.slice 26 (Go.Operand.tmp 34) none (some (Go.Operand.tmp 35)) none, type := 26, pos := "ref.go:88", after := #[{ on := 1, ground := Go.Ground.data }, { on := 2, ground := Go.Ground.data }], guard := none }) (v := ?v50) rfl (by kernel_rfl) (by kernel_rfl) (by kernel_rfl) (fun _ _ _ h => h) (Or.inl ⟨by rfl, ?hy50⟩) (by assumption) ?rs50
          case hy50 =>
            intro w hSw
            (try dsimp only at hSw)
            go_simp
            try with_reducible rfl
          (try simp only [Act.put, List.setIfInBounds_toArray, List.set_cons_zero, List.set_cons_succ])
          refine wpAnyH_take (i := 5) (oi := { dst := some 38, op := Go.Op.move (Go.Operand.tmp 1), type := 9, pos := "ref.go:88", after := #[], guard := none }) (v := ?v51) rfl (by kernel_rfl) (by kernel_rfl) (by kernel_rfl) (fun _ _ _ h => h) (Or.inl ⟨by rfl, ?hy51⟩) (by assumption) ?rs51
          case hy51 =>
            intro w hSw
            (try dsimp only at hSw)
            go_simp
            try with_reducible rfl
          (try simp only [Act.put, List.setIfInBounds_toArray, List.set_cons_zero, List.set_cons_succ])
          refine wpAnyH_take (i := 8) (oi := { dst := some 41, op := Go.Op.move (Go.Operand.tmp 0), type := 26, pos := "ref.go:88", after := #[], guard := none }) (v := ?v52) rfl (by kernel_rfl) (by kernel_rfl) (by kernel_rfl) (fun _ _ _ h => h) (Or.inl ⟨by rfl, ?hy52⟩) (by assumption) ?rs52
          case hy52 =>
            intro w hSw
            (try dsimp only at hSw)
            go_simp
            try with_reducible rfl
          (try simp only [Act.put, List.setIfInBounds_toArray, List.set_cons_zero, List.set_cons_succ])
          refine wpAnyH_take (i := 9) (oi := { dst := some 42, op := Go.Op.move (Go.Operand.tmp 5), type := 3, pos := "ref.go:88", after := #[], guard := none }) (v := ?v53) rfl (by kernel_rfl) (by kernel_rfl) (by kernel_rfl) (fun _ _ _ h => h) (Or.inl ⟨by rfl, ?hy53⟩) (by assumption) ?rs53
          case hy53 =>
            intro w hSw
            (try dsimp only at hSw)
            go_simp
            try with_reducible rfl
          (try simp only [Act.put, List.setIfInBounds_toArray, List.set_cons_zero, List.set_cons_succ])
          refine wpAnyH_take (i := 10) (oi := { dst := some 43, op := Go.Op.slice 26 (Go.Operand.tmp 41) (some (Go.Operand.tmp 42)) none none, type := 26, pos := "ref.go:88", after := #[{ on := 8, ground := Go.Ground.data }, { on := 9, ground := Go.Ground.data }], guard := none }) (v := ?v54) rfl (by kernel_rfl) (by kernel_rfl) (by kernel_rfl) (fun _ _ _ h => h) (Or.inl ⟨by rfl, ?hy54⟩) (by assumption) ?rs54
          case hy54 =>
            intro w hSw
            (try dsimp only at hSw)
            go_simp
            try with_reducible rfl
          (try simp only [Act.put, List.setIfInBounds_toArray, List.set_cons_zero, List.set_cons_succ])
          refine wpAnyH_ready (rs := [0, 6]) (by kernel_rfl) (by simp) ?_
          refine AllReadyH.cons (o := { dst := some 33, op := Go.Op.buildSlice 26 0 #[], type := 26, pos := "ref.go:88", after := #[], guard := none }) rfl (fun K0 hK0 => ?_) (AllReadyH.cons (o := { dst := some 39, op := Go.Op.buildSlice 26 1 #[(0, Go.Operand.tmp 38)], type := 26, pos := "ref.go:88", after := #[{ on := 5, ground := Go.Ground.data }], guard := none }) rfl (fun K6 hK6 => ?_) AllReadyH.nil)
          · skip
            go_simp
            skip
            (try go_wp2_with fail)
            obtain ⟨a0, ha0⟩ : ∃ a, a = (World.drew (World.alloc w (.cells #[] 9))) := ⟨_, rfl⟩
            have hk0 : Kept w a0 := by rw [ha0]; exact ((Kept.refl _).alloc _).drew
            have hsz0 : a0.heap.size = w.heap.size + 1 := by rw [ha0]; simp
            have hq0 : Kept w a0 := hk0
            have hE : a0.ownsRow w.heap.size 9 1 (.slice (some ⟨w.heap.size, 0, none⟩) 0 0) 0 [] := by
              rw [ha0]
              have h := own_zero w w.heap.size 9 (by exact Nat.le_refl _)
              exact h.drew
            rw [← ha0]
            clear ha0
            refine hK0.out _ _ ?_ (fun hHeld => ?_)
            · (try dsimp only)
              (first | trivial | skip)
            (try simp only [Act.put, List.setIfInBounds_toArray, List.set_cons_zero, List.set_cons_succ])
            refine wpAnyH_ready (rs := [4, 6]) (by kernel_rfl) (by simp) ?_
            refine AllReadyH.cons (o := { dst := some 37, op := Go.Op.call { callee := Go.Callee.builtin Go.Builtin.append, args := #[Go.Operand.tmp 33, Go.Operand.tmp 36], argTypes := #[26, 26] }, type := 26, pos := "ref.go:88", after := #[{ on := 0, ground := Go.Ground.data }, { on := 3, ground := Go.Ground.data }], guard := none }) rfl (fun K4 hK4 => ?_) (AllReadyH.cons (o := { dst := some 39, op := Go.Op.buildSlice 26 1 #[(0, Go.Operand.tmp 38)], type := 26, pos := "ref.go:88", after := #[{ on := 5, ground := Go.Ground.data }], guard := none }) rfl (fun K6 hK6 => ?_) AllReadyH.nil)
            · skip
              rw [if_pos (by rfl)]
              refine wp_append_lies _ _ _ 26 rfl w.heap.size 9 i0 (.string ⟨#[]⟩) 1 16 Try.underlying26 hi0 hz0 hz1 hz2 rfl (by decide) _ 0 [] (by rfl) hE ⟨g, 0, none⟩ k _ (wds (L.take k)) (by rfl) hl1 (NEWS1.out _ hq0) wds_one (by omega) (by unfold maxLen; omega) (by omega) (by have := Kept.size hq0; omega) _ rfl ?_
              intro g1 c1 w1 hO1 hgr1 hgl1 hgs1
              have hqw1 : Kept w w1 := hq0.grew hgr1 hE (Nat.le_refl _)
              rw [Nat.zero_add, List.nil_append] at hO1
              (try rw [Nat.zero_add])
              refine hK4.out _ _ ?_ (fun hHeld => ?_)
              · (try dsimp only)
                (first | trivial | skip)
              (try simp only [Act.put, List.setIfInBounds_toArray, List.set_cons_zero, List.set_cons_succ])
              refine wpAnyH_ready (rs := [6]) (by kernel_rfl) (by simp) ?_
              refine AllReadyH.cons (o := { dst := some 39, op := Go.Op.buildSlice 26 1 #[(0, Go.Operand.tmp 38)], type := 26, pos := "ref.go:88", after := #[{ on := 5, ground := Go.Ground.data }], guard := none }) rfl (fun K6 hK6 => ?_) AllReadyH.nil
              go_simp
              skip
              (try go_wp2_with fail)
              obtain ⟨a6, ha6⟩ : ∃ a, a = (World.alloc w1 (.cells #[.string S] 9)) := ⟨_, rfl⟩
              have hk6 : Kept w1 a6 := by rw [ha6]; exact (Kept.refl _).alloc _
              have hsz6 : a6.heap.size = w1.heap.size + 1 := by rw [ha6]; simp
              have hq6 : Kept w a6 := hqw1.trans hk6
              have hS : a6.cell? ⟨w1.heap.size, 0, none⟩ = some (.string S) := by
                rw [ha6]
                exact sbox1H w1 _ 9 _ rfl
              have hO1 := own_kept hO1 hk6
              rw [← ha6]
              clear ha6
              refine hK6.out _ _ ?_ (fun hHeld => ?_)
              · (try dsimp only)
                (first | trivial | skip)
              (try simp only [Act.put, List.setIfInBounds_toArray, List.set_cons_zero, List.set_cons_succ])
              refine wpAnyH_ready (rs := [7]) (by kernel_rfl) (by simp) ?_
              refine AllReadyH.cons (o := { dst := some 40, op := Go.Op.call { callee := Go.Callee.builtin Go.Builtin.append, args := #[Go.Operand.tmp 37, Go.Operand.tmp 39], argTypes := #[26, 26] }, type := 26, pos := "ref.go:88", after := #[{ on := 4, ground := Go.Ground.data }, { on := 6, ground := Go.Ground.data }, { on := 4, ground := Go.Ground.chain }], guard := none }) rfl (fun K7 hK7 => ?_) AllReadyH.nil
              rw [if_pos (by rfl)]
              refine wp_append_lies _ _ _ 26 rfl w.heap.size 9 i0 (.string ⟨#[]⟩) 1 16 Try.underlying26 hi0 hz0 hz1 hz2 rfl (by decide) _ k (wds (L.take k)) (by rfl) hO1 ⟨w1.heap.size, 0, none⟩ 1 1 [.string S] (by rfl) rfl (news_one hS) (by simp [Value.oneCell']) (by omega) (by unfold maxLen; omega) (by omega) (by have := Kept.size hq6; omega) _ rfl ?_
              intro g2 c2 w2 hO2 hgr2 hgl2 hgs2
              have hqw2 : Kept w w2 := hq6.grew hgr2 hO1 (Nat.le_refl _)
              have hcc2 := own_cap hO2
              refine hK7.out _ _ ?_ (fun hHeld => ?_)
              · (try dsimp only)
                (first | trivial | skip)
              (try simp only [Act.put, List.setIfInBounds_toArray, List.set_cons_zero, List.set_cons_succ])
              refine wpAnyH_take (i := 11) (oi := { dst := some 44, op := Go.Op.call { callee := Go.Callee.builtin Go.Builtin.append, args := #[Go.Operand.tmp 40, Go.Operand.tmp 43], argTypes := #[26, 26] }, type := 26, pos := "ref.go:88", after := #[{ on := 7, ground := Go.Ground.data }, { on := 10, ground := Go.Ground.data }, { on := 7, ground := Go.Ground.chain }], guard := none }) (v := ?v55) rfl (by kernel_rfl) (by kernel_rfl) (by kernel_rfl) (fun _ _ _ h => h) (Or.inl ⟨by rfl, ?hy55⟩) (by assumption) ?rs55
              case hy55 =>
                intro w hSw
                (try dsimp only at hSw)
                go_simp
                try with_reducible rfl
              (try simp only [Act.put, List.setIfInBounds_toArray, List.set_cons_zero, List.set_cons_succ])
              refine wpAnyH_take (i := 12) (oi := { dst := some 4, op := Go.Op.assign (Go.Operand.tmp 44), type := 26, pos := "ref.go:88", after := #[{ on := 11, ground := Go.Ground.data }, { on := 11, ground := Go.Ground.chain }, { on := 0, ground := Go.Ground.phase }, { on := 1, ground := Go.Ground.phase }, { on := 2, ground := Go.Ground.phase }, { on := 3, ground := Go.Ground.phase }, { on := 4, ground := Go.Ground.phase }, { on := 5, ground := Go.Ground.phase }, { on := 6, ground := Go.Ground.phase }, { on := 7, ground := Go.Ground.phase }, { on := 8, ground := Go.Ground.phase }, { on := 9, ground := Go.Ground.phase }, { on := 10, ground := Go.Ground.phase }, { on := 11, ground := Go.Ground.phase }], guard := none }) (v := ?v56) rfl (by kernel_rfl) (by kernel_rfl) (by kernel_rfl) (fun _ _ _ h => h) (Or.inl ⟨by rfl, ?hy56⟩) (by assumption) ?rs56
              case hy56 =>
                intro w hSw
                (try dsimp only at hSw)
                go_simp
                try with_reducible rfl
              (try simp only [Act.put, List.setIfInBounds_toArray, List.set_cons_zero, List.set_cons_succ])
              refine wpAnyH_done (by kernel_rfl) ?_ _
              go_wp2_with fail
              go_ret
              exact hend2.out _ _ _ _ _ rfl rfl hO2 hqw2
            · skip
              go_simp
              skip
              (try go_wp2_with fail)
              obtain ⟨a6, ha6⟩ : ∃ a, a = (World.alloc a0 (.cells #[.string S] 9)) := ⟨_, rfl⟩
              have hk6 : Kept a0 a6 := by rw [ha6]; exact (Kept.refl _).alloc _
              have hsz6 : a6.heap.size = a0.heap.size + 1 := by rw [ha6]; simp
              have hq6 : Kept w a6 := hq0.trans hk6
              have hS : a6.cell? ⟨a0.heap.size, 0, none⟩ = some (.string S) := by
                rw [ha6]
                exact sbox1H a0 _ 9 _ rfl
              rw [hsz0] at hS
              have hE := own_kept hE hk6
              rw [← ha6]
              clear ha6
              refine hK6.out _ _ ?_ (fun hHeld => ?_)
              · (try dsimp only)
                (first | trivial | skip)
              (try simp only [Act.put, List.setIfInBounds_toArray, List.set_cons_zero, List.set_cons_succ])
              refine wpAnyH_ready (rs := [4]) (by kernel_rfl) (by simp) ?_
              refine AllReadyH.cons (o := { dst := some 37, op := Go.Op.call { callee := Go.Callee.builtin Go.Builtin.append, args := #[Go.Operand.tmp 33, Go.Operand.tmp 36], argTypes := #[26, 26] }, type := 26, pos := "ref.go:88", after := #[{ on := 0, ground := Go.Ground.data }, { on := 3, ground := Go.Ground.data }], guard := none }) rfl (fun K4 hK4 => ?_) AllReadyH.nil
              rw [if_pos (by rfl)]
              refine wp_append_lies _ _ _ 26 rfl w.heap.size 9 i0 (.string ⟨#[]⟩) 1 16 Try.underlying26 hi0 hz0 hz1 hz2 rfl (by decide) _ 0 [] (by rfl) hE ⟨g, 0, none⟩ k _ (wds (L.take k)) (by rfl) hl1 (NEWS1.out _ hq6) wds_one (by omega) (by unfold maxLen; omega) (by omega) (by have := Kept.size hq6; omega) _ rfl ?_
              intro g1 c1 w1 hO1 hgr1 hgl1 hgs1
              have hqw1 : Kept w w1 := hq6.grew hgr1 hE (Nat.le_refl _)
              rw [Nat.zero_add, List.nil_append] at hO1
              have hS : w1.cell? ⟨w.heap.size + 1, 0, none⟩ = some (.string S) := grown_cell hgr1 hS (by dsimp only; omega)
              (try rw [Nat.zero_add])
              refine hK4.out _ _ ?_ (fun hHeld => ?_)
              · (try dsimp only)
                (first | trivial | skip)
              (try simp only [Act.put, List.setIfInBounds_toArray, List.set_cons_zero, List.set_cons_succ])
              refine wpAnyH_ready (rs := [7]) (by kernel_rfl) (by simp) ?_
              refine AllReadyH.cons (o := { dst := some 40, op := Go.Op.call { callee := Go.Callee.builtin Go.Builtin.append, args := #[Go.Operand.tmp 37, Go.Operand.tmp 39], argTypes := #[26, 26] }, type := 26, pos := "ref.go:88", after := #[{ on := 4, ground := Go.Ground.data }, { on := 6, ground := Go.Ground.data }, { on := 4, ground := Go.Ground.chain }], guard := none }) rfl (fun K7 hK7 => ?_) AllReadyH.nil
              rw [if_pos (by rfl)]
              refine wp_append_lies _ _ _ 26 rfl w.heap.size 9 i0 (.string ⟨#[]⟩) 1 16 Try.underlying26 hi0 hz0 hz1 hz2 rfl (by decide) _ k (wds (L.take k)) (by rfl) hO1 ⟨w.heap.size + 1, 0, none⟩ 1 1 [.string S] (by rfl) rfl (news_one hS) (by simp [Value.oneCell']) (by omega) (by unfold maxLen; omega) (by omega) (by have := Kept.size hqw1; omega) _ rfl ?_
              intro g2 c2 w2 hO2 hgr2 hgl2 hgs2
              have hqw2 : Kept w w2 := hqw1.grew hgr2 hO1 (Nat.le_refl _)
              have hcc2 := own_cap hO2
              refine hK7.out _ _ ?_ (fun hHeld => ?_)
              · (try dsimp only)
                (first | trivial | skip)
              (try simp only [Act.put, List.setIfInBounds_toArray, List.set_cons_zero, List.set_cons_succ])
              refine wpAnyH_take (i := 11) (oi := { dst := some 44, op := Go.Op.call { callee := Go.Callee.builtin Go.Builtin.append, args := #[Go.Operand.tmp 40, Go.Operand.tmp 43], argTypes := #[26, 26] }, type := 26, pos := "ref.go:88", after := #[{ on := 7, ground := Go.Ground.data }, { on := 10, ground := Go.Ground.data }, { on := 7, ground := Go.Ground.chain }], guard := none }) (v := ?v57) rfl (by kernel_rfl) (by kernel_rfl) (by kernel_rfl) (fun _ _ _ h => h) (Or.inl ⟨by rfl, ?hy57⟩) (by assumption) ?rs57
              case hy57 =>
                intro w hSw
                (try dsimp only at hSw)
                go_simp
                try with_reducible rfl
              (try simp only [Act.put, List.setIfInBounds_toArray, List.set_cons_zero, List.set_cons_succ])
              refine wpAnyH_take (i := 12) (oi := { dst := some 4, op := Go.Op.assign (Go.Operand.tmp 44), type := 26, pos := "ref.go:88", after := #[{ on := 11, ground := Go.Ground.data }, { on := 11, ground := Go.Ground.chain }, { on := 0, ground := Go.Ground.phase }, { on := 1, ground := Go.Ground.phase }, { on := 2, ground := Go.Ground.phase }, { on := 3, ground := Go.Ground.phase }, { on := 4, ground := Go.Ground.phase }, { on := 5, ground := Go.Ground.phase }, { on := 6, ground := Go.Ground.phase }, { on := 7, ground := Go.Ground.phase }, { on := 8, ground := Go.Ground.phase }, { on := 9, ground := Go.Ground.phase }, { on := 10, ground := Go.Ground.phase }, { on := 11, ground := Go.Ground.phase }], guard := none }) (v := ?v58) rfl (by kernel_rfl) (by kernel_rfl) (by kernel_rfl) (fun _ _ _ h => h) (Or.inl ⟨by rfl, ?hy58⟩) (by assumption) ?rs58
              case hy58 =>
                intro w hSw
                (try dsimp only at hSw)
                go_simp
                try with_reducible rfl
              (try simp only [Act.put, List.setIfInBounds_toArray, List.set_cons_zero, List.set_cons_succ])
              refine wpAnyH_done (by kernel_rfl) ?_ _
              go_wp2_with fail
              go_ret
              exact hend2.out _ _ _ _ _ rfl rfl hO2 hqw2
          · skip
            go_simp
            skip
            (try go_wp2_with fail)
            obtain ⟨a6, ha6⟩ : ∃ a, a = (World.drew (World.alloc w (.cells #[.string S] 9))) := ⟨_, rfl⟩
            have hk6 : Kept w a6 := by rw [ha6]; exact ((Kept.refl _).alloc _).drew
            have hsz6 : a6.heap.size = w.heap.size + 1 := by rw [ha6]; simp
            have hq6 : Kept w a6 := hk6
            have hS : a6.cell? ⟨w.heap.size, 0, none⟩ = some (.string S) := by
              rw [ha6]
              rw [World.cell?_drew]
              exact sbox1H w _ 9 _ rfl
            rw [← ha6]
            clear ha6
            refine hK6.out _ _ ?_ (fun hHeld => ?_)
            · (try dsimp only)
              (first | trivial | skip)
            (try simp only [Act.put, List.setIfInBounds_toArray, List.set_cons_zero, List.set_cons_succ])
            refine wpAnyH_ready (rs := [0]) (by kernel_rfl) (by simp) ?_
            refine AllReadyH.cons (o := { dst := some 33, op := Go.Op.buildSlice 26 0 #[], type := 26, pos := "ref.go:88", after := #[], guard := none }) rfl (fun K0 hK0 => ?_) AllReadyH.nil
            go_simp
            skip
            (try go_wp2_with fail)
            obtain ⟨a0, ha0⟩ : ∃ a, a = (World.alloc a6 (.cells #[] 9)) := ⟨_, rfl⟩
            have hk0 : Kept a6 a0 := by rw [ha0]; exact (Kept.refl _).alloc _
            have hsz0 : a0.heap.size = a6.heap.size + 1 := by rw [ha0]; simp
            have hq0 : Kept w a0 := hq6.trans hk0
            have hE : a0.ownsRow w.heap.size 9 1 (.slice (some ⟨a6.heap.size, 0, none⟩) 0 0) 0 [] := by
              rw [ha0]
              have h := own_zero a6 w.heap.size 9 (by exact hq6.size)
              exact h
            have hS := hk0.cellSome hS
            rw [hsz6] at hE
            rw [← ha0]
            clear ha0
            refine hK0.out _ _ ?_ (fun hHeld => ?_)
            · (try dsimp only)
              (first | trivial | skip)
            (try simp only [Act.put, List.setIfInBounds_toArray, List.set_cons_zero, List.set_cons_succ])
            refine wpAnyH_ready (rs := [4]) (by kernel_rfl) (by simp) ?_
            refine AllReadyH.cons (o := { dst := some 37, op := Go.Op.call { callee := Go.Callee.builtin Go.Builtin.append, args := #[Go.Operand.tmp 33, Go.Operand.tmp 36], argTypes := #[26, 26] }, type := 26, pos := "ref.go:88", after := #[{ on := 0, ground := Go.Ground.data }, { on := 3, ground := Go.Ground.data }], guard := none }) rfl (fun K4 hK4 => ?_) AllReadyH.nil
            rw [if_pos (by rfl)]
            refine wp_append_lies _ _ _ 26 rfl w.heap.size 9 i0 (.string ⟨#[]⟩) 1 16 Try.underlying26 hi0 hz0 hz1 hz2 rfl (by decide) _ 0 [] (by rfl) hE ⟨g, 0, none⟩ k _ (wds (L.take k)) (by rfl) hl1 (NEWS1.out _ hq0) wds_one (by omega) (by unfold maxLen; omega) (by omega) (by have := Kept.size hq0; omega) _ rfl ?_
            intro g1 c1 w1 hO1 hgr1 hgl1 hgs1
            have hqw1 : Kept w w1 := hq0.grew hgr1 hE (Nat.le_refl _)
            rw [Nat.zero_add, List.nil_append] at hO1
            have hS : w1.cell? ⟨w.heap.size, 0, none⟩ = some (.string S) := grown_cell hgr1 hS (by dsimp only; omega)
            (try rw [Nat.zero_add])
            refine hK4.out _ _ ?_ (fun hHeld => ?_)
            · (try dsimp only)
              (first | trivial | skip)
            (try simp only [Act.put, List.setIfInBounds_toArray, List.set_cons_zero, List.set_cons_succ])
            refine wpAnyH_ready (rs := [7]) (by kernel_rfl) (by simp) ?_
            refine AllReadyH.cons (o := { dst := some 40, op := Go.Op.call { callee := Go.Callee.builtin Go.Builtin.append, args := #[Go.Operand.tmp 37, Go.Operand.tmp 39], argTypes := #[26, 26] }, type := 26, pos := "ref.go:88", after := #[{ on := 4, ground := Go.Ground.data }, { on := 6, ground := Go.Ground.data }, { on := 4, ground := Go.Ground.chain }], guard := none }) rfl (fun K7 hK7 => ?_) AllReadyH.nil
            rw [if_pos (by rfl)]
            refine wp_append_lies _ _ _ 26 rfl w.heap.size 9 i0 (.string ⟨#[]⟩) 1 16 Try.underlying26 hi0 hz0 hz1 hz2 rfl (by decide) _ k (wds (L.take k)) (by rfl) hO1 ⟨w.heap.size, 0, none⟩ 1 1 [.string S] (by rfl) rfl (news_one hS) (by simp [Value.oneCell']) (by omega) (by unfold maxLen; omega) (by omega) (by have := Kept.size hqw1; omega) _ rfl ?_
            intro g2 c2 w2 hO2 hgr2 hgl2 hgs2
            have hqw2 : Kept w w2 := hqw1.grew hgr2 hO1 (Nat.le_refl _)
            have hcc2 := own_cap hO2
            refine hK7.out _ _ ?_ (fun hHeld => ?_)
            · (try dsimp only)
              (first | trivial | skip)
            (try simp only [Act.put, List.setIfInBounds_toArray, List.set_cons_zero, List.set_cons_succ])
            refine wpAnyH_take (i := 11) (oi := { dst := some 44, op := Go.Op.call { callee := Go.Callee.builtin Go.Builtin.append, args := #[Go.Operand.tmp 40, Go.Operand.tmp 43], argTypes := #[26, 26] }, type := 26, pos := "ref.go:88", after := #[{ on := 7, ground := Go.Ground.data }, { on := 10, ground := Go.Ground.data }, { on := 7, ground := Go.Ground.chain }], guard := none }) (v := ?v59) rfl (by kernel_rfl) (by kernel_rfl) (by kernel_rfl) (fun _ _ _ h => h) (Or.inl ⟨by rfl, ?hy59⟩) (by assumption) ?rs59
            case hy59 =>
              intro w hSw
              (try dsimp only at hSw)
              go_simp
              try with_reducible rfl
            (try simp only [Act.put, List.setIfInBounds_toArray, List.set_cons_zero, List.set_cons_succ])
            refine wpAnyH_take (i := 12) (oi := { dst := some 4, op := Go.Op.assign (Go.Operand.tmp 44), type := 26, pos := "ref.go:88", after := #[{ on := 11, ground := Go.Ground.data }, { on := 11, ground := Go.Ground.chain }, { on := 0, ground := Go.Ground.phase }, { on := 1, ground := Go.Ground.phase }, { on := 2, ground := Go.Ground.phase }, { on := 3, ground := Go.Ground.phase }, { on := 4, ground := Go.Ground.phase }, { on := 5, ground := Go.Ground.phase }, { on := 6, ground := Go.Ground.phase }, { on := 7, ground := Go.Ground.phase }, { on := 8, ground := Go.Ground.phase }, { on := 9, ground := Go.Ground.phase }, { on := 10, ground := Go.Ground.phase }, { on := 11, ground := Go.Ground.phase }], guard := none }) (v := ?v60) rfl (by kernel_rfl) (by kernel_rfl) (by kernel_rfl) (fun _ _ _ h => h) (Or.inl ⟨by rfl, ?hy60⟩) (by assumption) ?rs60
            case hy60 =>
              intro w hSw
              (try dsimp only at hSw)
              go_simp
              try with_reducible rfl
            (try simp only [Act.put, List.setIfInBounds_toArray, List.set_cons_zero, List.set_cons_succ])
            refine wpAnyH_done (by kernel_rfl) ?_ _
            go_wp2_with fail
            go_ret
            exact hend2.out _ _ _ _ _ rfl rfl hO2 hqw2
end Go.Proofs.Ytjcgplocifmolaa
