/-
  Farthest, as the package exports it.
-/
import Derived.Test.YtfmcjbddbomohaaHr
import Derived.Test.YtfmcjbddbomohaaC
namespace Go.Proofs.Ytfmcjbddbomohaa
open Go.RowKit Go.Deep

/-- a pair that counts for Farthest -/
def hitB (m n : Nat) (X Y U V : Nat → Int) (i j : Nat) : Bool :=
  dist (X i) (Y i) (U j) (V j) == haus m X Y n U V && (nearI (X i) (Y i) U V n == haus m X Y n U V || nearI (U j) (V j) X Y m == haus m X Y n U V)
/-- no pair before (i, j) counts -/
def NoneB (m n : Nat) (X Y U V : Nat → Int) (i j : Nat) : Prop := ∀ p q, p < m → q < n → (p < i ∨ (p = i ∧ q < j)) → hitB m n X Y U V p q = false
def FirstB (m n : Nat) (X Y U V : Nat → Int) (i j : Nat) : Prop := i < m ∧ j < n ∧ hitB m n X Y U V i j = true ∧ NoneB m n X Y U V i j
def FarAt (w : World) (m n : Nat) (X Y U V : Nat → Int) (i j : Nat) (v : Value) : Prop :=
  (v = .slice none 0 0 ∧ NoneB m n X Y U V i j) ∨ ∃ b i0 j0, v = .slice (some ⟨b, 0, none⟩) 2 2 ∧ w.cell? ⟨b, 0, none⟩ = some (.int .i64 ((i0 : Nat) : Int)) ∧ w.cell? ⟨b, 1, none⟩ = some (.int .i64 ((j0 : Nat) : Int)) ∧ FirstB m n X Y U V i0 j0
theorem FarAt.kept {w w' : World} {m n : Nat} {X Y U V : Nat → Int} {i j : Nat} {v : Value} (h : FarAt w m n X Y U V i j v) (k : Kept w w') : FarAt w' m n X Y U V i j v := by
  rcases h with h | ⟨b, i0, j0, e, h1, h2, h3⟩
  · exact .inl h
  · exact .inr ⟨b, i0, j0, e, k.cellSome h1, k.cellSome h2, h3⟩
theorem FarAt.row {w : World} {m n : Nat} {X Y U V : Nat → Int} {i : Nat} {v : Value} (h : FarAt w m n X Y U V i n v) : FarAt w m n X Y U V (i + 1) 0 v := by
  rcases h with ⟨e, h⟩ | h
  · exact .inl ⟨e, fun p q hp hq hb => h p q hp hq (by omega)⟩
  · exact .inr h
theorem FarAt.skip {w : World} {m n : Nat} {X Y U V : Nat → Int} {i j : Nat} {v : Value} (h : FarAt w m n X Y U V i j v) (hh : hitB m n X Y U V i j = false) : FarAt w m n X Y U V i (j + 1) v := by
  rcases h with ⟨e, h⟩ | h
  · exact .inl ⟨e, fun p q hp hq hb => by
      by_cases e2 : p = i ∧ q = j
      · rw [e2.1, e2.2]; exact hh
      · exact h p q hp hq (by omega)⟩
  · exact .inr h
theorem first_unique {m n : Nat} {X Y U V : Nat → Int} {i j p q : Nat} (h : FirstB m n X Y U V i j) (k : FirstB m n X Y U V p q) : i = p ∧ j = q := by
  obtain ⟨h1, h2, h3, h4⟩ := h
  obtain ⟨k1, k2, k3, k4⟩ := k
  by_cases e : p < i ∨ (p = i ∧ q < j)
  · have := h4 p q k1 k2 e
    rw [k3] at this; cases this
  · by_cases e2 : i < p ∨ (i = p ∧ j < q)
    · have := k4 i j h1 h2 e2
      rw [h3] at this; cases this
    · omega
theorem nil_yes (W : World) : (binOp .eql 27 (.slice none 0 0) (.slice none 0 0)).run Try.prog W = .ok (.bool true) W := by
  first | kernel_rfl | go_simp
theorem nil_no (g l c : Nat) (W : World) : (binOp .eql 27 (.slice (some ⟨g, 0, none⟩) l c) (.slice none 0 0)).run Try.prog W = .ok (.bool false) W := by
  first | kernel_rfl | go_simp
def FarFn (w : World) (m : Nat) (X Y : Nat → Int) (n : Nat) (U V : Nat → Int) (e : Ending) (w' : World) : Prop :=
  Kept w w' ∧ (code2 0 m X Y n U V = 0 → ∃ v, e = .returned (.tuple #[v, .int .i64 0]) ∧ FarAt w' m n X Y U V m 0 v) ∧ (code2 0 m X Y n U V ≠ 0 → e = .returned (.tuple #[.slice none 0 0, .int .i64 (code2 0 m X Y n U V)]))
set_option maxRecDepth 100000 in
set_option maxHeartbeats 4000000 in
theorem Farthest_any (w : World) (m n : Nat) (av bv : Value) (X Y U V : Nat → Int) (hA : PairsAt w av m X Y) (hB : PairsAt w bv n U V) (hm2 : m ≤ 1000000) (hn2 : n ≤ 1000000) :
    Calls Try.prog 17 #[av, bv] w (FarFn w m X Y n U V) := by
  have hA' := hA
  have hB' := hB
  obtain ⟨a1, b1, o1, cap1, rfl, ha1, hc1⟩ := hA
  obtain ⟨a2, b2, o2, cap2, rfl, ha2, hc2⟩ := hB
  have hO := outs2 hA' hB' 22
  have hk0 : Kept w (w.alloc (.cells #[.slice a1 m cap1, .slice a2 n cap2] 22)) := (Kept.refl w).alloc _
  have HC1 := Lib.hid hc1
  have HC2 := Lib.hid hc2
  clear hc1 hc2
  have hny := nil_yes
  have hnn := nil_no
  go_enter Try.func17, Try.ntmps17
  go_wp2_with fail
  refine (check_any _ 0 _ 2 _ _ _ hO (by omega) (fun i _ => by show (if i = 0 then m else n) ≤ 1000000; split <;> omega)).mono ?_
  rw [checkC2]
  rintro e w1 ⟨rfl, hk1⟩
  have hK1 := hk0.trans hk1
  by_cases hc0 : code2 0 m X Y n U V = 0
  · obtain ⟨h1, h2, h3, h4, _⟩ := code2_ok hc0
    obtain ⟨r1, p1⟩ := formB_in h3
    obtain ⟨r2, p2⟩ := formB_in h4
    obtain rfl := ha1 (by omega)
    obtain rfl := ha2 (by omega)
    have HC0 := Lib.hid hc0
    rw [HC0.out]
    have HR1 := Lib.hid r1
    have HR2 := Lib.hid r2
    clear hc0 h3 h4 r1 r2 hO hk0 hk1 ha1 ha2
    go_wp2_with fail
    refine (hausdorff_any _ m n _ _ X Y U V (hA'.kept hK1) (hB'.kept hK1) HR1.out HR2.out p1 p2 hm2 hn2).mono ?_
    rintro e w2 ⟨rfl, hk2⟩
    have hK2 := hK1.trans hk2
    obtain ⟨h, HH⟩ : ∃ h, Hid (h = haus m X Y n U V) := ⟨_, rfl⟩
    rw [← HH.out]
    have hst : FarAt w2 m n X Y U V 0 0 (.slice none 0 0) := .inl ⟨rfl, fun p q _ _ hb => by omega⟩
    clear hK1 hk2
    go_wp2_with fail
    go_loopg [8, 26] m (fun g s8 s26 wr => ∃ i : Nat, i ≤ m ∧ g = m - i ∧ s26 = .int .i64 i ∧ Kept w wr ∧ FarAt wr m n X Y U V i 0 s8)
    case atStart => exact ⟨0, Nat.zero_le _, rfl, rfl, hK2, hst⟩
    case round =>
      clear hK2 hst
      obtain ⟨i, hi, rfl, rfl, hK, hF⟩ := hrel
      by_cases hlt : i < m
      · obtain ⟨c0, c1⟩ := HC1.out i hlt
        have t0 := hK.cellSome c0
        have t1 := hK.cellSome c1
        have hu := HR1.out i hlt
        obtain ⟨p0, p1'⟩ := box2 wr (.int .i64 (X i)) (.int .i64 (Y i)) 78
        have hkB := (Kept.refl wr).alloc (.cells #[.int .i64 (X i), .int .i64 (Y i)] 78)
        have hK3 := hK.trans hkB
        have hF3 := hF.kept hkB
        clear c0 c1 hF hkB
        go_wp2_with fail
        obtain ⟨pb, HPB⟩ : ∃ pb, Hid (pb = wr.heap.size) := ⟨_, rfl⟩
        rw [← HPB.out] at p0 p1' ⊢
        generalize wr.alloc (.cells #[.int .i64 (X i), .int .i64 (Y i)] 78) = W3 at *
        obtain ⟨s0, HS0⟩ : ∃ s0 : Value, Hid (s0 = u8) := ⟨_, rfl⟩
        clear hK t0 t1
        go_loopg [8, 33] n (fun g s8 s33 wj => ∃ j : Nat, j ≤ n ∧ g = n - j ∧ s33 = .int .i64 j ∧ Kept w wj ∧ Kept W3 wj ∧ FarAt wj m n X Y U V i j s8)
        case atStart => exact ⟨0, Nat.zero_le _, rfl, rfl, hK3, Kept.refl _, hF3⟩
        case round =>
          clear hK3 hF3
          obtain ⟨j, hj, rfl, rfl, hK, hKW, hF⟩ := hrel
          by_cases hlt2 : j < n
          · obtain ⟨c0, c1⟩ := HC2.out j hlt2
            have t0 := hK.cellSome c0
            have t1 := hK.cellSome c1
            have hv := HR2.out j hlt2
            obtain ⟨q0, q1⟩ := box2 wr (.int .i64 (U j)) (.int .i64 (V j)) 78
            have hkB := (Kept.refl wr).alloc (.cells #[.int .i64 (U j), .int .i64 (V j)] 78)
            have hK4 := hK.trans hkB
            have hKW4 := hKW.trans hkB
            have hF4 := hF.kept hkB
            have k0 := hKW4.cellSome p0
            have k1 := hKW4.cellSome p1'
            have hhit : Hid (hitB m n X Y U V i j = (dist (X i) (Y i) (U j) (V j) == h && (nearI (X i) (Y i) U V n == h || nearI (U j) (V j) X Y m == h))) := by show _ = _; unfold hitB; rw [← HH.out]
            obtain ⟨d, HD⟩ : ∃ d, Hid (d = dist (X i) (Y i) (U j) (V j)) := ⟨_, rfl⟩
            obtain ⟨na, HNA⟩ : ∃ na, Hid (na = nearI (X i) (Y i) U V n) := ⟨_, rfl⟩
            obtain ⟨nb, HNB⟩ : ∃ nb, Hid (nb = nearI (U j) (V j) X Y m) := ⟨_, rfl⟩
            rw [← HD.out, ← HNA.out, ← HNB.out] at hhit
            clear c0 c1 hkB hF hK hKW
            go_wp2_with fail
            obtain ⟨qb, HQB⟩ : ∃ qb, Hid (qb = wr.heap.size) := ⟨_, rfl⟩
            rw [← HQB.out] at q0 q1 ⊢
            generalize wr.alloc (.cells #[.int .i64 (U j), .int .i64 (V j)] 78) = W4 at *
            clear t0 t1
            refine (apart_any _ (X i) (Y i) (U j) (V j) hu.1 hu.2 hv.1 hv.2).mono ?_
            rw [← HD.out]
            rintro e w5 ⟨rfl, hk5⟩
            have hK5 := hK4.trans hk5
            have hKW5 := hKW4.trans hk5
            have hF5 := hF4.kept hk5
            have k0' := hk5.cellSome k0
            have k1' := hk5.cellSome k1
            have q0' := hk5.cellSome q0
            have q1' := hk5.cellSome q1
            clear hK4 hKW4 hF4 k0 k1 q0 q1 hk5
            rcases hF5 with ⟨rfl, hN⟩ | ⟨fb, i0, j0, rfl, f0, f1, hFirst⟩
            · by_cases hdh : d = h
              · have z1 : (d == h) = true := by simpa using hdh
                by_cases hnh : na = h
                · have z2 : (d == na) = true := by rw [hnh]; exact z1
                  have hhit2 : hitB m n X Y U V i j = true := by rw [hhit.out, z1, show (na == h) = true by simpa using hnh]; rfl
                  have hfirst : FirstB m n X Y U V i j := ⟨hlt, hlt2, hhit2, hN⟩
                  clear hdh hnh hhit2 hN
                  go_wp2_with fail
                  refine (nearest_any _ (X i) (Y i) n _ U V hu.1 hu.2 (hB'.kept hK5) HR2.out p2 hn2).mono ?_
                  rw [← HNA.out]
                  rintro e w6 ⟨rfl, hk6⟩
                  have hK6 := hK5.trans hk6
                  have hKW6 := hKW5.trans hk6
                  obtain ⟨x0, x1⟩ := box2 w6 (.int .i64 i) (.int .i64 j) 3
                  have hK7 := hK6.alloc (.cells #[.int .i64 i, .int .i64 j] 3)
                  have hKW7 := hKW6.alloc (.cells #[.int .i64 i, .int .i64 j] 3)
                  have hF7 : FarAt (w6.alloc (.cells #[.int .i64 i, .int .i64 j] 3)) m n X Y U V i (j + 1) (.slice (some ⟨w6.heap.size, 0, none⟩) 2 2) := .inr ⟨_, i, j, rfl, x0, x1, hfirst⟩
                  go_wp2_with fail
                  go_roundg (n - (j + 1))
                  case measure => omega
                  case rel => exact ⟨j + 1, by omega, rfl, by go_num, hK7, hKW7, hF7⟩
                · have z2 : (d == na) = false := by rw [show d = h from hdh]; simpa using fun e => hnh e.symm
                  by_cases hbh : nb = h
                  · have z3 : (d == nb) = true := by rw [hbh]; exact z1
                    have hhit2 : hitB m n X Y U V i j = true := by rw [hhit.out, z1, show (nb == h) = true by simpa using hbh]; simp
                    have hfirst : FirstB m n X Y U V i j := ⟨hlt, hlt2, hhit2, hN⟩
                    clear hdh hnh hbh hhit2 hN
                    go_wp2_with fail
                    refine (nearest_any _ (X i) (Y i) n _ U V hu.1 hu.2 (hB'.kept hK5) HR2.out p2 hn2).mono ?_
                    rw [← HNA.out]
                    rintro e w6 ⟨rfl, hk6⟩
                    have hK6 := hK5.trans hk6
                    have hKW6 := hKW5.trans hk6
                    have y0 := hk6.cellSome q0'
                    have y1 := hk6.cellSome q1'
                    go_wp2_with fail
                    refine (nearest_any _ (U j) (V j) m _ X Y hv.1 hv.2 (hA'.kept hK6) HR1.out p1 hm2).mono ?_
                    rw [← HNB.out]
                    rintro e w7 ⟨rfl, hk7⟩
                    have hK7' := hK6.trans hk7
                    have hKW7' := hKW6.trans hk7
                    obtain ⟨x0, x1⟩ := box2 w7 (.int .i64 i) (.int .i64 j) 3
                    have hK7 := hK7'.alloc (.cells #[.int .i64 i, .int .i64 j] 3)
                    have hKW7 := hKW7'.alloc (.cells #[.int .i64 i, .int .i64 j] 3)
                    have hF7 : FarAt (w7.alloc (.cells #[.int .i64 i, .int .i64 j] 3)) m n X Y U V i (j + 1) (.slice (some ⟨w7.heap.size, 0, none⟩) 2 2) := .inr ⟨_, i, j, rfl, x0, x1, hfirst⟩
                    go_wp2_with fail
                    go_roundg (n - (j + 1))
                    case measure => omega
                    case rel => exact ⟨j + 1, by omega, rfl, by go_num, hK7, hKW7, hF7⟩
                  · have z3 : (d == nb) = false := by rw [show d = h from hdh]; simpa using fun e => hbh e.symm
                    have hhit2 : hitB m n X Y U V i j = false := by rw [hhit.out, show (na == h) = false by simpa using hnh, show (nb == h) = false by simpa using hbh]; simp
                    have HN2 := Lib.hid (fun W => (show FarAt W m n X Y U V i j (.slice none 0 0) from .inl ⟨rfl, hN⟩).skip hhit2)
                    clear hdh hnh hbh hhit2 hN
                    go_wp2_with fail
                    refine (nearest_any _ (X i) (Y i) n _ U V hu.1 hu.2 (hB'.kept hK5) HR2.out p2 hn2).mono ?_
                    rw [← HNA.out]
                    rintro e w6 ⟨rfl, hk6⟩
                    have hK6 := hK5.trans hk6
                    have hKW6 := hKW5.trans hk6
                    have y0 := hk6.cellSome q0'
                    have y1 := hk6.cellSome q1'
                    go_wp2_with fail
                    refine (nearest_any _ (U j) (V j) m _ X Y hv.1 hv.2 (hA'.kept hK6) HR1.out p1 hm2).mono ?_
                    rw [← HNB.out]
                    rintro e w7 ⟨rfl, hk7⟩
                    have hK7 := hK6.trans hk7
                    have hKW7 := hKW6.trans hk7
                    have hF7 := HN2.out w7
                    go_wp2_with fail
                    go_roundg (n - (j + 1))
                    case measure => omega
                    case rel => exact ⟨j + 1, by omega, rfl, by go_num, hK7, hKW7, hF7⟩
              · have z1 : (d == h) = false := by simpa using hdh
                have hhit2 : hitB m n X Y U V i j = false := by rw [hhit.out, z1]; rfl
                have hF7 := (show FarAt w5 m n X Y U V i j (.slice none 0 0) from .inl ⟨rfl, hN⟩).skip hhit2
                have hK7 := hK5
                have hKW7 := hKW5
                clear hdh hhit2 hN hK5 hKW5
                go_wp2_with fail
                go_roundg (n - (j + 1))
                case measure => omega
                case rel => exact ⟨j + 1, by omega, rfl, by go_num, hK7, hKW7, hF7⟩
            · have hF7 : FarAt w5 m n X Y U V i (j + 1) (.slice (some ⟨fb, 0, none⟩) 2 2) := .inr ⟨fb, i0, j0, rfl, f0, f1, hFirst⟩
              have hK7 := hK5
              have hKW7 := hKW5
              clear hK5 hKW5 f0 f1 hFirst
              go_wp2_with fail
              go_roundg (n - (j + 1))
              case measure => omega
              case rel => exact ⟨j + 1, by omega, rfl, by go_num, hK7, hKW7, hF7⟩
          · obtain rfl : j = n := by omega
            have hF2 := hF.row
            clear hF
            go_wp2_with fail
            go_roundg (m - (i + 1))
            case measure => omega
            case rel => exact ⟨i + 1, by omega, rfl, by go_num, hK, hF2⟩
      · obtain rfl : i = m := by omega
        go_wp2_with fail
        go_ret2
        exact ⟨hK, (fun _ => ⟨_, rfl, hF⟩), (fun h => absurd HC0.out h)⟩
  · have HC0 := Lib.hid hc0
    obtain ⟨cc, HCC⟩ : ∃ cc, Hid (cc = code2 0 m X Y n U V) := ⟨_, rfl⟩
    rw [← HCC.out] at hc0 ⊢
    have c2 : (cc != 0) = true := by simpa using hc0
    clear hc0
    go_wp2_with fail
    go_ret2
    exact ⟨hK1, (fun h => absurd h HC0.out), (fun _ => by rw [← HCC.out]; rfl)⟩
end Go.Proofs.Ytfmcjbddbomohaa
