/-
  GaitChanged.
-/
import Derived.Test.YthigeafojekclaaDoorWh
namespace Go.Proofs.YthigeafojekclaaDoor
open Go.RowKit Go.Deep Go.Shelf

set_option maxRecDepth 100000 in
set_option maxHeartbeats 32000000 in
theorem changed_any (w : World) (a1 : Option Addr) (len1 cap1 : Nat) (Z1 : Nat → Nat) (hV1 : BytesAt w (.slice a1 len1 cap1) len1 Z1) (hlen1 : len1 ≤ maxLen) (hZ1 : ∀ i, Z1 i < 256) (hP : PowAt w) :
    Calls Tryd.prog 4 #[.slice a1 len1 cap1] w (LivesPost w) := by
  have LV := Lib.hid lives_any
  go_enter Tryd.func4, Tryd.ntmps4
  go_wp2_with fail
  refine (made_any w _ len1 64 Z1 hV1 hZ1 hlen1 (by omega)).mono ?_
  rintro e w1 ⟨m, p, rfl, hk1, hm1, hm2, _⟩
  have hm2 : m ≤ 64 := by omega
  have hP1 := Lib.hid (tab_kept hP hk1)
  clear hV1 hlen1 hZ1 hP
  obtain ⟨b2, HB2⟩ : ∃ b2 : Nat → Bool, Hid (b2 = fun i => p i ^^ decide (i % 2 = 1)) := ⟨_, rfl⟩
  obtain ⟨S, HS⟩ : ∃ S, Hid (S = rowS m p) := ⟨_, rfl⟩
  rw [← HS.out]
  have hSs : S.size = m := by rw [HS.out]; exact rowS_size _ _
  have hr0 := row_zero b2
  go_wp2_with fail
  rw [← hr0]
  go_loopg [4, 5] m (fun g s4 s5 wr => ∃ i : Nat, i ≤ m ∧ g = m - i ∧ s4 = .string (rowS i b2) ∧ s5 = .int .i64 i ∧ w1 = wr)
  case atStart => exact ⟨0, Nat.zero_le _, rfl, rfl, rfl, rfl⟩
  case round =>
    clear hr0
    obtain ⟨i, hi, rfl, rfl, rfl, rfl⟩ := hrel
    by_cases hlt : i < m
    · have hx : Hid (S.extract i (i + 1) = rowS 1 (fun _ => p i)) := by
        show _ = _
        rw [HS.out, rowS_extract _ _ _ _ (by omega), show i + 1 - i = 1 by omega]
        exact rowS_congr fun t ht => by (try dsimp only); rw [show i + t = i by omega]
      have hsz : (rowS i b2).size = i := rowS_size _ _
      have hxs : (S.extract i (i + 1)).size = 1 := by rw [hx.out]; exact rowS_size _ _
      have s2 : (0 : Int) ≤ (i : Int) := by omega
      have s3 : (i : Int) < (m : Int) := by omega
      have s7 : (i : Int) ≤ (i : Int) + 1 := by omega
      have s8 : (i : Int) + 1 ≤ (m : Int) := by omega
      have s5 : ¬ 9223372036854775807 < i + 1 := by omega
      have hw1 : IntKind.i64.wrap (i : Int) = (i : Int) := IntWalk.i64_in _ (by omega)
      have hw2 : IntKind.i64.wrap ((i : Int) + 1) = (i : Int) + 1 := IntWalk.i64_in _ (by omega)
      have et : ((i : Int) + 1).toNat = i + 1 := by omega
      have hsn := Lib.hid (row_snoc i b2)
      by_cases hodd : i % 2 = 1
      · have e1 : Int.tmod (i : Int) 2 = 1 := by
          have : Int.tmod (i : Int) 2 = ((i % 2 : Nat) : Int) := (Int.ofNat_tmod i 2).symm
          omega
        have e2 : (i : Int) % 2 = 1 := by omega
        have MN := Lib.hid (fun W => show Calls Tryd.prog 18 #[.string (S.extract i (i + 1))] W fun e w' => e = .returned (.string (rowS 1 (fun _ => b2 i))) ∧ W = w' by
          have h := rMinus_any W (S.extract i (i + 1)) 1 hxs (by omega)
          rw [rowS_congr (q := fun _ => b2 i) (fun k hk => by
            (try dsimp only)
            rw [hx.out, chr_rowS hk, HB2.out]
            (try dsimp only)
            rw [decide_eq_true hodd]
            cases p i <;> rfl)] at h
          exact h)
        have hts : (rowS 1 (fun _ => b2 i)).size = 1 := rowS_size _ _
        generalize rowS 1 (fun _ => b2 i) = D at *
        obtain ⟨R', HR'⟩ : ∃ R', R' = rowS (i + 1) b2 := ⟨_, rfl⟩
        have hres : Hid (R' = rowS i b2 ++ D) := by show _ = _; rw [HR']; exact hsn.out
        clear hsn
        generalize rowS i b2 = R at *
        clear hx hodd
        go_wp2_with (first | (go_at_call 18; refine (MN.out _).mono ?_; rintro e w2 ⟨rfl, rfl⟩))
        go_roundg (m - (i + 1))
        case measure => omega
        case rel => exact ⟨i + 1, by omega, rfl, by rw [← HR', hres.out], by first | rfl | go_num, rfl⟩
      · have e1 : Int.tmod (i : Int) 2 = 0 := by
          have : Int.tmod (i : Int) 2 = ((i % 2 : Nat) : Int) := (Int.ofNat_tmod i 2).symm
          omega
        have e2 : (i : Int) % 2 = 0 := by omega
        obtain ⟨R', HR'⟩ : ∃ R', R' = rowS (i + 1) b2 := ⟨_, rfl⟩
        have hres : Hid (R' = rowS i b2 ++ S.extract i (i + 1)) := by
          show _ = _
          rw [HR', hx.out, hsn.out]
          congr 1
          exact rowS_congr fun k hk => by
            (try dsimp only)
            rw [HB2.out]
            (try dsimp only)
            rw [decide_eq_false hodd, Bool.xor_false]
        clear hsn
        generalize rowS i b2 = R at *
        clear hx hodd
        go_wp2_with fail
        go_roundg (m - (i + 1))
        case measure => omega
        case rel => exact ⟨i + 1, by omega, rfl, by rw [← HR', hres.out], by first | rfl | go_num, rfl⟩
    · obtain rfl : i = m := by omega
      obtain ⟨M, F, vb, hvf, hME, hVA⟩ := merit_row hm1 hm2 p
      have HVF := Lib.hid hvf
      have VA := Lib.hid hVA
      have MS := Lib.hid (fun W (h : PowAt W) => show Calls Tryd.prog 8 #[.string S] W fun e w' => e = .returned (.tuple #[.string M, .int .i64 F]) ∧ Kept W w' by rw [HS.out]; exact hME W p h rfl)
      have LS := Lib.hid (fun W => show Calls Tryd.prog 6 #[.string S] W fun e w' => ∃ r, e = .returned (.tuple #[.slice (some ⟨r, 0, none⟩) i i, .int .i64 0]) ∧ Kept W w' ∧ ∀ k, k < i → w'.cell? ⟨r, k, none⟩ = some (.int .i64 (likeN i p k)) by rw [HS.out]; exact like_row hm1 hm2 W p)
      obtain ⟨b0, HB0⟩ : ∃ b0 : Nat → Bool, Hid (b0 = fun k => p (i - 1 - k)) := ⟨_, rfl⟩
      obtain ⟨b1, HB1⟩ : ∃ b1 : Nat → Bool, Hid (b1 = fun k => !p k) := ⟨_, rfl⟩
      have BK := Lib.hid (fun W => show Calls Tryd.prog 19 #[.string S] W fun e w' => e = .returned (.string (rowS i b0)) ∧ W = w' by rw [HS.out, HB0.out]; exact rBack_any W i p (by omega))
      have MI := Lib.hid (fun W => show Calls Tryd.prog 18 #[.string S] W fun e w' => e = .returned (.string (rowS i b1)) ∧ W = w' by
        have h := rMinus_any W S i hSs (by omega)
        rw [rowS_congr (q := b1) (fun k hk => by
          (try dsimp only)
          rw [HS.out, chr_rowS hk, HB1.out]
          (try dsimp only)
          cases p k <;> rfl)] at h
        exact h)
      obtain ⟨bs, HBS⟩ : ∃ bs : Nat → Nat → Bool, Hid (bs 0 = b0 ∧ bs 1 = b1 ∧ bs 2 = b2) := ⟨fun t => if t = 0 then b0 else if t = 1 then b1 else b2, rfl, rfl, rfl⟩
      have HLK : Hid (∀ t, t < 3 → ∀ k, k ≤ i → likeN i (bs t) k = likeN i p k ∨ likeN i (bs t) k = - likeN i p k) := fun t ht k hk => by
        have : t = 0 ∨ t = 1 ∨ t = 2 := by omega
        rcases this with rfl | rfl | rfl
        · rw [HBS.out.1, HB0.out]; exact Or.inl (likeN_back i p hk)
        · rw [HBS.out.2.1, HB1.out]; exact Or.inl (likeN_not i p k)
        · rw [HBS.out.2.2, HB2.out, likeN_second]
          unfold alt
          by_cases h : k % 2 = 1
          · rw [if_pos h]; right; omega
          · rw [if_neg h]; left; omega
      have HSQ : Hid (∀ t, t < 3 → sqN i (bs t) = sqN i p) := fun t ht => sqN_congr fun k hk => HLK.out t ht k (by omega)
      have MT := Lib.hid (fun t (ht : t < 3) W (h : PowAt W) => hME W (bs t) h (HSQ.out t ht))
      have LT := Lib.hid (fun t (_ : t < 3) W => like_row hm1 hm2 W (bs t))
      have HBD := Lib.hid (fun q k => likeN_bound i q k)
      have HL3 := Lib.hid (fun W => lit3s W (rowS i b0) (rowS i b1) (rowS i b2) (fun t => rowS i (bs t)) (by rw [HBS.out.1]) (by rw [HBS.out.2.1]) (by rw [HBS.out.2.2]))
      have hMM : (M.toList == M.toList) = true := by simp
      have hFF : (F == F) = true := by simp
      clear hME hVA hvf HSQ hlt HS HB0 HB1 HB2 HBS
      have s1 : ¬ (i : Int) < (i : Int) := by omega
      generalize rowS i b0 = T0 at *
      generalize rowS i b1 = T1 at *
      generalize rowS i b2 = T2 at *
      go_wp2_with (first
        | (go_at_call 6; refine (LS.out _).mono ?_; rintro e w2 ⟨r2, rfl, hk2, hr2⟩)
        | (go_at_call 8; refine (MS.out _ (tab_kept hP1.out hk2)).mono ?_; rintro e w3 ⟨rfl, hk3⟩)
        | (go_at_call 10; refine (LV.out _).mono ?_; rintro e w4 ⟨rfl, hk4⟩)
        | (go_at_call 19; refine (BK.out _).mono ?_; rintro e w5 ⟨rfl, rfl⟩)
        | (go_at_call 18; refine (MI.out _).mono ?_; rintro e w6 ⟨rfl, rfl⟩))
      have HC0 := Lib.hid (HL3.out w4)
      have hKa : Kept w4 (w4.alloc (.cells #[.string T0, .string T1, .string T2] 9)) := (Kept.refl w4).alloc _
      obtain ⟨s0, HS0⟩ : ∃ s, Hid (s = w4.heap.size) := ⟨_, rfl⟩
      rw [← HS0.out] at HC0 ⊢
      have hKW : Kept w (w4.alloc (.cells #[.string T0, .string T1, .string T2] 9)) := (((hk1.trans hk2).trans hk3).trans hk4).trans hKa
      have HPW := Lib.hid (tab_kept hP1.out (((hk2.trans hk3).trans hk4).trans hKa))
      have HC2 := Lib.hid (fun k hk => (((hk3.trans hk4).trans hKa).cellSome (hr2 k hk)))
      generalize w4.alloc (.cells #[.string T0, .string T1, .string T2] 9) = W at *
      clear HS0 HL3 LS MS BK MI LV hk1 hk2 hk3 hk4 hKa hr2 hP1
      go_loopg [69] 3 (fun g s69 wr => ∃ t : Nat, t ≤ 3 ∧ g = 3 - t ∧ s69 = .int .i64 t ∧ Kept W wr)
      case atStart => exact ⟨0, by omega, rfl, by first | rfl | go_num, Kept.refl _⟩
      case round =>
        obtain ⟨t, ht, rfl, rfl, hK⟩ := hrel
        by_cases hlt : t < 3
        · have s2 : (t : Int) < 3 := by omega
          have hc := hK.cellSome (HC0.out t hlt)
          have LTt := Lib.hid (fun W => LT.out t hlt W)
          have MTt := Lib.hid (fun W (h : PowAt W) => MT.out t hlt W h)
          have HLt := Lib.hid (fun k (h : k ≤ i) => HLK.out t hlt k h)
          (try dsimp only at hc)
          obtain ⟨q, HQ⟩ : ∃ q, q = bs t := ⟨_, rfl⟩
          rw [← HQ] at hc LTt MTt HLt
          generalize rowS i q = T at *
          clear HQ
          go_wp2_with (first
            | (go_at_call 6; refine (LTt.out _).mono ?_; rintro e w5 ⟨r5, rfl, hk5, hr5⟩)
            | (go_at_call 8; refine (MTt.out _ (tab_kept HPW.out (hK.trans hk5))).mono ?_; rintro e w6 ⟨rfl, hk6⟩))
          have C5 := Lib.hid (fun k hk => hk6.cellSome (hr5 k hk))
          have C2 := Lib.hid (fun k hk => ((hK.trans hk5).trans hk6).cellSome (HC2.out k hk))
          have hKn : Kept W w6 := (hK.trans hk5).trans hk6
          clear hK hk5 hk6 hr5 hc LTt MTt
          go_loopg [17] i (fun g s17 wi => ∃ k : Nat, k ≤ i ∧ g = i - k ∧ s17 = .int .i64 k ∧ Quiet w6 wi)
          case atStart => exact ⟨0, by omega, rfl, by first | rfl | go_num, Quiet.refl _⟩
          case round =>
            obtain ⟨k, hk, rfl, rfl, hQ⟩ := hrel
            by_cases hlt2 : k < i
            · have c5 := hQ.kept.cellSome (C5.out k hlt2)
              have c2 := hQ.kept.cellSome (C2.out k hlt2)
              have s3 : (k : Int) < (i : Int) := by omega
              have s4 : (0 : Int) ≤ (k : Int) := by omega
              have hor := HLt.out k hk
              have hbd := HBD.out p k
              generalize likeN i q k = u at *
              generalize likeN i p k = v at *
              by_cases huv : u = v
              · have e1 : (u == v) = true := by simpa using huv
                have e1b : (u != v) = false := by simpa using huv
                clear hor huv
                go_wp2_with fail
                go_quiet (fail)
                go_wp2_with fail
                go_roundg (i - (k + 1))
                case measure => omega
                case rel => exact ⟨k + 1, by omega, rfl, by first | rfl | go_num, hQ.drewN _⟩
              · obtain rfl : u = -v := by rcases hor with h | h; exact absurd h huv; exact h
                have e1 : (-v == v) = false := by simpa using huv
                have e1b : (-v != v) = true := by simpa using huv
                have e2 : (-v == -v) = true := by simp
                have e2b : (-v != -v) = false := by simp
                have v1 : wrap64 (-v) = -v := IntWalk.wrap64_in _ (by omega)
                have v2 : IntKind.i64.wrap (-v) = -v := IntWalk.i64_in _ (by omega)
                clear hor huv
                go_wp2_with fail
                go_quiet (fail)
                go_wp2_with fail
                go_roundg (i - (k + 1))
                case measure => omega
                case rel => exact ⟨k + 1, by omega, rfl, by first | rfl | go_num, hQ.drewN _⟩
            · obtain rfl : k = i := by omega
              have s3 : ¬ (k : Int) < (k : Int) := by omega
              have hKm := hKn.trans hQ.kept
              clear hQ hKn C5 C2
              go_wp2_with fail
              go_roundg (3 - (t + 1))
              case measure => omega
              case rel => exact ⟨t + 1, by omega, rfl, by first | rfl | go_num, hKm⟩
        · have s2 : ¬ (t : Int) < 3 := by omega
          clear hFF
          rcases HVF.out with rfl | ⟨rfl, rfl⟩
          · go_wp2_with (first | (go_at_call 20; refine (VA.out _).mono ?_; rintro e w7 ⟨rfl, hk7⟩))
            go_ret
            exact ⟨rfl, (hKW.trans hK).trans hk7⟩
          · go_wp2_with (first | (go_at_call 20; refine (VA.out _).mono ?_; rintro e w7 ⟨rfl, hk7⟩))
            go_ret
            exact ⟨rfl, (hKW.trans hK).trans hk7⟩
end Go.Proofs.YthigeafojekclaaDoor
