/-
  The program's matrices, more: divisors.
-/
import Derived.Test.YtlnpipkhofhlnaaS
import Derived.Test.YtlnpipkhofhlnaaF
import Derived.Deep.RegionWith
namespace Go.Proofs.Ytlnpipkhofhlnaa
open Go.RowKit Go.Deep

def subM (n : Nat) (M : Nat → Nat → Int) (s t : Nat) : Nat → Nat → Int := fun i j => M ((bitL s n).getD i 0) ((bitL t n).getD j 0)
def stepD (n : Nat) (M : Nat → Nat → Int) (s t : Nat) (d : Nat → Int) : Nat → Int :=
  if (bitL s n).length = (bitL t n).length then (fun k => if k = (bitL s n).length then gcdI (d k) (detI k (subM n M s t)) else d k) else d
def innerD (n : Nat) (M : Nat → Nat → Int) (s : Nat) : Nat → (Nat → Int) → Nat → Int
  | 0, d => d
  | t + 1, d => stepD n M s t (innerD n M s t d)
def outerD (n : Nat) (M : Nat → Nat → Int) : Nat → Nat → Int
  | 0 => fun _ => 0
  | s + 1 => innerD n M s (2 ^ n) (outerD n M s)
def big : Int := 9223372036854775807
theorem gcdG_bd {Y : Int} (g : Nat) : ∀ a b, 0 ≤ a → a ≤ Y → 0 ≤ b → b ≤ Y → 0 ≤ gcdG g a b ∧ gcdG g a b ≤ Y := by
  induction g with
  | zero => intro a b h1 h2 _ _; exact ⟨h1, h2⟩
  | succ g ih =>
    intro a b h1 h2 h3 h4
    simp only [gcdG]
    by_cases e : b = 0
    · rw [if_pos e]; exact ⟨h1, h2⟩
    · rw [if_neg e]
      have h5 : a.tmod b = a % b := Int.tmod_eq_emod_of_nonneg h1
      have h6 := Int.emod_nonneg a e
      have h7 := Int.emod_lt_of_pos a (show 0 < b by omega)
      rw [h5]
      exact ih _ _ h3 h4 h6 (by omega)
theorem gcdI_bd {Y a b : Int} (h1 : 0 ≤ a) (h2 : a ≤ Y) (h3 : 0 ≤ b) (h4 : b ≤ Y) : 0 ≤ gcdI a b ∧ gcdI a b ≤ Y := gcdG_bd _ _ _ h1 h2 h3 h4
theorem bitL_lt {s n c : Nat} (h : c ∈ bitL s n) : c < n := by
  unfold bitL at h
  have := (List.mem_filter.1 h).1
  simpa using this
theorem bitL_getD {s n i : Nat} (h : i < (bitL s n).length) : (bitL s n).getD i 0 < n := by
  rw [List.getD_eq_getElem?_getD, List.getElem?_eq_getElem h]
  exact bitL_lt (List.getElem_mem h)
theorem nats_ints {w : World} {v : Value} {l : List Nat} (h : CellsAt w v l.length (fun i => (nats l).getD i undef)) : IntsAt w v l.length (fun i => ((l.getD i 0 : Nat) : Int)) := h.congr (fun i hi => by
  show (nats l).getD i undef = Value.int .i64 ((l.getD i 0 : Nat) : Int)
  unfold nats
  rw [List.getD_eq_getElem?_getD, List.getElem?_map, List.getElem?_eq_getElem hi, List.getD_eq_getElem?_getD, List.getElem?_eq_getElem hi]; rfl)
theorem det_at (w : World) (v : Value) (n : Nat) (M : Nat → Nat → Int) (d : Int) (hd : detI n M = d) (hM : MatRead w v n M) (hn : n ≤ 1000) :
    Calls Try.prog 44 #[v] w fun e w' => e = .returned (.int .i64 d) ∧ Kept w w' := by
  subst hd
  exact determinant_any w v n M hM hn
def DivPost (w : World) (n : Nat) (M : Nat → Nat → Int) (e : Ending) (w' : World) : Prop := ∃ b, e = .returned (.slice (some ⟨b, 0, none⟩) (n + 1) (n + 1)) ∧ Kept w w' ∧ w'.rowIs b 2 (n + 1) (fun k => .int .i64 (outerD n M (2 ^ n) k))

set_option maxRecDepth 100000 in
set_option maxHeartbeats 4000000 in
theorem divisors_any (w : World) (v : Value) (n : Nat) (M : Nat → Nat → Int) (hM : MatRead w v n M) (hn : n ≤ 7) (hdet : ∀ s t, s < 2 ^ n → t < 2 ^ n → (bitL s n).length = (bitL t n).length → 0 ≤ detI (bitL s n).length (subM n M s t) ∧ detI (bitL s n).length (subM n M s t) ≤ big) :
    Calls Try.prog 62 #[v] w (DivPost w n M) := by
  have hM0 := hM
  obtain ⟨vs0, ⟨la, lb, lo, lcap, rfl, hla, hlc⟩, hrows⟩ := hM
  have hmk := fun W => mkRow64 ((n : Int) + 1) (n + 1) (by omega) (by omega) W
  clear hrows hlc hla
  go_enter Try.func62, Try.ntmps62
  go_wp2_with fail
  have hr0 := row_at w (.int .i64 0) (n + 1) 2 w.heap.size rfl
  have hk0 : Kept w (w.alloc (.cells (madeCells #[.int .i64 0] (n + 1)) 2)) := (Kept.refl w).alloc _
  generalize w.alloc (.cells (madeCells #[.int .i64 0] (n + 1)) 2) = W0 at *
  refine (subsets_any _ n hn).mono ?_
  rintro e w1 ⟨sb, vs, rfl, hk1, hsb, hS, hV⟩
  have hr1 := hk1.row hr0
  have hK1 := hk0.trans hk1
  obtain ⟨S, HS⟩ : ∃ S : Nat, Hid (S = 2 ^ n) := ⟨2 ^ n, rfl⟩
  have hsw : W0.heap.size ≤ w1.heap.size := Kept.size hk1
  have hdb : w.heap.size < W0.heap.size := hr0.lt
  have hS128 : S ≤ 128 := by rw [HS.out]; exact Nat.pow_le_pow_right (n := 2) (by omega) hn
  rw [← HS.out] at hS hV hdet ⊢
  have hSb : sb ≠ w.heap.size := by omega
  clear hmk hr0 hk0 hk1
  go_wp2_with fail
  go_loopg [6, 8, 9, 19] S (fun g s6 s8 s9 i wr => ∃ (s : Nat), s ≤ S ∧ g = S - s ∧ i = .int .i64 s ∧ KeptX (fun k => k = w.heap.size) w1 wr ∧ wr.rowIs w.heap.size 2 (n + 1) (fun k => .int .i64 (outerD n M s k)) ∧ ∀ k, k ≤ n → 0 ≤ outerD n M s k ∧ outerD n M s k ≤ big)
  case atStart => exact ⟨0, Nat.zero_le _, rfl, rfl, KeptX.refl _ _, hr1, fun k _ => by show (0 : Int) ≤ 0 ∧ (0 : Int) ≤ big; unfold big; omega⟩
  case round =>
    obtain ⟨s, hsS, rfl, rfl, hX, hD, hbd⟩ := hrel
    by_cases hlt : s < S
    · have x1 := hX.cellSome (hS.cell hlt) hSb
      have n1 : (s : Int) < (S : Int) := by omega
      have hvx : ∀ t, t < S → ∀ wi : World, KeptX (fun k => k = w.heap.size) w1 wi → CellsAt wi (vs t) (bitL t n).length (fun i => (nats (bitL t n)).getD i undef) := fun t ht wi hx => CellsAt.of_own (own_keptX (hV t ht) hx (fun b hb => by omega))
      obtain ⟨ra, rcap, hrs⟩ := own_shape (hV s hlt)
      have hvs := hvx s hlt
      rw [hrs] at x1 hvs
      obtain ⟨ls, HLS⟩ : ∃ ls, Hid (ls = (bitL s n).length) := ⟨_, rfl⟩
      have hlsn := bitL_len s n
      have HVS := Lib.hid hvs
      have HVX := Lib.hid hvx
      rw [← HLS.out] at x1 hlsn
      have HRS := Lib.hid hrs
      clear hvs hvx hrs
      rw [← HLS.out] at HRS
      go_wp2_with fail
      go_loopg [8, 9, 25] S (fun q s8 s9 i wi => ∃ t : Nat, t ≤ S ∧ q = S - t ∧ i = .int .i64 t ∧ KeptX (fun k => k = w.heap.size) w1 wi ∧ wi.rowIs w.heap.size 2 (n + 1) (fun k => .int .i64 (innerD n M s t (outerD n M s) k)) ∧ ∀ k, k ≤ n → 0 ≤ innerD n M s t (outerD n M s) k ∧ innerD n M s t (outerD n M s) k ≤ big)
      case atStart => exact ⟨0, Nat.zero_le _, rfl, rfl, hX, hD, hbd⟩
      case round =>
        clear hX hD hbd x1
        obtain ⟨t, htS, rfl, rfl, hX, hD, hbd⟩ := hrel
        by_cases hlt2 : t < S
        · have x1 := hX.cellSome (hS.cell hlt2) hSb
          obtain ⟨ca, ccap, hcs⟩ := own_shape (hV t hlt2)
          have hvt := HVX.out t hlt2
          rw [hcs] at x1 hvt
          obtain ⟨lt, HLT⟩ : ∃ lt, Hid (lt = (bitL t n).length) := ⟨_, rfl⟩
          have hltn := bitL_len t n
          have HVT := Lib.hid hvt
          rw [← HLT.out] at x1 hltn
          have HCS := Lib.hid hcs
          clear hvt hcs
          rw [← HLT.out] at HCS
          have n1 : (t : Int) < (S : Int) := by omega
          by_cases hll : ls = lt
          · subst hll
            have t1 := hD.cell (i := ls) (by omega)
            have t2 := hD.frozen ls
            obtain ⟨dk, HDK⟩ : ∃ dk, Hid (dk = innerD n M s t (outerD n M s) ls) := ⟨_, rfl⟩
            rw [← HDK.out] at t1
            have hdk : 0 ≤ dk ∧ dk ≤ big := by rw [HDK.out]; exact hbd ls (by omega)
            obtain ⟨de, HDE⟩ : ∃ de, Hid (detI ls (subM n M s t) = de) := ⟨_, rfl⟩
            have hde : 0 ≤ de ∧ de ≤ big := by rw [← HDE.out, HLS.out]; exact hdet s t hlt hlt2 (by rw [← HLS.out, ← HLT.out])
            have hgb := gcdI_bd hdk.1 hdk.2 hde.1 hde.2
            have hkw : Kept w wr := Kept.step hK1 hX (fun i hi => by omega)
            have hmr := hM0.kept hkw
            have hr1 : IntsAt wr (.slice ra ls rcap) ls (fun i => (((bitL s n).getD i 0 : Nat) : Int)) := by have := nats_ints (HVX.out s hlt wr hX); rw [← HLS.out, HRS.out] at this; exact this
            have hr2 : IntsAt wr (.slice ca ls ccap) ls (fun i => (((bitL t n).getD i 0 : Nat) : Int)) := by have := nats_ints (HVX.out t hlt2 wr hX); rw [← HLT.out, HCS.out] at this; exact this
            have f1 : 0 ≤ big := by unfold big; omega
            have l0 : (0 : Int) ≤ (ls : Int) := by omega
            have l1 : (ls : Int) < ((n + 1 : Nat) : Int) := by omega
            go_wp2_with fail
            go_region_with (first | (go_at_call 76; refine (part_any _ _ _ _ n ls M (fun i => (bitL s n).getD i 0) (fun i => (bitL t n).getD i 0) ?_ (by omega) (by omega) ?_ ?_ (fun i hi => bitL_getD (by rw [← HLS.out]; exact hi)) (fun i hi => bitL_getD (by rw [← HLT.out]; exact hi))).mono ?_; (exact MatRead.kept hmr (by repeat (first | assumption | exact Kept.refl _ | apply Kept.drew | apply Kept.drewN | apply Kept.alloc | refine Kept.trans ?_ (by assumption)))); (exact CellsAt.kept hr1 (by repeat (first | assumption | exact Kept.refl _ | apply Kept.drew | apply Kept.drewN | apply Kept.alloc | refine Kept.trans ?_ (by assumption)))); (exact CellsAt.kept hr2 (by repeat (first | assumption | exact Kept.refl _ | apply Kept.drew | apply Kept.drewN | apply Kept.alloc | refine Kept.trans ?_ (by assumption)))); rintro e w2 ⟨pv, rfl, hk2, hm2⟩; have t1b := hk2.cellSome (show _ = some (.int .i64 dk) from t1); have t2b := (KeptX.frozen hk2 (a := ⟨w.heap.size, ls, none⟩) (World.block_lt_of_cell? wr _ t1) id).trans t2) | (go_at_call 44; refine (det_at _ _ ls (subM n M s t) de HDE.out hm2 (by omega)).mono ?_; rintro e w3 ⟨rfl, hk3⟩; have t1c := hk3.cellSome t1b; have t2c := (KeptX.frozen hk3 (a := ⟨w.heap.size, ls, none⟩) (World.block_lt_of_cell? _ _ t1b) id).trans t2b) | (go_at_call 45; refine (gcd_any _ _ _ ?_ ?_).mono ?_; (unfold big at hdk; omega); (unfold big at hde; omega); rintro e w4 ⟨rfl, hq4⟩; have hk4 := hq4.kept; have t1d := hk4.cellSome t1c; have t2d := (KeptX.frozen hk4 (a := ⟨w.heap.size, ls, none⟩) (World.block_lt_of_cell? _ _ t1c) id).trans t2c))
            all_goals
              go_wp2_with fail
              go_roundg (S - (t + 1))
              case measure => omega
              case rel =>
                have hst : ∀ k, innerD n M s (t + 1) (outerD n M s) k = if k = ls then gcdI dk de else innerD n M s t (outerD n M s) k := by
                  intro k
                  show stepD n M s t (innerD n M s t (outerD n M s)) k = _
                  unfold stepD
                  rw [if_pos (by rw [← HLS.out, ← HLT.out])]
                  show (if k = (bitL s n).length then _ else _) = _
                  rw [← HLS.out]
                  by_cases e : k = ls
                  · rw [if_pos e, if_pos e, e, HDE.out, HDK.out]
                  · rw [if_neg e, if_neg e]
                have hk04 : Kept wr w4 := (by repeat (first | assumption | exact Kept.refl _ | apply Kept.drew | apply Kept.drewN | apply Kept.alloc | refine Kept.trans ?_ (by assumption)))
                have hD4 := hk04.row hD
                refine ⟨t + 1, by omega, rfl, by go_num, KeptX.setIn (hX.trans (hk04.weaken (fun _ h => h.elim))) _ _, (hD4.set ls _).congr (fun k _ => ?_), fun k hk => ?_⟩
                · rw [hst k]
                  by_cases e : k = ls
                  · rw [if_pos e, if_pos e]
                  · rw [if_neg e, if_neg e]
                · rw [hst k]
                  by_cases e : k = ls
                  · rw [if_pos e]; exact hgb
                  · rw [if_neg e]; exact hbd k hk
          · have e1 : ((ls : Int) == (lt : Int)) = false := by simp; omega
            go_wp2_with fail
            go_roundg (S - (t + 1))
            case measure => omega
            case rel =>
              have e : innerD n M s (t + 1) (outerD n M s) = innerD n M s t (outerD n M s) := by
                show stepD _ _ _ _ _ = _
                unfold stepD; rw [if_neg (by rw [← HLS.out, ← HLT.out]; exact hll)]
              exact ⟨t + 1, by omega, rfl, by go_num, hX, by rw [e]; exact hD, by rw [e]; exact hbd⟩
        · obtain rfl : t = S := by omega
          go_wp2_with fail
          go_roundg (t - (s + 1))
          case measure => omega
          case rel =>
            have e : outerD n M (s + 1) = innerD n M s t (outerD n M s) := by show innerD n M s (2 ^ n) _ = _; rw [← HS.out]
            exact ⟨s + 1, by omega, rfl, by go_num, hX, by rw [e]; exact hD, by rw [e]; exact hbd⟩
    · obtain rfl : s = S := by omega
      go_wp2_with fail
      go_ret
      exact ⟨w.heap.size, rfl, Kept.step hK1 hX (fun i hi => by omega), by rw [← HS.out]; exact hD⟩
end Go.Proofs.Ytlnpipkhofhlnaa
