/-
  Package gait: paley, Legendre, Paley.
-/
import Derived.Test.YthigeafojekclaaDoorGe
import Derived.Deep.RegionLaw
import Derived.Deep.AppendLies
import Derived.Laws.OwnMore
namespace Go.Proofs.YthigeafojekclaaDoor
open Go.RowKit Go.Deep Go.Shelf

theorem Tryd.info9 : (Tryd.prog.info? 9).map (fun i => (i.zero, i.size, i.bytes)) = some (some (.string ⟨#[]⟩), 1, 16) := by kernel_rfl
theorem own_shape {w : World} {base e size : Nat} {v : Value} {n : Nat} {xs : List Value} (h : w.ownsRow base e size v n xs) : ∃ a cap, v = .slice a n cap := by
  rcases h.2 with ⟨rfl, rfl⟩ | ⟨g, cap, cur, rfl, _⟩
  · exact ⟨none, 0, rfl⟩
  · exact ⟨_, cap, rfl⟩
def strs (S : Nat → ByteArray) (k : Nat) : List Value := (List.range k).map fun i => .string (S i)
theorem strs_succ (S : Nat → ByteArray) (k : Nat) : strs S (k + 1) = strs S k ++ [.string (S k)] := by simp [strs, List.range_succ]
theorem strs_get {S : Nat → ByteArray} {k i : Nat} (h : i < k) : (strs S k)[i]? = some (.string (S i)) := by simp [strs, h]
theorem strs_congr {S T : Nat → ByteArray} {k : Nat} (h : ∀ i, i < k → S i = T i) : strs S k = strs T k := by
  unfold strs
  apply List.map_congr_left
  intro i hi
  rw [h i (by simpa using hi)]
theorem strs_own {w : World} {base e : Nat} {v : Value} {k : Nat} {S : Nat → ByteArray} (h : w.ownsRow base e 1 v k (strs S k)) : StrsAt w v k S :=
  (CellsAt.of_own h).congr fun i hi => by rw [List.getD_eq_getElem?_getD, strs_get hi]; rfl
theorem strs_lit (w : World) (base s : Nat) (S : Nat → ByteArray) (x : ByteArray) (hx : S 0 = x) (hs : w.heap.size = s) (hb : base ≤ s) : (w.alloc (.cells #[.string x] 9)).ownsRow base 9 1 (.slice (some ⟨s, 0, none⟩) 1 1) 1 (strs S 1) := by
  subst hs
  have h := World.ownsRow_lit (base := base) (e := 9) (size := 1) w #[.string x] 1 hb (by decide) rfl
  have e : strs S 1 = [.string x] := by simp [strs, hx]
  rw [e]
  exact h
theorem paley1_any (W : World) (i : Int) : Calls Tryd.prog 63 #[.int .i64 i] W fun e w' => e = .returned (.bool false) ∧ Quiet W w' := by
  go_enter Tryd.func63, Tryd.ntmps63
  go_wp2_with fail
  go_ret
  exact ⟨rfl, Quiet.refl _⟩
/-- the sign j of the row i of Paley's matrix -/
def palP (n i j : Nat) : Bool := if i = 0 then false else if j = 0 then true else legP n ((n + j - i) % n)
def palS (n i : Nat) : ByteArray := rowS (n + 1) (palP n i)
theorem palS_zero (n : Nat) : palS n 0 = rowS (n + 1) (fun _ => false) := rowS_congr fun i _ => by simp [palP]
theorem minus_row : (⟨#[45]⟩ : ByteArray) = rowS 1 (fun _ => true) := rfl
theorem palS_succ (n i : Nat) (hi : i < n) : palS n (i + 1) = (⟨#[45]⟩ ++ (rowS n (legP n)).extract (n - i) n) ++ (rowS n (legP n)).extract 0 (n - i) := by
  rw [minus_row, rowS_extract _ _ _ _ (Nat.le_refl _), rowS_extract _ _ _ _ (by omega), rowS_append, rowS_append]
  unfold palS
  rw [show 1 + (n - (n - i)) + (n - i - 0) = n + 1 by omega]
  refine rowS_congr fun j hj => ?_
  unfold palP
  rw [if_neg (by omega)]
  by_cases h0 : j = 0
  · subst h0
    rw [if_pos rfl, if_pos (by omega), if_pos (by omega)]
  · rw [if_neg h0]
    by_cases h1 : j < 1 + (n - (n - i))
    · rw [if_pos h1, if_neg (by omega)]
      congr 1
      rw [show n + j - (i + 1) = n - i + (j - 1) by omega, Nat.mod_eq_of_lt (by omega)]
    · rw [if_neg h1]
      congr 1
      rw [show n + j - (i + 1) = (0 + (j - (1 + (n - (n - i))))) + n by omega, Nat.add_mod_right, Nat.mod_eq_of_lt (by omega)]
def StrsPost (w : World) (k : Nat) (S : Nat → ByteArray) (e : Ending) (w' : World) : Prop := ∃ v, e = .returned v ∧ Kept w w' ∧ w'.ownsRow w.heap.size 9 1 v k (strs S k)
set_option maxRecDepth 100000 in
set_option maxHeartbeats 4000000 in
theorem paley_any (w : World) (n : Nat) (hn1 : 1 ≤ n) (hn : n ≤ 100) :
    Calls Tryd.prog 42 #[.int .i64 n] w (StrsPost w (n + 1) (palS n)) := by
  obtain ⟨i0, hi, hz0, hz1, hz2⟩ := info_parts Tryd.info9
  have LE := Lib.hid (fun W => legendre_any W n hn1 (by omega))
  have ec0 : (n : Int) + 1 = ((n + 1 : Nat) : Int) := by omega
  have RO := Lib.hid (fun W => rowOf_any W (n + 1) 63 #[] (fun _ => false) (by omega) (enters_of Tryd.func63 (by kernel_rfl) rfl) (fun W i _ _ => paley1_any W i))
  have hp0 := Lib.hid (palS_zero n)
  have hps := Lib.hid (palS_succ n)
  obtain ⟨S, HS⟩ : ∃ S, Hid (S = rowS n (legP n)) := ⟨_, rfl⟩
  have hSs : S.size = n := by rw [HS.out]; exact rowS_size _ _
  unfold RowOfPost at LE RO
  rw [← HS.out] at LE hps
  obtain ⟨R, HR⟩ : ∃ R, Hid (R = rowS (n + 1) (fun _ => false)) := ⟨_, rfl⟩
  rw [← HR.out] at RO hp0
  have RO2 := Lib.hid (fun W => show Calls Tryd.prog 62 #[.int .i64 ((n : Int) + 1), .func (.func 63) #[] #[]] W _ by rw [ec0]; exact RO.out W)
  clear RO ec0
  go_enter Tryd.func42, Tryd.ntmps42
  go_wp2_with (first | (go_at_call 61; refine (LE.out _).mono ?_; rintro e w1 ⟨rfl, hk1⟩) | (go_at_call 62; refine (RO2.out _).mono ?_; rintro e w2 ⟨rfl, hk2⟩))
  have hK0 : Kept w (w2.alloc (.cells #[.string R] 9)) := (hk1.trans hk2).alloc _
  have hO0 := strs_lit w2 w.heap.size w2.heap.size (palS n) R hp0.out rfl ((hk1.trans hk2).size)
  have hsw : w.heap.size ≤ w2.heap.size := (hk1.trans hk2).size
  obtain ⟨G, HG⟩ : ∃ G, Hid (G = w2.heap.size) := ⟨_, rfl⟩
  rw [← HG.out] at hO0 hsw ⊢
  generalize w2.alloc (.cells #[.string R] 9) = W0 at *
  clear hk1 hk2 hp0 LE RO2
  go_loopg [4, 13] n (fun g s4 s13 wr => ∃ j : Nat, j ≤ n ∧ g = n - j ∧ s13 = .int .i64 j ∧ Kept w wr ∧ wr.ownsRow w.heap.size 9 1 s4 (j + 1) (strs (palS n) (j + 1)))
  case atStart => exact ⟨0, Nat.zero_le _, rfl, rfl, hK0, hO0⟩
  case round =>
    obtain ⟨j, hj, rfl, rfl, hK, hO⟩ := hrel
    clear hK0 hO0
    obtain ⟨va, vcap, rfl⟩ := own_shape hO
    by_cases hlt : j < n
    · have s2 : (j : Int) < (n : Int) := by omega
      have hsz := hK.size
      have hnx : Hid (palS n (j + 1) = ((⟨#[45]⟩ ++ S.extract (n - j) n) ++ S.extract 0 (n - j))) := hps.out j hlt
      have ec : (n : Int) - (j : Int) = ((n - j : Nat) : Int) := by omega
      have hm : n - j ≤ n := by omega
      obtain ⟨m, HM⟩ : ∃ m, Hid (m = n - j) := ⟨_, rfl⟩
      rw [← HM.out] at hnx hm ec
      have s3 : (m : Int) ≤ (n : Int) := by omega
      have s5 : IntKind.i64.wrap (m : Int) = (m : Int) := IntWalk.i64_in _ (by omega)
      have s4 : (0 : Int) ≤ (m : Int) := by omega
      have s6 : ¬ 9223372036854775807 < 1 + (n - m) := by omega
      have s7 : ¬ 9223372036854775807 < 1 + (n - m) + m := by omega
      go_wp2_with fail
      go_region_law ((refine step_append_lies _ (by rfl) _ _ _ (by rfl) w.heap.size 9 i0 (.string ⟨#[]⟩) 1 16 Tryd.underlying44 hi hz0 hz1 hz2 rfl (by omega) (.slice va (j + 1) vcap) (j + 1) (strs (palS n) (j + 1)) (by rfl) ((hO.alloc _).drew) ⟨wr.heap.size, 0, none⟩ 1 1 [.string (((⟨#[45]⟩ : ByteArray) ++ S.extract m n) ++ S.extract 0 m)] (by rfl) (by rfl) (World.news_of_block (cs := #[.string (((⟨#[45]⟩ : ByteArray) ++ S.extract m n) ++ S.extract 0 m)]) (t := 9) (fr := (0, 0)) (heap_alloc_new wr _)) (by simp [Value.oneCell']) (by omega) (by unfold maxLen; omega) (by omega) (by simp; omega) (wr.heap.size + 1) (by simp) ?_; intro g gcap w2 hO3 hgr hgl hgs))
      all_goals
        have hK9 : Kept w w2 := ((hK.alloc _).drew).step (grew_X hgr ((hO.alloc _).drew)) (fun i hi => hi)
        have hO4 : w2.ownsRow w.heap.size 9 1 (.slice (some ⟨g, 0, none⟩) (j + 1 + 1) gcap) (j + 1 + 1) (strs (palS n) (j + 1 + 1)) := by
          rw [strs_succ, hnx.out]; exact hO3
        clear hO3 hgr hO
        go_wp2_with fail
        go_roundg (n - (j + 1))
        case measure => omega
        case rel => exact ⟨j + 1, by omega, rfl, by first | rfl | go_num, hK9, hO4⟩
    · obtain rfl : j = n := by omega
      go_wp2_with fail
      go_ret
      exact ⟨_, rfl, hK, hO⟩
end Go.Proofs.YthigeafojekclaaDoor
