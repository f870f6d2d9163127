/-
  Package herd: groups, greatest.
-/
import Derived.Test.YtlnlddnjalfamaaGreatDoorHf
import Derived.RangeFuncWrites
namespace Go.Proofs.YtlnlddnjalfamaaGreatDoor
open Go.RowKit Go.Deep Go.Shelf
attribute [local go_sem] Oper.semAt_some

set_option maxRecDepth 100000 in
set_option maxHeartbeats 4000000 in
theorem groups1_in (m l n₀ n : Nat) (hn : n ≤ 14) (hn1 : 0 < n) (g Bn cap : Nat) (H : Nat → Nat) (hH : ∀ i, i < n → H i < 65536) (hb : g < n₀) (E : Nat → Nat) (hE : ∀ x, x ∈ cliq H n n 0 (allH n) → E x = x) (J Jx : List Nat → World → Prop) (hJd : Drawn J)
    (hY : ∀ pre x W, J pre W → pre.length < (cliq H n n 0 (allH n)).length → YieldAt Fence.wide (m - 1) Tryz.prog l #[.int .u16 ((E x : Nat) : Int)] W fun e W' =>
      (e = .returned (.bool true) ∧ J (pre ++ [x]) W' ∧ Below n₀ W W') ∨ (e = .returned (.bool false) ∧ Jx (pre ++ [x]) W'))
    (W : World) (hBn : W.cell? ⟨Bn, 0, none⟩ = some (.slice (some ⟨g, 0, none⟩) n cap)) (hc : ∀ i, i < n → W.cell? ⟨g, 0 + i, none⟩ = some (.int .u16 ((H i : Nat) : Int))) (h0 : J [] W) :
    CallsIn Fence.wide m Tryz.prog 75 #[.func (.yield l) #[] #[], .pointer (some ⟨Bn, 0, none⟩)] W fun e W' => (∃ v, e = .returned v) ∧
      ((∃ ys, ys = cliq H n n 0 (allH n) ∧ J ys W') ∨ (∃ pre, pre <+: cliq H n n 0 (allH n) ∧ Jx pre W')) := by
  have hdd : ∀ k : Nat, (Fence.wide.depth.isSome = true → 1 ≤ k) := fun k h => by cases h
  have hY2 : ∀ m' pre x W, J pre W → pre.length < (cliq H n n 0 (allH n)).length → YieldAt Fence.wide m' Tryz.prog l #[.int .u16 ((E x : Nat) : Int)] W fun e W' =>
      (e = .returned (.bool true) ∧ J (pre ++ [x]) W' ∧ Below n₀ W W') ∨ (e = .returned (.bool false) ∧ Jx (pre ++ [x]) W') := fun m' pre x W hj hl => by
    obtain ⟨fn, tmps, assign, body, hy, hR⟩ := hY pre x W hj hl
    exact ⟨fn, tmps, assign, body, hy, hR.1, fun c cs _ => hR.2 c cs (fun d h => by cases h)⟩
  have GR := Lib.hid (fun m' (hcd : ∀ i, i < n → W.drew.cell? ⟨g, 0 + i, none⟩ = some (.int .u16 ((H i : Nat) : Int))) => (grow_in l n₀ n hn (some ⟨g, 0, none⟩) g 0 cap (fun _ => rfl) H hH (fun _ => hb) (cliq H n n 0 (allH n)).length E J Jx hJd hY2 n m' 0 (allH n) [] W.drew (by decide) hE (allH_lt (by omega)) (fun j hj => by rw [allH_bit] at hj; simp at hj; omega) hcd (hJd _ _ h0) (by simp)).mono (R' := fun e W' => ∃ bv, e = .returned (.bool bv) ∧ ((∃ ys, ys = cliq H n n 0 (allH n) ∧ J ys W') ∨ (∃ pre, pre <+: cliq H n n 0 (allH n) ∧ Jx pre W'))) (fun e W' h => by
        rcases h with ⟨rfl, h1, _⟩ | ⟨rfl, q, hq, h1⟩
        · exact ⟨true, rfl, Or.inl ⟨_, rfl, by simpa using h1⟩⟩
        · exact ⟨false, rfl, Or.inr ⟨q, hq, by simpa using h1⟩⟩))
  have GR2 := Lib.hid (fun m' => GR.out m' (fun i hi => by rw [World.cell?_drew]; exact hc i hi))
  have AL := Lib.hid (fun W => all_any W (some ⟨g, 0, none⟩) n cap hn)
  clear hY hY2 GR hc h0
  refine callsIn_of_wp Tryz.func75 rfl trivial ?_ rfl
  simp only [Tryz.ntmps75, List.size_toArray, List.length_cons, List.length_nil, Nat.reduceAdd, Nat.reduceSub, Array.replicate_succ, Array.replicate_zero, List.push_toArray, List.append_toArray, List.nil_append, List.cons_append]
  gi_wp2_with fail
  gi_region_with ((first | refine ⟨trivial, hdd _, ?_⟩ | skip); first | (gi_at_call 77; refine (callsIn_wide.2 (AL.out _)).mono ?_; rintro e w' ⟨rfl, rfl⟩) | (gi_at_call 76; refine (GR2.out _).mono ?_; rintro e w' ⟨bv, rfl, hpost⟩))
  all_goals
    gi_wp2
    go_end0
    exact ⟨⟨_, rfl⟩, hpost⟩
/-- groups hands back a function that captures the herd -/
theorem groups_in (m : Nat) (a : Option Addr) (n cap : Nat) (w : World) :
    CallsIn Fence.wide m Tryz.prog 45 #[.slice a n cap] w fun e w' => e = .returned (.func (.func 75) #[] #[.pointer (some ⟨w.heap.size, 0, none⟩)]) ∧ w' = w.alloc (.cells #[.slice a n cap] 80) := by
  refine callsIn_of_wp Tryz.func45 rfl trivial ?_ rfl
  simp only [Tryz.ntmps45, List.size_toArray, List.length_cons, List.length_nil, Nat.reduceAdd, Nat.reduceSub, Array.replicate_succ, Array.replicate_zero, List.push_toArray, List.append_toArray, List.nil_append, List.cons_append]
  gi_wp2
  go_ret
  exact ⟨rfl, rfl⟩
theorem grownBy_drew (W : World) : W.grownBy W.drew none := ⟨rfl, rfl, rfl, Nat.le_refl _, fun _ _ _ => rfl⟩
/-- the value that groups hands back yields all groups in order -/
theorem groups_stopsE (m n : Nat) (hn : n ≤ 14) (hn1 : 0 < n) (g Bn n₀ cap : Nat) (H : Nat → Nat) (hH : ∀ i, i < n → H i < 65536) (w : World) (hB : Bn < w.heap.size) (hg : g < n₀) (hn0 : n₀ ≤ w.heap.size) (E : Nat → Nat) (hE : ∀ x, x ∈ cliq H n n 0 (allH n) → E x = x)
    (hBn : w.cell? ⟨Bn, 0, none⟩ = some (.slice (some ⟨g, 0, none⟩) n cap)) (hc : ∀ i, i < n → w.cell? ⟨g, 0 + i, none⟩ = some (.int .u16 ((H i : Nat) : Int))) :
    SeqStopsK Fence.wide m Tryz.prog 75 #[.pointer (some ⟨Bn, 0, none⟩)] (fun x : Nat => #[Value.int .u16 ((E x : Nat) : Int)]) (Below n₀) (fun ys => ys = cliq H n n 0 (allH n)) (fun pre => pre <+: cliq H n n 0 (allH n)) (cliq H n n 0 (allH n)).length w := fun l J Jx W hW hJ _ hY h0 =>
  groups1_in m l n₀ n hn hn1 g Bn cap H hH hg E hE J Jx (fun s W hs => hJ s W W.drew none hs (grownBy_drew W) (fun r h => by cases h)) hY W ((hW.cell (p := ⟨Bn, 0, none⟩) hB).trans hBn) (fun i hi => (hW.cell (p := ⟨g, 0 + i, none⟩) (by simp; omega)).trans (hc i hi)) h0
theorem cliq_lt {H : Nat → Nat} {n x : Nat} (hn : n ≤ 14) (h : x ∈ cliq H n n 0 (allH n)) : x < 65536 := by
  have h1 := ((cliq_all hn).1 h).1
  exact Nat.lt_pow_two_of_testBit (n := 16) x (fun i hi => by
    cases e : x.testBit i
    · rfl
    · have := h1 i e; omega)
theorem groups_stops (m n : Nat) (hn : n ≤ 14) (hn1 : 0 < n) (g Bn n₀ cap : Nat) (H : Nat → Nat) (hH : ∀ i, i < n → H i < 65536) (w : World) (hB : Bn < w.heap.size) (hg : g < n₀) (hn0 : n₀ ≤ w.heap.size)
    (hBn : w.cell? ⟨Bn, 0, none⟩ = some (.slice (some ⟨g, 0, none⟩) n cap)) (hc : ∀ i, i < n → w.cell? ⟨g, 0 + i, none⟩ = some (.int .u16 ((H i : Nat) : Int))) :
    SeqStopsK Fence.wide m Tryz.prog 75 #[.pointer (some ⟨Bn, 0, none⟩)] (fun x : Nat => #[Value.int .u16 ((x % 65536 : Nat) : Int)]) (Below n₀) (fun ys => ys = cliq H n n 0 (allH n)) (fun pre => pre <+: cliq H n n 0 (allH n)) (cliq H n n 0 (allH n)).length w :=
  groups_stopsE m n hn hn1 g Bn n₀ cap H hH w hB hg hn0 (fun x => x % 65536) (fun _ hx => Nat.mod_eq_of_lt (cliq_lt hn hx)) hBn hc
def m16 (x : Nat) : Nat := x % 65536
/-- the first of the greatest ones, of what has come -/
def mostM (pre : List Nat) : Nat := mostL (pre.map m16) 0
theorem mostM_snoc (pre : List Nat) (x : Nat) : mostM (pre ++ [x]) = if size16 (mostM pre) < size16 (m16 x) then m16 x else mostM pre := by
  unfold mostM
  rw [List.map_append, mostL_app]
  rfl
theorem mostL_lt (l : List Nat) : ∀ m, m < 65536 → (∀ x, x ∈ l → x < 65536) → mostL l m < 65536 := by
  induction l with
  | nil => intro m hm _; exact hm
  | cons x l ih =>
    intro m hm h
    show mostL l (if size16 m < size16 x then x else m) < 65536
    refine ih _ ?_ (fun y hy => h y (by simp [hy]))
    split
    · exact h x (by simp)
    · exact hm
theorem mostM_lt (pre : List Nat) : mostM pre < 65536 := mostL_lt _ _ (by decide) (fun x hx => by
  rw [List.mem_map] at hx
  obtain ⟨y, _, rfl⟩ := hx
  exact Nat.mod_lt _ (by decide))
theorem mostM_best {H : Nat → Nat} {n : Nat} (hn : n ≤ 14) : mostM (cliq H n n 0 (allH n)) = best H n := by
  unfold mostM best
  congr 1
  have h : ∀ l : List Nat, (∀ x, x ∈ l → x < 65536) → l.map m16 = l := fun l hl => by
    induction l with
    | nil => rfl
    | cons x l ih =>
      rw [List.map_cons, ih (fun y hy => hl y (by simp [hy]))]
      show x % 65536 :: l = x :: l
      rw [Nat.mod_eq_of_lt (hl x (by simp))]
  refine h _ (fun x hx => ?_)
  have h1 := ((cliq_all hn).1 hx).1
  have h2 : x < 2 ^ 16 := Nat.lt_pow_two_of_testBit x (fun i hi => by
    cases e : x.testBit i
    · rfl
    · have := h1 i e; omega)
  exact h2
theorem cell_box {W : World} {B : Nat} {v : Value} {t : TypeId} (h : W.heap[B]? = some (.cells #[v] t (0, 0))) : W.cell? ⟨B, 0, none⟩ = some v ∧ W.frozen? ⟨B, 0, none⟩ = false := by
  constructor <;> simp [World.cell?, World.frozen?, h]
theorem cell_newbox (W : World) (v : Value) (t : TypeId) : (W.alloc (.cells #[v] t)).cell? ⟨W.heap.size, 0, none⟩ = some v ∧ (W.alloc (.cells #[v] t)).frozen? ⟨W.heap.size, 0, none⟩ = false := cell_box (World.alloc_heap_new W _)
theorem cell_alloced {W : World} {a : Addr} {v : Value} (o : Obj) (h : W.cell? a = some v) : (W.alloc o).cell? a = some v := cell_kept h (World.grownBy_alloc W o none) (fun r e => by cases e)
theorem frozen_alloced {W : World} {a : Addr} {v : Value} (o : Obj) (h : W.cell? a = some v) (hf : W.frozen? a = false) : (W.alloc o).frozen? a = false := (frozen_kept h (World.grownBy_alloc W o none) (fun r e => by cases e)).trans hf
set_option maxRecDepth 100000 in
set_option maxHeartbeats 4000000 in
theorem greatest_in (w : World) (g n cap : Nat) (H : Nat → Nat) (hG : w.rowIs g 84 n (fun i => .int .u16 ((H i : Nat) : Int))) (hH : ∀ i, i < n → H i < 65536) (hn : n ≤ 14) (hn1 : 0 < n) :
    CallsIn Fence.wide 5 Tryz.prog 42 #[.slice (some ⟨g, 0, none⟩) n cap] w fun e w' => e = .returned (.int .u16 ((best H n : Nat) : Int)) ∧ Below w.heap.size w w' := by
  have hdd : ∀ k : Nat, (Fence.wide.depth.isSome = true → 1 ≤ k) := fun k h => by cases h
  have hgl := hG.lt
  refine callsIn_of_wp_marks Tryz.func42 rfl trivial ?_ rfl
  simp only [Tryz.ntmps42, List.size_toArray, List.length_cons, List.length_nil, Nat.reduceAdd, Nat.reduceSub, Array.replicate_succ, Array.replicate_zero, List.push_toArray, List.append_toArray, List.nil_append, List.cons_append]
  gi_wp2_with ((first | refine ⟨trivial, hdd _, ?_⟩ | refine ⟨trivial, ?_⟩ | skip); gi_at_call 45; refine (groups_in _ _ _ _ _).mono ?_; rintro e w' ⟨rfl, rfl⟩)
  have hs := cell_newbox w (.int .u16 0) 84
  have hb := cell_newbox (w.alloc (.cells #[.int .u16 0] 84)) (.slice (some ⟨g, 0, none⟩) n cap) 80
  rw [World.size_alloc] at hb
  have hB2 : Below w.heap.size w ((w.alloc (.cells #[.int .u16 0] 84)).alloc (.cells #[.slice (some ⟨g, 0, none⟩) n cap] 80)) := ((Below.refl _ w).alloc (Nat.le_refl _) _).alloc (by simp) _
  have hc2 : ∀ i, i < n → ((w.alloc (.cells #[.int .u16 0] 84)).alloc (.cells #[.slice (some ⟨g, 0, none⟩) n cap] 80)).cell? ⟨g, 0 + i, none⟩ = some (.int .u16 ((H i : Nat) : Int)) := fun i hi => (hB2.cell (p := ⟨g, 0 + i, none⟩) hgl).trans (by rw [Nat.zero_add]; exact hG.cell hi)
  have hbest := Lib.hid (mostM_best (H := H) hn)
  refine wpIn_rangeFunc_ownF (F := Fence.wide) (n := 5) rfl (by decide) (gf := 75) (lb := #[.pointer (some ⟨w.heap.size + 1, 0, none⟩)]) rfl trivial (enters_of Tryz.func75 (by kernel_rfl) rfl)
    (groups_stops _ n hn hn1 g (w.heap.size + 1) w.heap.size cap H hH _ (by simp) hgl (by simp; omega) hb.1 hc2) belowK_t (belowK_b (by simp; omega)) (Below.refl _ _) (fun _ => rfl)
    (fun pre W => (W.cell? ⟨w.heap.size, 0, none⟩ = some (.int .u16 ((mostM pre : Nat) : Int)) ∧ W.frozen? ⟨w.heap.size, 0, none⟩ = false) ∧ Below w.heap.size w W)
    (fun _ _ _ => False)
    (OwnFrom.and (Own.from (fun s A B row hs hg hr => ⟨cell_kept hs.1 hg hr, (frozen_kept hs.1 hg hr).trans hs.2⟩) _) (ownFrom_below (Nat.le_refl _) (by simp; omega)))
    (fun _ _ _ _ _ hs _ _ => hs)
    ⟨⟨cell_alloced _ hs.1, frozen_alloced _ hs.1 hs.2⟩, hB2⟩
    (fun x => { tmps := #[.slice (some ⟨g, 0, none⟩) n cap, undef, .int .u16 0, .pointer (some ⟨w.heap.size, 0, none⟩), .int .u16 ((x % 65536 : Nat) : Int), .slice (some ⟨g, 0, none⟩) n cap, .func (.func 75) #[] #[.pointer (some ⟨w.heap.size + 1, 0, none⟩)], .int .u16 ((x % 65536 : Nat) : Int), undef, undef, undef, undef, undef, undef, undef], defers := [] }) ?assign ?body ?done ?stop
  case assign =>
    intro l x W K hK
    gi_wp2
    exact hK
  case body =>
    rintro l pre x W ⟨⟨hc, hf⟩, hB⟩ _
    have hsn := Lib.hid (mostM_snoc pre x)
    have hz := mostM_lt pre
    obtain ⟨z, HZ⟩ : ∃ z, Hid (z = mostM pre) := ⟨_, rfl⟩
    obtain ⟨y, HY⟩ : ∃ y, Hid (y = x % 65536) := ⟨_, rfl⟩
    have hy : y < 65536 := by rw [HY.out]; exact Nat.mod_lt _ (by decide)
    rw [← HZ.out] at hc hz hsn
    rw [← HY.out]
    have hsn2 : Hid (mostM (pre ++ [x]) = if size16 z < size16 y then y else z) := by
      have e : m16 x = y := HY.out.symm
      rw [e] at hsn
      exact hsn.out
    clear hs hb hB2 hc2 hsn HZ HY hbest
    have hmx : Tryz.prog.follows .mixedOrders = true := by kernel_rfl
    gi_wp2_with fail
    gi_region_with_o ((first | refine ⟨trivial, hdd _, ?_⟩ | refine ⟨trivial, ?_⟩ | skip); gi_at_call 44; refine (CallsIn.inRound l (callsIn_wide.2 (size_any _ _ (by assumption)))).mono ?_; rintro e w' ⟨rfl, q, rfl⟩)
    all_goals gi_wp2
    all_goals
      have kdn : ∀ k, KeepsOthers W (W.drewN k) := fun k => ⟨Nat.le_refl _, fun _ _ h _ => h⟩
      have bdn : ∀ k, Below w.heap.size W (W.drewN k) := fun k => ⟨rfl, rfl, rfl, Nat.le_refl _, fun _ _ => rfl⟩
      first
        | (refine ⟨(kdn _).trans (KeepsOthers.setCell _ _ _), (bdn _).setCell (p := ⟨w.heap.size, 0, none⟩) (Nat.le_refl _) _, ⟨?_, ?_⟩, hB.trans ((bdn _).setCell (p := ⟨w.heap.size, 0, none⟩) (Nat.le_refl _) _)⟩
           · rw [hsn2.out, if_pos (by assumption)]
             exact World.cell?_setCell_same' _ _ _ (by rw [World.cell?_drewN, hc]; rfl)
           · rw [World.frozen?_setCell, World.frozen?_drewN]
             exact hf)
        | (refine ⟨kdn _, bdn _, ⟨?_, ?_⟩, hB.trans (bdn _)⟩
           · rw [hsn2.out, if_neg (by assumption), World.cell?_drewN]
             exact hc
           · rw [World.frozen?_drewN]
             exact hf)
  case done =>
    rintro D ys W hD rfl ⟨⟨hc, _⟩, hB⟩ hK
    rw [hbest.out] at hc
    gi_wp2
    refine ⟨by simp, .inl ⟨_, _, rfl, run_takeDeferred hK, ?_⟩⟩
    exact ⟨_, results_tmp rfl _ _ _, rfl, hB.trans (belowK_b (w := w) (Nat.le_refl _) W D _ _ (by simp at hD; omega) hK rfl rfl)⟩
  case stop =>
    rintro D c pre W _ _ h _
    exact h.elim
theorem greatest_any (w : World) (g n cap : Nat) (H : Nat → Nat) (hG : w.rowIs g 84 n (fun i => .int .u16 ((H i : Nat) : Int))) (hH : ∀ i, i < n → H i < 65536) (hn : n ≤ 14) (hn1 : 0 < n) :
    Calls Tryz.prog 42 #[.slice (some ⟨g, 0, none⟩) n cap] w fun e w' => e = .returned (.int .u16 ((best H n : Nat) : Int)) ∧ Kept w w' :=
  callsIn_wide.1 ((greatest_in w g n cap H hG hH hn hn1).mono (fun _ _ h => ⟨h.1, Kept.below h.2⟩))
end Go.Proofs.YtlnlddnjalfamaaGreatDoor
