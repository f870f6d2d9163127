/-
  Walks along two outlines: the table of the least distances from each pair on, and Frechet's distance; the program's functions.
-/
import Derived.Test.YtomnjcjipdnnfaaG
import Derived.StillTailTactics
namespace Go.Proofs.Ytomnjcjipdnnfaa
open Go.RowKit Go.Deep

theorem Try.infoRow : (Try.prog.info? 27).map (fun i => (i.zero, i.size, i.bytes)) = some (some (.slice none 0 0), 1, 24) := by kernel_rfl
theorem mkInts (m : Int) (n : Nat) (h : m = n) (hn : n ≤ 1000000) (w : World) :
    (Instr.makeSlice 27 (.int .i64 m) (.int .i64 m)).run Try.prog w = .ok (.slice (some ⟨w.heap.size, 0, none⟩) n n) (w.alloc (.cells (madeCells #[.int .i64 0] n) 3)) := by
  subst h
  exact run_make_row' (P := Try.prog) 27 3 (.int .i64 0) 8 Try.underlying27 Try.info3 rfl .i64 .i64 n (by omega) (by omega) w
theorem mkTop (m : Int) (n : Nat) (h : m = n) (hn : n ≤ 1000000) (w : World) :
    (Instr.makeSlice 39 (.int .i64 m) (.int .i64 m)).run Try.prog w = .ok (.slice (some ⟨w.heap.size, 0, none⟩) n n) (w.alloc (.cells (madeCells #[.slice none 0 0] n) 27)) := by
  subst h
  exact run_make_row' (P := Try.prog) 39 27 (.slice none 0 0) 24 Try.underlying39 Try.infoRow rfl .i64 .i64 n (by omega) (by omega) w
/-- the rows of a table from row r on -/
structure Tab (base : Nat) (w : World) (m n lb : Nat) (br : Nat → Nat) (R : Nat → Nat → Int) (r : Nat) : Prop where
  top : w.rowIs lb 27 m (fun k => if r ≤ k then .slice (some ⟨br k, 0, none⟩) n n else .slice none 0 0)
  row : ∀ k, r ≤ k → k < m → w.rowIs (br k) 3 n (fun q => .int .i64 (R k q))
  lb0 : base ≤ lb
  br0 : ∀ k, r ≤ k → k < m → base ≤ br k
  ne : ∀ k, r ≤ k → k < m → br k ≠ lb
theorem Tab.kept {base : Nat} {w w' : World} {m n lb : Nat} {br : Nat → Nat} {R : Nat → Nat → Int} {r : Nat} (h : Tab base w m n lb br R r) (k : Kept w w') : Tab base w' m n lb br R r :=
  ⟨k.row h.top, fun i h1 h2 => k.row (h.row i h1 h2), h.lb0, h.br0, h.ne⟩
/-- .. and of row i what comes from column c on -/
structure TabC (base : Nat) (w : World) (m n lb : Nat) (br : Nat → Nat) (R : Nat → Nat → Int) (i c : Nat) : Prop where
  top : w.rowIs lb 27 m (fun k => if i ≤ k then .slice (some ⟨br k, 0, none⟩) n n else .slice none 0 0)
  cur : ∃ z : Nat → Int, w.rowIs (br i) 3 n (fun q => .int .i64 (if c ≤ q then R i q else z q))
  row : ∀ k, i < k → k < m → w.rowIs (br k) 3 n (fun q => .int .i64 (R k q))
  lb0 : base ≤ lb
  br0 : ∀ k, i ≤ k → k < m → base ≤ br k
  ne : ∀ k, i ≤ k → k < m → br k ≠ lb
  cr : ∀ k, i < k → k < m → br i ≠ br k
theorem TabC.kept {base : Nat} {w w' : World} {m n lb : Nat} {br : Nat → Nat} {R : Nat → Nat → Int} {i c : Nat} (h : TabC base w m n lb br R i c) (k : Kept w w') : TabC base w' m n lb br R i c :=
  ⟨k.row h.top, by obtain ⟨z, hz⟩ := h.cur; exact ⟨z, k.row hz⟩, fun i h1 h2 => k.row (h.row i h1 h2), h.lb0, h.br0, h.ne, h.cr⟩
theorem TabC.done {base : Nat} {w : World} {m n lb : Nat} {br : Nat → Nat} {R : Nat → Nat → Int} {i : Nat} (h : TabC base w m n lb br R i 0) : Tab base w m n lb br R i :=
  ⟨h.top, fun k h1 h2 => by
    by_cases e : k = i
    · subst e; obtain ⟨z, hz⟩ := h.cur; exact hz.congr (fun q _ => by simp)
    · exact h.row k (by omega) h2, h.lb0, h.br0, h.ne⟩
/-- a value is put into column j of row i -/
theorem TabC.put {base : Nat} {w : World} {m n lb : Nat} {br : Nat → Nat} {R : Nat → Nat → Int} {i j : Nat} (h : TabC base w m n lb br R i (j + 1)) (hi : i < m) {v : Int} (hv : v = R i j) : TabC base (w.setCell ⟨br i, j, none⟩ (.int .i64 v)) m n lb br R i j :=
  ⟨h.top.setOther (a := ⟨br i, j, none⟩) (Ne.symm (h.ne i (Nat.le_refl _) hi)) _, by
    obtain ⟨z, hz⟩ := h.cur
    refine ⟨z, (hz.set j _).congr (fun q _ => ?_)⟩
    by_cases e : q = j
    · subst e; rw [if_pos rfl, if_pos (Nat.le_refl _), hv]
    · rw [if_neg e]
      by_cases e2 : j + 1 ≤ q
      · rw [if_pos e2, if_pos (by omega)]
      · rw [if_neg e2, if_neg (by omega)], fun k h1 h2 => (h.row k h1 h2).setOther (a := ⟨br i, j, none⟩) (h.cr k h1 h2).symm _, h.lb0, h.br0, h.ne, h.cr⟩
/-- a first value is put there, which another one will replace -/
theorem TabC.pre {base : Nat} {w : World} {m n lb : Nat} {br : Nat → Nat} {R : Nat → Nat → Int} {i j : Nat} (h : TabC base w m n lb br R i (j + 1)) (hi : i < m) (v : Int) : TabC base (w.setCell ⟨br i, j, none⟩ (.int .i64 v)) m n lb br R i (j + 1) :=
  ⟨h.top.setOther (a := ⟨br i, j, none⟩) (Ne.symm (h.ne i (Nat.le_refl _) hi)) _, by
    obtain ⟨z, hz⟩ := h.cur
    refine ⟨fun q => if q = j then v else z q, (hz.set j _).congr (fun q _ => ?_)⟩
    by_cases e : q = j
    · subst e; rw [if_pos rfl, if_neg (by omega)]; simp
    · rw [if_neg e]
      by_cases e2 : j + 1 ≤ q
      · rw [if_pos e2, if_pos e2]
      · rw [if_neg e2, if_neg e2]; simp [e], fun k h1 h2 => (h.row k h1 h2).setOther (a := ⟨br i, j, none⟩) (h.cr k h1 h2).symm _, h.lb0, h.br0, h.ne, h.cr⟩
theorem TabC.topAt {base : Nat} {w : World} {m n lb : Nat} {br : Nat → Nat} {R : Nat → Nat → Int} {i c : Nat} (h : TabC base w m n lb br R i c) {k : Nat} (h1 : i ≤ k) (h2 : k < m) : w.cell? ⟨lb, k, none⟩ = some (.slice (some ⟨br k, 0, none⟩) n n) := by
  have := h.top.cell h2
  rw [if_pos h1] at this; exact this
theorem TabC.at {base : Nat} {w : World} {m n lb : Nat} {br : Nat → Nat} {R : Nat → Nat → Int} {i c : Nat} (h : TabC base w m n lb br R i c) {p q : Nat} (h1 : i ≤ p) (h2 : p < m) (h3 : q < n) (h4 : p = i → c ≤ q) : w.cell? ⟨br p, q, none⟩ = some (.int .i64 (R p q)) := by
  by_cases e : p = i
  · subst e
    obtain ⟨z, hz⟩ := h.cur
    have := hz.cell h3
    rw [if_pos (h4 rfl)] at this; exact this
  · exact (h.row p (by omega) h2).cell h3
theorem TabC.can {base : Nat} {w : World} {m n lb : Nat} {br : Nat → Nat} {R : Nat → Nat → Int} {i c : Nat} (h : TabC base w m n lb br R i c) {q : Nat} (h3 : q < n) : (∃ v, w.cell? ⟨br i, q, none⟩ = some v) ∧ w.frozen? ⟨br i, q, none⟩ = false := by
  obtain ⟨z, hz⟩ := h.cur
  exact ⟨⟨_, hz.cell h3⟩, hz.frozen q⟩
theorem TabC.close {base : Nat} {w : World} {m n lb : Nat} {br : Nat → Nat} {R : Nat → Nat → Int} {i j : Nat} (h : TabC base w m n lb br R i (j + 1)) (hj : j < n) (hc : w.cell? ⟨br i, j, none⟩ = some (.int .i64 (R i j))) : TabC base w m n lb br R i j :=
  ⟨h.top, by
    obtain ⟨z, hz⟩ := h.cur
    have h1 := hz.cell hj
    rw [if_neg (by omega), hc] at h1
    refine ⟨z, hz.congr (fun q _ => ?_)⟩
    by_cases e : q = j
    · subst e
      rw [if_neg (by omega), if_pos (Nat.le_refl _)]
      exact (Option.some.inj h1).symm
    · by_cases e2 : j + 1 ≤ q
      · rw [if_pos e2, if_pos (by omega)]
      · rw [if_neg e2, if_neg (by omega)], h.row, h.lb0, h.br0, h.ne, h.cr⟩
/-- a new row -/
theorem Tab.newRow {base : Nat} {w : World} {m n lb : Nat} {br : Nat → Nat} {R : Nat → Nat → Int} {i : Nat} (h : Tab base w m n lb br R (i + 1)) (hb : base ≤ w.heap.size) :
    TabC base ((w.alloc (.cells (madeCells #[.int .i64 0] n) 3)).setCell ⟨lb, i, none⟩ (.slice (some ⟨w.heap.size, 0, none⟩) n n)) m n lb (fun k => if k = i then w.heap.size else br k) R i n := by
  have hl := h.top.lt
  refine ⟨((h.top.alloc _).set i _).congr (fun k _ => ?_), ⟨fun _ => 0, ?_⟩, fun k h1 h2 => ?_, h.lb0, fun k h1 h2 => ?_, fun k h1 h2 => ?_, fun k h1 h2 => ?_⟩
  · by_cases e : k = i
    · subst e; simp
    · rw [if_neg e]
      by_cases e2 : i + 1 ≤ k
      · rw [if_pos e2, if_pos (by omega), if_neg e]
      · rw [if_neg e2, if_neg (by omega)]
  · have h1 := (World.rowIs_made w (.int .i64 0) n 3).setOther (a := ⟨lb, i, none⟩) (show w.heap.size ≠ lb by omega) (.slice (some ⟨w.heap.size, 0, none⟩) n n)
    rw [if_pos rfl]
    exact h1.congr (fun q hq => by rw [if_neg (by omega)])
  · show World.rowIs _ (if k = i then _ else _) _ _ _
    rw [if_neg (by omega)]
    exact ((h.row k (by omega) h2).alloc _).setOther (a := ⟨lb, i, none⟩) (h.ne k (by omega) h2) _
  · show base ≤ if k = i then _ else _
    by_cases e : k = i
    · rw [if_pos e]; exact hb
    · rw [if_neg e]; exact h.br0 k (by omega) h2
  · show (if k = i then _ else _) ≠ lb
    by_cases e : k = i
    · rw [if_pos e]; omega
    · rw [if_neg e]; exact h.ne k (by omega) h2
  · show (if i = i then _ else _) ≠ if k = i then _ else _
    rw [if_pos rfl, if_neg (by omega)]
    have := (h.row k (by omega) h2).lt
    omega
theorem join_max (w : World) (a b : Int) : Calls Try.prog 73 #[.int .i64 a, .int .i64 b] w fun e w' => e = .returned (.int .i64 (max a b)) ∧ w' = w := by
  go_enter Try.func73, Try.ntmps73
  go_wp2
  all_goals
    go_ret
    exact ⟨ret_int (by omega), rfl⟩
theorem kp4 {w w' : World} {a1 a2 a3 a4 : Addr} {v1 v2 v3 v4 : Value} (h1 : w.cell? a1 = some v1) (h2 : w.cell? a2 = some v2) (h3 : w.cell? a3 = some v3) (h4 : w.cell? a4 = some v4) (hk : Kept w w') : w'.cell? a1 = some v1 ∧ w'.cell? a2 = some v2 ∧ w'.cell? a3 = some v3 ∧ w'.cell? a4 = some v4 := ⟨hk.cellSome h1, hk.cellSome h2, hk.cellSome h3, hk.cellSome h4⟩
theorem kp4s {w w' : World} {a1 a2 a3 a4 p : Addr} {v1 v2 v3 v4 v : Value} (h1 : w.cell? a1 = some v1) (h2 : w.cell? a2 = some v2) (h3 : w.cell? a3 = some v3) (h4 : w.cell? a4 = some v4) (n1 : p.block ≠ a1.block) (n2 : p.block ≠ a2.block) (n3 : p.block ≠ a3.block) (n4 : p.block ≠ a4.block) (hk : Kept w w') :
    (w'.setCell p v).cell? a1 = some v1 ∧ (w'.setCell p v).cell? a2 = some v2 ∧ (w'.setCell p v).cell? a3 = some v3 ∧ (w'.setCell p v).cell? a4 = some v4 :=
  ⟨(World.cell?_setCell_far _ _ _ _ n1).trans (hk.cellSome h1), (World.cell?_setCell_far _ _ _ _ n2).trans (hk.cellSome h2), (World.cell?_setCell_far _ _ _ _ n3).trans (hk.cellSome h3), (World.cell?_setCell_far _ _ _ _ n4).trans (hk.cellSome h4)⟩
theorem last_at (w : World) (m n p q : Nat) (fv : Value) (hp : p = m - 1) (hq : q = n - 1) (hm : 1 ≤ m) (hn : 1 ≤ n) (hm2 : m ≤ 1000000) (hn2 : n ≤ 1000000) :
    Calls Try.prog 76 #[.agg #[.int .i64 m, .int .i64 n, fv]] w fun e w' => e = .returned (.agg #[.int .i64 p, .int .i64 q]) ∧ Kept w w' := by subst hp; subst hq; exact last_any w m n fv hm hn hm2 hn2
theorem next_at (w : World) (m n i j lb px py : Nat) (br : Nat → Nat) (L : Nat → Nat → Int) (fv : Value) (hp : nxt m n L i j = (px, py)) (hi : i < m) (hj : j < n) (hl : ¬ (i + 1 = m ∧ j + 1 = n)) (hm2 : m ≤ 1000000) (hn2 : n ≤ 1000000)
    (hL : ∀ p q, p < m → q < n → i ≤ p → j ≤ q → i + j < p + q → p ≤ i + 1 → q ≤ j + 1 → w.cell? ⟨lb, p, none⟩ = some (.slice (some ⟨br p, 0, none⟩) n n) ∧ w.cell? ⟨br p, q, none⟩ = some (.int .i64 (L p q))) :
    Calls Try.prog 77 #[.agg #[.int .i64 m, .int .i64 n, fv], .agg #[.int .i64 i, .int .i64 j], .slice (some ⟨lb, 0, none⟩) m m] w fun e w' => e = .returned (.agg #[.int .i64 px, .int .i64 py]) ∧ Kept w w' := by
  have h := next_any w m n i j lb br L fv hi hj hl hm2 hn2 hL
  rw [hp] at h
  exact h
theorem neq_no (i j : Nat) (w : World) : (binOp .neq 98 (.agg #[.int .i64 i, .int .i64 j]) (.agg #[.int .i64 i, .int .i64 j])).run Try.prog w = .ok (.bool false) w := by
  go_simp
theorem neq_yes (i j p q : Nat) (h : ¬ (i = p ∧ j = q)) (w : World) : (binOp .neq 98 (.agg #[.int .i64 i, .int .i64 j]) (.agg #[.int .i64 p, .int .i64 q])).run Try.prog w = .ok (.bool true) w := by
  by_cases hx : i = p
  · have z1 : ((i : Int) == (p : Int)) = true := by simp [hx]
    have z2 : ((j : Int) == (q : Int)) = false := by simp; omega
    clear h hx
    go_simp
  · have z1 : ((i : Int) == (p : Int)) = false := by simp; omega
    clear h hx
    go_simp
theorem kp5 {w w' : World} {a1 a2 a3 a4 a5 : Addr} {v1 v2 v3 v4 v5 : Value} (h1 : w.cell? a1 = some v1) (h2 : w.cell? a2 = some v2) (h3 : w.cell? a3 = some v3) (h4 : w.cell? a4 = some v4) (h5 : w.cell? a5 = some v5) (hk : Kept w w') : w'.cell? a1 = some v1 ∧ w'.cell? a2 = some v2 ∧ w'.cell? a3 = some v3 ∧ w'.cell? a4 = some v4 ∧ w'.cell? a5 = some v5 := ⟨hk.cellSome h1, hk.cellSome h2, hk.cellSome h3, hk.cellSome h4, hk.cellSome h5⟩
def LeastPost (w : World) (m n : Nat) (R : Nat → Nat → Int) (e : Ending) (w' : World) : Prop := ∃ (lb : Nat) (br : Nat → Nat), e = .returned (.slice (some ⟨lb, 0, none⟩) m m) ∧ Kept w w' ∧ Tab w.heap.size w' m n lb br R 0
/-- a function that tells the distance of a pair: two outlines, captured -/
def FarV (ba bb : Nat) : Value := .func (.func 71) #[] #[.pointer (some ⟨ba, 0, none⟩), .pointer (some ⟨bb, 0, none⟩)]
set_option maxRecDepth 100000 in
set_option maxHeartbeats 4000000 in
theorem leastF_any (w : World) (m n ba bb b1 o1 cap1 b2 o2 cap2 : Nat) (X Y U V : Nat → Int) (R : Nat → Nat → Int) (hRR : R = rst max (fun i j => dist (X i) (Y i) (U j) (V j)) m n) (ha : w.cell? ⟨ba, 0, none⟩ = some (.slice (some ⟨b1, o1, none⟩) m cap1)) (hb : w.cell? ⟨bb, 0, none⟩ = some (.slice (some ⟨b2, o2, none⟩) n cap2))
    (hA : ∀ i, i < m → w.cell? ⟨b1, o1 + i * 2, none⟩ = some (.int .i64 (X i)) ∧ w.cell? ⟨b1, o1 + i * 2 + 1, none⟩ = some (.int .i64 (Y i))) (hB : ∀ j, j < n → w.cell? ⟨b2, o2 + j * 2, none⟩ = some (.int .i64 (U j)) ∧ w.cell? ⟨b2, o2 + j * 2 + 1, none⟩ = some (.int .i64 (V j)))
    (h1 : InR m X Y) (h2 : InR n U V) (hm : 1 ≤ m) (hn : 1 ≤ n) (hm2 : m ≤ 1000) (hn2 : n ≤ 1000) :
    Calls Try.prog 72 #[WalksV m n (FarV ba bb), .func (.func 73) #[] #[]] w (LeastPost w m n R) := by
  have HA := Lib.hid hA
  have HB := Lib.hid hB
  have HR1 := Lib.hid h1
  have HR2 := Lib.hid h2
  have HRR := Lib.hid hRR
  have hmk := fun W => mkInts (n : Int) n rfl (by omega) W
  have hmt := fun W => mkTop (m : Int) m rfl (by omega) W
  clear hA hB h1 h2 hRR
  unfold WalksV FarV
  go_enter Try.func72, Try.ntmps72
  have hG0 : (w.alloc (.cells #[.int .i64 m, .int .i64 n, .func (.func 71) #[] #[.pointer (some ⟨ba, 0, none⟩), .pointer (some ⟨bb, 0, none⟩)]] 89)).rowIs w.heap.size 89 3 (fun t => if t = 0 then .int .i64 m else if t = 1 then .int .i64 n else FarV ba bb) := World.rowIs_alloc w _ _ _ (fun t ht => by
    have : t = 0 ∨ t = 1 ∨ t = 2 := by simp at ht; omega
    rcases this with rfl | rfl | rfl <;> rfl)
  have hT0 := World.rowIs_made (w.alloc (.cells #[.int .i64 m, .int .i64 n, .func (.func 71) #[] #[.pointer (some ⟨ba, 0, none⟩), .pointer (some ⟨bb, 0, none⟩)]] 89)) (.slice none 0 0) m 27
  rw [nblk_alloc] at hT0
  have hK0 : Kept w ((w.alloc (.cells #[.int .i64 m, .int .i64 n, .func (.func 71) #[] #[.pointer (some ⟨ba, 0, none⟩), .pointer (some ⟨bb, 0, none⟩)]] 89)).alloc (.cells (madeCells #[.slice none 0 0] m) 27)) := ((Kept.refl w).alloc _).alloc _
  have hG1 := hG0.alloc (.cells (madeCells #[.slice none 0 0] m) 27)
  clear hG0
  go_wp2_with fail
  generalize (w.alloc (.cells #[.int .i64 m, .int .i64 n, .func (.func 71) #[] #[.pointer (some ⟨ba, 0, none⟩), .pointer (some ⟨bb, 0, none⟩)]] 89)).alloc (.cells (madeCells #[.slice none 0 0] m) 27) = W0 at *
  obtain ⟨g, HG⟩ : ∃ g, Hid (g = w.heap.size) := ⟨_, rfl⟩
  obtain ⟨lb, HLB⟩ : ∃ lb, Hid (lb = w.heap.size + 1) := ⟨_, rfl⟩
  rw [← HLB.out] at hT0 ⊢
  rw [← HG.out] at hG1 ⊢
  have hlb : w.heap.size ≤ lb := by rw [HLB.out]; omega
  have hgl : g ≠ lb := by rw [HLB.out, HG.out]; omega
  clear HLB HG hmt
  have hTab : Tab w.heap.size W0 m n lb (fun _ => 0) R m := ⟨hT0.congr (fun k hk => by rw [if_neg (by omega)]), fun k h1 h2 => by omega, hlb, fun k h1 h2 => by omega, fun k h1 h2 => by omega⟩
  clear hT0
  go_loopg [6] m (fun gg s6 wr => ∃ (r : Nat) (br : Nat → Nat), r ≤ m ∧ gg = r ∧ s6 = .int .i64 ((r : Int) - 1) ∧ Kept w wr ∧ wr.rowIs g 89 3 (fun t => if t = 0 then .int .i64 m else if t = 1 then .int .i64 n else FarV ba bb) ∧ Tab w.heap.size wr m n lb br R r ∧ Hid (∀ k, r ≤ k → k < m → br k ≠ g))
  case atStart => exact ⟨m, _, Nat.le_refl _, rfl, rfl, hK0, hG1, hTab, fun k h1 h2 => by omega⟩
  case round =>
    obtain ⟨r, br, hr, hgk, hs, hK, hGr, hTr, hBG⟩ := hrel
    obtain rfl : r = gk := hgk.symm
    clear hgk
    clear hK0 hG1 hTab
    cases r with
    | zero =>
      have hs' : u6 = Value.int .i64 (-1) := hs
      subst hs'
      clear hs
      go_wp2_with fail
      go_ret
      exact ⟨lb, br, rfl, hK, hTr⟩
    | succ i =>
      have hs' : u6 = Value.int .i64 (i : Int) := by rw [hs]; congr 1; omega
      subst hs'
      clear hs
      have e0 := hGr.cell (i := 1) (by omega)
      have e0' := (hGr.alloc (.cells (madeCells #[.int .i64 0] n) 3)).cell (i := 1) (by omega)
      simp only [Nat.one_ne_zero, if_true, if_false] at e0 e0'
      have e1 := (hTr.top.alloc (.cells (madeCells #[.int .i64 0] n) 3)).cell (show i < m by omega)
      rw [if_neg (by omega)] at e1
      have e2 := (hTr.top.alloc (.cells (madeCells #[.int .i64 0] n) 3)).frozen i
      have s1 : (0 : Int) ≤ (i : Int) := by omega
      have s2 : (i : Int) < (m : Int) := by omega
      have hNew := hTr.newRow (Kept.size hK)
      have hKn : Kept w ((wr.alloc (.cells (madeCells #[.int .i64 0] n) 3)).setCell ⟨lb, i, none⟩ (.slice (some ⟨wr.heap.size, 0, none⟩) n n)) := (hK.alloc _).setCell (p := ⟨lb, i, none⟩) hlb _
      have hGn := (hGr.alloc (.cells (madeCells #[.int .i64 0] n) 3)).setOther (a := ⟨lb, i, none⟩) hgl (.slice (some ⟨wr.heap.size, 0, none⟩) n n)
      have hBn : Hid (∀ k, i ≤ k → k < m → (if k = i then wr.heap.size else br k) ≠ g) := fun k h1 h2 => by
        have := hGr.lt
        by_cases e : k = i
        · rw [if_pos e]; omega
        · rw [if_neg e]; exact hBG.out k (by omega) h2
      clear hTr hBG hGr hK
      have f1 := hGn.cell (i := 1) (by omega)
      simp only [Nat.one_ne_zero, if_true, if_false] at f1
      go_wp2_with fail
      clear e0 e0' e1 e2 f1
      obtain ⟨br', HBR⟩ : ∃ br' : Nat → Nat, Hid (br' = fun k => if k = i then wr.heap.size else br k) := ⟨_, rfl⟩
      rw [← HBR.out] at hNew
      have hBn' : Hid (∀ k, i ≤ k → k < m → br' k ≠ g) := by rw [HBR.out]; exact hBn.out
      clear hBn HBR
      generalize (wr.alloc (.cells (madeCells #[.int .i64 0] n) 3)).setCell ⟨lb, i, none⟩ (.slice (some ⟨wr.heap.size, 0, none⟩) n n) = W1 at *
      go_loopg [7] n (fun gg s7 wi => ∃ c : Nat, c ≤ n ∧ gg = c ∧ s7 = .int .i64 ((c : Int) - 1) ∧ Kept w wi ∧ wi.rowIs g 89 3 (fun t => if t = 0 then .int .i64 m else if t = 1 then .int .i64 n else FarV ba bb) ∧ TabC w.heap.size wi m n lb br' R i c)
      case atStart => exact ⟨n, Nat.le_refl _, rfl, rfl, hKn, hGn, hNew⟩
      case round =>
        obtain ⟨c, hc, hgk, hs, hK, hGr, hT⟩ := hrel
        obtain rfl : c = gk := hgk.symm
        clear hgk hKn hGn hNew
        cases c with
        | zero =>
          have hs' : u7 = Value.int .i64 (-1) := hs
          subst hs'
          clear hs
          have s3 : IntKind.i64.wrap ((i : Int) - 1) = (i : Int) - 1 := IntWalk.i64_in _ (by omega)
          go_wp2_with fail
          go_roundg i
          case measure => omega
          case rel => exact ⟨i, br', by omega, rfl, rfl, hK, hGr, hT.done, hBn'⟩
        | succ j =>
          have hs' : u7 = Value.int .i64 (j : Int) := by rw [hs]; congr 1; omega
          subst hs'
          clear hs
          have s3 : (0 : Int) ≤ (j : Int) := by omega
          have s4 : (j : Int) < (n : Int) := by omega
          go_wp2_with fail
          have hkA := (Kept.refl wr).alloc (.cells #[.int .i64 i, .int .i64 j] 98)
          obtain ⟨q0, q1⟩ := box2 wr (.int .i64 i) (.int .i64 j) 98
          have hKW := hK.trans hkA
          have hTW := hT.kept hkA
          have hGW := hkA.row hGr
          have hgw := hGr.lt
          have habr : ∀ k, i ≤ k → k < m → br' k ≠ wr.heap.size := fun k h1 h2 => by
            by_cases e : k = i
            · subst e; obtain ⟨z, hz⟩ := hT.cur; have := hz.lt; omega
            · have := (hT.row k (by omega) h2).lt; omega
          have habl : lb ≠ wr.heap.size := by have := hT.top.lt; omega
          obtain ⟨ab, HAB⟩ : ∃ ab, Hid (ab = wr.heap.size) := ⟨_, rfl⟩
          rw [← HAB.out] at q0 q1 habr habl hgw ⊢
          clear hK hT hGr hkA
          generalize wr.alloc (.cells #[.int .i64 i, .int .i64 j] 98) = W at *
          have t1 := hTW.topAt (Nat.le_refl i) (by omega)
          have f2 := hGW.cell (i := 2) (by omega)
          rw [if_neg (by omega), if_neg (by omega)] at f2
          unfold FarV at f2
          have hbg := hBn'.out i (Nat.le_refl _) (by omega)
          have hbl := hTW.ne i (Nat.le_refl _) (by omega)
          have hba := habr i (Nat.le_refl _) (by omega)
          have HKP := Lib.hid (fun (W' : World) (hk : Kept W W') (v : Value) => kp4s (p := ⟨br' i, j, none⟩) (v := v) t1 f2 q0 q1 hbl hbg hba hba hk)
          obtain ⟨⟨v0, c0⟩, z0⟩ := hTW.can (show j < n by omega)
          obtain ⟨d, HD⟩ : ∃ d, Hid (d = dist (X i) (Y i) (U j) (V j)) := ⟨_, rfl⟩
          go_region_held3 (fun w' => w'.cell? ⟨lb, i, none⟩ = some (.slice (some ⟨br' i, 0, none⟩) n n) ∧ w'.cell? ⟨g, 2, none⟩ = some (.func (.func 71) #[] #[.pointer (some ⟨ba, 0, none⟩), .pointer (some ⟨bb, 0, none⟩)]) ∧ w'.cell? ⟨ab, 0, none⟩ = some (.int .i64 i) ∧ w'.cell? ⟨ab, 1, none⟩ = some (.int .i64 j))
            (first | exact HKP.out _ hKc _ | exact kp4 t1 f2 q0 q1 (by repeat (first | assumption | exact Kept.refl _ | apply Kept.drew | apply Kept.drewN | apply Kept.alloc | refine Kept.trans ?_ (by assumption))))
            (first | (go_at_call 71; refine (between1_any _ m n i j ba bb b1 o1 cap1 b2 o2 cap2 X Y U V (Kept.cellSome (by repeat (first | assumption | exact Kept.refl _ | apply Kept.drew | apply Kept.drewN | apply Kept.alloc | refine Kept.trans ?_ (by assumption))) ha) (Kept.cellSome (by repeat (first | assumption | exact Kept.refl _ | apply Kept.drew | apply Kept.drewN | apply Kept.alloc | refine Kept.trans ?_ (by assumption))) hb) (by omega) (by omega) (Kept.cellSome (by repeat (first | assumption | exact Kept.refl _ | apply Kept.drew | apply Kept.drewN | apply Kept.alloc | refine Kept.trans ?_ (by assumption))) (HA.out i (by omega)).1) (Kept.cellSome (by repeat (first | assumption | exact Kept.refl _ | apply Kept.drew | apply Kept.drewN | apply Kept.alloc | refine Kept.trans ?_ (by assumption))) (HA.out i (by omega)).2) (Kept.cellSome (by repeat (first | assumption | exact Kept.refl _ | apply Kept.drew | apply Kept.drewN | apply Kept.alloc | refine Kept.trans ?_ (by assumption))) (HB.out j (by omega)).1) (Kept.cellSome (by repeat (first | assumption | exact Kept.refl _ | apply Kept.drew | apply Kept.drewN | apply Kept.alloc | refine Kept.trans ?_ (by assumption))) (HB.out j (by omega)).2) (HR1.out i (by omega)).1 (HR1.out i (by omega)).2 (HR2.out j (by omega)).1 (HR2.out j (by omega)).2).mono ?_; rw [← HD.out]; rintro e w2 ⟨rfl, hk2⟩; have hKc : Kept W w2 := (by repeat (first | assumption | exact Kept.refl _ | apply Kept.drew | apply Kept.drewN | apply Kept.alloc | refine Kept.trans ?_ (by assumption))); have c0' := hKc.cellSome c0; have z0' := (hTW.kept hKc).can (show j < n by omega)))
          have hT2 := (hTW.kept hKc).pre (show i < m by omega) d
          have hK2 : Kept w (w2.setCell ⟨br' i, j, none⟩ (.int .i64 d)) := (hKW.trans hKc).setCell (p := ⟨br' i, j, none⟩) (hTW.br0 i (Nat.le_refl _) (by omega)) _
          have hG2 := (hKc.row hGW).setOther (a := ⟨br' i, j, none⟩) hbg.symm (.int .i64 d)
          obtain ⟨k1, k2, k3, k4⟩ := HKP.out _ hKc (.int .i64 d)
          have dd0 : (w2.setCell ⟨br' i, j, none⟩ (.int .i64 d)).cell? ⟨br' i, j, none⟩ = some (.int .i64 d) := World.cell?_setCell_same' _ _ _ (by rw [c0']; rfl)
          clear t1 f2 q0 q1 c0 z0 c0' z0' HKP hTW hKW hGW hk2
          go_wp2_with fail
          have hab2 : ab < (w2.setCell ⟨br' i, j, none⟩ (.int .i64 d)).heap.size := World.block_lt_of_cell? _ _ k3
          generalize w2.setCell ⟨br' i, j, none⟩ (.int .i64 d) = W3 at *
          have g0 := hG2.cell (i := 0) (by omega)
          have g1 := hG2.cell (i := 1) (by omega)
          rw [if_pos rfl] at g0
          rw [if_neg (by omega), if_pos rfl] at g1
          have hd : d = dist (X i) (Y i) (U j) (V j) := HD.out
          have hdb := dist_bd (HR1.out i (by omega)).1 (HR1.out i (by omega)).2 (HR2.out j (by omega)).1 (HR2.out j (by omega)).2
          rw [← hd] at hdb
          have heq := rst_eq (jn := max) (F := fun i j => dist (X i) (Y i) (U j) (V j)) (m := m) (n := n) (i := i) (j := j) (by omega) (by omega)
          rw [← HRR.out] at heq
          by_cases hlast : i + 1 = m ∧ j + 1 = n
          · have hR : d = R i j := by rw [heq, if_pos hlast]; exact hd
            have hT3 := hT2
            have HRV := Lib.hid hR
            have hne := neq_no i j
            have p1 : i = m - 1 := by omega
            have p2 : j = n - 1 := by omega
            have HP1 := Lib.hid p1
            have HP2 := Lib.hid p2
            clear heq hd hR p1 p2
            go_region_held3 (fun w' => w'.cell? ⟨ab, 0, none⟩ = some (.int .i64 i) ∧ w'.cell? ⟨ab, 1, none⟩ = some (.int .i64 j) ∧ w'.cell? ⟨g, 0, none⟩ = some (.int .i64 m) ∧ w'.cell? ⟨g, 1, none⟩ = some (.int .i64 n) ∧ w'.cell? ⟨g, 2, none⟩ = some (.func (.func 71) #[] #[.pointer (some ⟨ba, 0, none⟩), .pointer (some ⟨bb, 0, none⟩)]))
              (exact kp5 k3 k4 g0 g1 k2 (by repeat (first | assumption | exact Kept.refl _ | apply Kept.drew | apply Kept.drewN | apply Kept.alloc | refine Kept.trans ?_ (by assumption))))
              (first | (go_at_call 76; refine (last_at _ m n i j _ HP1.out HP2.out hm hn (by omega) (by omega)).mono ?_; rintro e w4 ⟨rfl, hk4⟩))
            all_goals
              have hK4 : Kept W3 w4 := (by repeat (first | assumption | exact Kept.refl _ | apply Kept.drew | apply Kept.drewN | apply Kept.alloc | refine Kept.trans ?_ (by assumption)))
              have hT4 := (hT2.kept hK4).close (show j < n by omega) (hK4.cellSome (by rw [← HRV.out]; exact dd0))
              have hG4 := hK4.row hG2
              have s5 : IntKind.i64.wrap ((j : Int) - 1) = (j : Int) - 1 := IntWalk.i64_in _ (by omega)
              clear k1 k2 k3 k4 g0 g1 dd0 hdb
              go_wp2_with fail
              go_roundg j
              case measure => omega
              case rel => exact ⟨j, by omega, rfl, rfl, hK2.trans hK4, hG4, hT4⟩
          · have hne := neq_yes i j (m - 1) (n - 1) (by omega)
            obtain ⟨p1, hp1⟩ : ∃ p1, p1 = m - 1 := ⟨_, rfl⟩
            obtain ⟨p2, hp2⟩ : ∃ p2, p2 = n - 1 := ⟨_, rfl⟩
            rw [← hp1, ← hp2] at hne
            have HP1 := Lib.hid hp1
            have HP2 := Lib.hid hp2
            have hR : R i j = max d (best3 m n R i j) := by rw [heq, if_neg hlast, hd]
            have HRV := Lib.hid hR
            have HLA := Lib.hid hlast
            clear heq hd hR hp1 hp2
            go_region_held3 (fun w' => w'.cell? ⟨ab, 0, none⟩ = some (.int .i64 i) ∧ w'.cell? ⟨ab, 1, none⟩ = some (.int .i64 j) ∧ w'.cell? ⟨g, 0, none⟩ = some (.int .i64 m) ∧ w'.cell? ⟨g, 1, none⟩ = some (.int .i64 n) ∧ w'.cell? ⟨g, 2, none⟩ = some (.func (.func 71) #[] #[.pointer (some ⟨ba, 0, none⟩), .pointer (some ⟨bb, 0, none⟩)]))
              (exact kp5 k3 k4 g0 g1 k2 (by repeat (first | assumption | exact Kept.refl _ | apply Kept.drew | apply Kept.drewN | apply Kept.alloc | refine Kept.trans ?_ (by assumption))))
              (first | (go_at_call 76; refine (last_at _ m n p1 p2 _ HP1.out HP2.out hm hn (by omega) (by omega)).mono ?_; rintro e w4 ⟨rfl, hk4⟩))
            all_goals
              have hK4 : Kept W3 w4 := (by repeat (first | assumption | exact Kept.refl _ | apply Kept.drew | apply Kept.drewN | apply Kept.alloc | refine Kept.trans ?_ (by assumption)))
              have hT4 := hT2.kept hK4
              have hG4 := hK4.row hG2
              have hKw4 := hK2.trans hK4
              have kk1 := hK4.cellSome k1
              have kk2 := hK4.cellSome k2
              have kk3 := hK4.cellSome k3
              have kk4 := hK4.cellSome k4
              have gg0 := hK4.cellSome g0
              have gg1 := hK4.cellSome g1
              have dd1 := hK4.cellSome dd0
              have hab4 : ab < w4.heap.size := World.block_lt_of_cell? _ _ kk3
              clear k1 k2 k3 k4 g0 g1 dd0 hT2 hG2 hK2 hK4 hk4 hne hab2
              go_wp2_with fail
              obtain ⟨px, py, hpp⟩ : ∃ px py, nxt m n R i j = (px, py) := ⟨_, _, rfl⟩
              have hsp := nxt_spec (m := m) (n := n) (L := R) (i := i) (j := j) (by omega) (by omega) HLA.out
              rw [hpp] at hsp
              obtain ⟨n1, n2, n3, n4, n5, n6, n7, n8⟩ := hsp
              have n1' : px < m := n1
              have n2' : py < n := n2
              have n3' : i ≤ px := n3
              have n4' : j ≤ py := n4
              have n5' : i + j < px + py := n5
              have hbv : R px py = best3 m n R i j := n8
              have HBV := Lib.hid hbv
              have HPP := Lib.hid hpp
              clear n1 n2 n3 n4 n5 n6 n7 n8 hbv hpp
              refine (next_at _ m n i j lb px py br' R _ HPP.out (by omega) (by omega) HLA.out (by omega) (by omega) (fun p q h1 h2 h3 h4 h5 _ _ => ⟨hT4.topAt h3 h1, hT4.at h3 h1 h2 (fun e => by omega)⟩)).mono ?_
              rintro e w5 ⟨rfl, hk5⟩
              have hkB := hk5.alloc (.cells #[.int .i64 px, .int .i64 py] 98)
              obtain ⟨b0, b1'⟩ := box2 w5 (.int .i64 px) (.int .i64 py) 98
              have hT6 := hT4.kept hkB
              have hG6 := hkB.row hG4
              have hK6 := hKw4.trans hkB
              have m1 := hT6.topAt (Nat.le_refl i) (show i < m by omega)
              have m2 := hT6.topAt n3' n1'
              have m3 := hT6.at n3' n1' n2' (fun e => by omega)
              have m4 := hkB.cellSome dd1
              have m5 := (hT6.can (show j < n by omega)).2
              have y1 : (px : Int) < (m : Int) := by omega
              have y2 : (py : Int) < (n : Int) := by omega
              have y3 : (0 : Int) ≤ (px : Int) := by omega
              have y4 : (0 : Int) ≤ (py : Int) := by omega
              clear hT4 hG4 hKw4 kk1 kk2 kk3 kk4 gg0 gg1 dd1 hk5 hkB hab4
              go_wp2_with fail
              obtain ⟨nb, HNB⟩ : ∃ nb, Hid (nb = w5.heap.size) := ⟨_, rfl⟩
              rw [← HNB.out] at b0 b1' ⊢
              generalize w5.alloc (.cells #[.int .i64 px, .int .i64 py] 98) = W6 at *
              obtain ⟨bv, HB2⟩ : ∃ bv, Hid (bv = R px py) := ⟨_, rfl⟩
              rw [← HB2.out] at m3
              refine wp_region_still_tail 24 (by kernel_rfl) (by kernel_rfl) ?_
              change wpStill _ _ (World.drew _) (fun a' => wpList _ _ _ _ a' (World.drew _)) _ _
              simp only [List.take_succ_cons, List.take_zero, List.drop_succ_cons, List.drop_zero]
              repeat still_step
              still_call (join_max _ _ _)
              repeat still_step
              refine wpStill_nil ?_
              have hT7 := hT6.kept ((Kept.refl W6).drew)
              have hG7 := ((Kept.refl W6).drew).row hG6
              have hK7 := hK6.drew
              have m6 : W6.drew.cell? ⟨br' i, j, none⟩ = some (.int .i64 d) := m4
              have m7 : W6.drew.frozen? ⟨br' i, j, none⟩ = false := m5
              clear hT6 hG6 hK6 m1 m2 m3 m4 m5 b0 b1'
              generalize W6.drew = W7 at *
              have s5 : IntKind.i64.wrap ((j : Int) - 1) = (j : Int) - 1 := IntWalk.i64_in _ (by omega)
              have hval : max d bv = R i j := by rw [HRV.out, HB2.out, HBV.out]
              have hT8 := hT7.put (show i < m by omega) hval
              have hG8 := hG7.setOther (a := ⟨br' i, j, none⟩) hbg.symm (.int .i64 (max d bv))
              have hK8 : Kept w (W7.setCell ⟨br' i, j, none⟩ (.int .i64 (max d bv))) := hK7.setCell (p := ⟨br' i, j, none⟩) (hT7.br0 i (Nat.le_refl _) (by omega)) _
              clear hval hT7 hG7 hK7
              go_wp2_with fail
              go_roundg j
              case measure => omega
              case rel => exact ⟨j, by omega, rfl, rfl, hK8, hG8, hT8⟩
end Go.Proofs.Ytomnjcjipdnnfaa
