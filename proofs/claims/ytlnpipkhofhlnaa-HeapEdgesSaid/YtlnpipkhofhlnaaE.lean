/-
  The program's yards, more: settle.
-/
import Derived.Test.YtlnpipkhofhlnaaD
import Derived.Test.YtlnpipkhofhlnaaOdo
import Derived.Laws.CopyOwn
import Derived.Deep.RegionWith
namespace Go.Proofs.Ytlnpipkhofhlnaa
open Go.RowKit Go.Deep

/-- the bars at each vertex, the sink having none -/
def atV (hp : Nat → Int) : Nat → Int := fun v => if v = 0 then 0 else hp (v - 1)
theorem Try.size3 : (Try.prog.info? 3).map (·.size) = some 1 := by kernel_rfl
theorem atV_pos {hp : Nat → Int} {N : Nat} (hh : ∀ i, i < N → 0 ≤ hp i ∧ hp i ≤ 1000000000) : ∀ v, v < N + 1 → 0 ≤ atV hp v := by
  intro v hv
  unfold atV
  by_cases e : v = 0
  · rw [if_pos e]; exact Int.le_refl _
  · rw [if_neg e]; exact (hh (v - 1) (by omega)).1
theorem atV_le {hp : Nat → Int} {N : Nat} (hh : ∀ i, i < N → 0 ≤ hp i ∧ hp i ≤ 1000000000) : ∀ v, v < N + 1 → atV hp v ≤ 1000000000 := by
  intro v hv
  unfold atV
  by_cases e : v = 0
  · rw [if_pos e]; omega
  · rw [if_neg e]; exact (hh (v - 1) (by omega)).2
def SettlePost (w : World) (n : Nat) (D : Nat → Nat) (J : Nat → Nat → Nat) (h : Nat → Int) (e : Ending) (w' : World) : Prop :=
  ∃ (r t : Nat) (f x : Nat → Int), e = .returned (.tuple #[.slice (some ⟨r, 1, none⟩) (n - 1) (n - 1), .slice (some ⟨t, 0, none⟩) (n - 1) (n - 1)]) ∧ Kept w w' ∧ w.heap.size ≤ r ∧ w.heap.size ≤ t ∧ r ≠ t ∧
    w'.rowIs r 3 n (fun u => .int .i64 (f u)) ∧ w'.rowIs t 3 (n - 1) (fun i => .int .i64 (x (i + 1))) ∧ Odo n D J h x ∧ (∀ u, u < n → f u = fin n D J h x u) ∧ ∀ u, u < n → 0 ≤ f u
/-- what is left of the topplings -/
def leftN (n : Nat) (y x : Nat → Int) : Nat := (sumZ (fun v => y v - x v) n).toNat

theorem splice_row {w : World} {g : Nat} {t : TypeId} {N : Nat} {cs : List Value} {f : Nat → Value} {z : Value} (h : w.heap[g]? = some (.cells (splice (List.replicate (N + 1) z) 1 cs).toArray t (0, 0))) (hl : cs.length = N)
    (h0 : f 0 = z) (hf : ∀ i, i < N → cs[i]? = some (f (i + 1))) : w.rowIs g t (N + 1) f := by
  refine ⟨_, h, ?_, fun i hi => ?_⟩
  · simp [splice, hl]; omega
  · simp only [splice, List.getElem?_toArray]
    cases i with
    | zero => simp [h0]
    | succ i =>
      have : (List.take 1 (List.replicate (N + 1) z) ++ (cs ++ List.drop (1 + cs.length) (List.replicate (N + 1) z)))[i + 1]? = cs[i]? := by
        rw [List.getElem?_append_right (by simp), List.getElem?_append_left (by simp; omega)]
        simp
      rw [this]; exact hf i (by omega)

/-- what a sweep has done when it has come to vertex k -/
structure Swept (n : Nat) (D : Nat → Nat) (x f x' f' : Nat → Int) (k : Nat) : Prop where
  up : ∀ v, k < v → v < n → f v ≤ f' v
  more : ∀ v, v < n → x v ≤ x' v
  done : ∀ v, 1 ≤ v → v ≤ k → v < n → (D v : Int) ≤ f v → x v + 1 ≤ x' v
theorem Swept.start (n : Nat) (D : Nat → Nat) (x f : Nat → Int) : Swept n D x f x f 0 := ⟨fun _ _ _ => Int.le_refl _, fun _ _ => Int.le_refl _, fun v h1 h2 => by omega⟩
theorem topN_bd {D : Nat → Nat} {f : Nat → Int} {v : Nat} (h0 : 0 ≤ f v) (hd : 1 ≤ D v) : 0 ≤ topN D f v ∧ topN D f v ≤ f v ∧ topN D f v * (D v : Int) ≤ f v ∧ ((D v : Int) ≤ f v → 1 ≤ topN D f v) := by
  unfold topN
  refine ⟨Int.ediv_nonneg h0 (by omega), Int.ediv_le_self _ h0, Int.ediv_mul_le _ (by omega), fun h => ?_⟩
  exact (Int.le_ediv_iff_mul_le (by omega)).2 (by omega)
theorem Swept.step {n : Nat} {D : Nat → Nat} {J : Nat → Nat → Nat} {x f x' f' : Nat → Int} {k : Nat} (s : Swept n D x f x' f' k) (h0 : 0 ≤ f' (k + 1)) (hd : 1 ≤ D (k + 1)) :
    Swept n D x f (addAt x' (k + 1) (topN D f' (k + 1))) (topF D J f' (k + 1)) (k + 1) := by
  have ht := topN_bd h0 hd
  refine ⟨fun v h1 h2 => ?_, fun v hv => ?_, fun v h1 h2 h3 h4 => ?_⟩
  · have := s.up v (by omega) h2
    unfold topF
    rw [if_neg (by omega)]
    have : 0 ≤ topN D f' (k + 1) * (J (k + 1) v : Int) := Int.mul_nonneg ht.1 (by omega)
    omega
  · have := s.more v hv
    unfold addAt
    split <;> omega
  · unfold addAt
    by_cases e : v = k + 1
    · subst e
      rw [if_pos rfl]
      have a := s.more (k + 1) h3
      have b := s.up (k + 1) (by omega) h3
      have c := ht.2.2.2 (by omega)
      omega
    · rw [if_neg e]
      have := s.done v h1 (by omega) h3 h4
      omega
theorem Run.topple {n : Nat} {D : Nat → Nat} {J : Nat → Nat → Nat} {h x f : Nat → Int} (r : Run n D J h x f) (ok : YardOk n D J) {v : Nat} (h1 : 1 ≤ v) (hv : v < n) : Run n D J h (addAt x v (topN D f v)) (topF D J f v) := by
  have ht := topN_bd (r.pos v hv) (ok.D1 v h1 hv)
  exact r.step h1 hv (ok.J0 v hv) ht.1 ht.2.2.1 (fun u _ => rfl)
/-- a sweep over heaps that are not stable leaves less to topple -/
theorem Swept.less {n : Nat} {D : Nat → Nat} {J : Nat → Nat → Nat} {h x f x' f' y : Nat → Int} {k : Nat} (s : Swept n D x f x' f' k) (hk : n ≤ k + 1) (hn : 1 ≤ n) (r' : Run n D J h x' f') (hy : Stab n D J h y) (hs : stableB D (fun i => f (i + 1)) n = false) : leftN n y x' < leftN n y x := by
  have hex : ∃ i, i < n - 1 ∧ (D (i + 1) : Int) ≤ f (i + 1) := by
    refine Classical.byContradiction fun hno => ?_
    have : stableB D (fun i => f (i + 1)) n = true := by
      unfold stableB
      exact allN_true.2 (fun i hi => by
        have : ¬ (D (i + 1) : Int) ≤ f (i + 1) := fun h => hno ⟨i, hi, h⟩
        simp; omega)
    rw [this] at hs; cases hs
  obtain ⟨i, hi, hd⟩ := hex
  have hone := s.done (i + 1) (by omega) (by omega) (by omega) hd
  have hlt : sumZ (fun v => y v - x' v) n < sumZ (fun v => y v - x v) n := by
    have h1 : sumZ (fun v => y v - x' v + (if v = i + 1 then 1 else 0)) n ≤ sumZ (fun v => y v - x v) n := sumZ_le (fun v hv => by
      show y v - x' v + (if v = i + 1 then 1 else 0) ≤ y v - x v
      have := s.more v hv
      by_cases e : v = i + 1
      · subst e; rw [if_pos rfl]; omega
      · rw [if_neg e]; omega)
    rw [sumZ_add, sumZ_one (f := fun v => if v = i + 1 then (1 : Int) else 0) (v := i + 1) (by omega) (fun v _ hne => if_neg hne)] at h1
    simp at h1; omega
  have hpos : 0 ≤ sumZ (fun v => y v - x' v) n := sumZ_nonneg (fun v hv => by have := r'.le y hy v hv; omega)
  unfold leftN
  omega
theorem topple_at (w : World) (n m bd bj : Nat) (br D : Nat → Nat) (J : Nat → Nat → Nat) (v r : Nat) (f : Nat → Int) (vi : Int) (hvi : vi = (v : Int)) (hY : YardAt w n bd bj br D J) (hn : n ≤ 8) (hv : v < n) (hD : ∀ i, i < n → D i ≤ 40) (hDv : 1 ≤ D v) (hJ : ∀ i j, i < n → j < n → J i j ≤ 40)
    (hr : w.rowIs r 3 n (fun u => .int .i64 (f u))) (hbj : bj < r) (hbr : ∀ i, i < n → br i < r) (hf : ∀ i, i < n → 0 ≤ f i ∧ f i ≤ 36028797018963968) :
    Calls Try.prog 74 #[YardV n m bd bj, .int .i64 vi, .slice (some ⟨r, 0, none⟩) n n] w fun e w' => e = .returned (.int .i64 (topN D f v)) ∧ KeptX (fun k => k = r) w w' ∧ w'.rowIs r 3 n (fun u => .int .i64 (topF D J f v u)) := by
  subst hvi
  exact topple_any w n m bd bj br D J v r f hY hn hv hD hDv hJ hr hbj hbr hf
theorem slice1 (N b : Nat) (W : World) (h : ¬ N = 0) : (Instr.slice 25 (.slice (some ⟨b, 0, none⟩) (N + 1) (N + 1)) (some (.int .i64 1)) none none).run Try.prog W = .ok (.slice (some ⟨b, 1, none⟩) N N) W := by
  simp [go_sem, h]
  omega
set_option maxRecDepth 100000 in
set_option maxHeartbeats 4000000 in
theorem settle_any (w : World) (n m bd bj : Nat) (br D : Nat → Nat) (J : Nat → Nat → Nat) (lv : Value) (hp : Nat → Int) (y : Nat → Int) (hY : YardAt w n bd bj br D J) (ok : YardOk n D J) (hL : IntsAt w lv (n - 1) hp)
    (hh : ∀ i, i < n - 1 → 0 ≤ hp i ∧ hp i ≤ 1000000000) (hy : Stab n D J (atV hp) y) (hyB : ∀ v, v < n → y v ≤ 1700000000000000) :
    Calls Try.prog 57 #[YardV n m bd bj, lv] w (SettlePost w n D J (atV hp)) := by
  have hn2 := ok.n2
  have hn8 := ok.n8
  obtain ⟨a, b, o, cap, rfl, ha, hc⟩ := hL
  obtain ⟨N, rfl⟩ : ∃ N, n = N + 1 := ⟨n - 1, by omega⟩
  simp only [Nat.add_sub_cancel] at ha hc hh ⊢
  obtain rfl := ha (by omega)
  have hbx := YBox.new w (N + 1) m bd bj 78
  have hmk := fun w => mkInts ((N : Int) + 1) (N + 1) (by omega) (by omega) w
  have hmk2 := fun w => mkInts (N : Int) N rfl (by omega) w
  have hkB : Kept w (w.alloc (.cells #[.int .i64 (N + 1 : Nat), .int .i64 m, .slice (some ⟨bd, 0, none⟩) (N + 1) (N + 1), .slice (some ⟨bj, 0, none⟩) (N + 1) (N + 1)] 78)) := (Kept.refl w).alloc _
  have K2 : Hid (((w.alloc (.cells #[.int .i64 (N + 1 : Nat), .int .i64 m, .slice (some ⟨bd, 0, none⟩) (N + 1) (N + 1), .slice (some ⟨bj, 0, none⟩) (N + 1) (N + 1)] 78)).alloc (.cells (madeCells #[.int .i64 0] (N + 1)) 3)).heap[w.heap.size + 1]? = some (.cells (List.replicate (N + 1) (.int .i64 0)).toArray 3 (0, 0))) := by
    show _ = _
    rw [made_rep, ← nblk_alloc w (.cells #[.int .i64 (N + 1 : Nat), .int .i64 m, .slice (some ⟨bd, 0, none⟩) (N + 1) (N + 1), .slice (some ⟨bj, 0, none⟩) (N + 1) (N + 1)] 78)]
    exact blk_alloc_new _ _
  have K4 : Hid (∀ (j : Nat) (v : Value), (intsL hp N)[j]? = some v → ((w.alloc (.cells #[.int .i64 (N + 1 : Nat), .int .i64 m, .slice (some ⟨bd, 0, none⟩) (N + 1) (N + 1), .slice (some ⟨bj, 0, none⟩) (N + 1) (N + 1)] 78)).alloc (.cells (madeCells #[.int .i64 0] (N + 1)) 3)).cell? ((⟨b, o, none⟩ : Addr).add j) = some v) := by
    intro j v hv
    obtain ⟨hj, rfl⟩ := intsL_some hv
    have h := (hkB.alloc (.cells (madeCells #[.int .i64 0] (N + 1)) 3)).cellSome (hc j hj)
    rw [add_at]; exact h
  have K7 : Below (w.heap.size + 1) (w.alloc (.cells #[.int .i64 (N + 1 : Nat), .int .i64 m, .slice (some ⟨bd, 0, none⟩) (N + 1) (N + 1), .slice (some ⟨bj, 0, none⟩) (N + 1) (N + 1)] 78)) ((w.alloc (.cells #[.int .i64 (N + 1 : Nat), .int .i64 m, .slice (some ⟨bd, 0, none⟩) (N + 1) (N + 1), .slice (some ⟨bj, 0, none⟩) (N + 1) (N + 1)] 78)).alloc (.cells (madeCells #[.int .i64 0] (N + 1)) 3)) := (Below.refl _ _).alloc (by simp) _
  have K3 : Hid ((intsL hp N).length = N) := by show _ = _; simp [intsL]
  unfold YardV
  go_enter Try.func57, Try.ntmps57
  go_wp2_with (refine wpList_copy_splice rfl (.tmp 13) (.tmp 14) 25 25 rfl 3 Try.underlying25 Try.size3 (some ⟨w.heap.size + 1, 1, none⟩) (some ⟨b, o, none⟩) N N N cap rfl rfl (w.heap.size + 1) 1 (List.replicate (N + 1) (.int .i64 0)) 3 K2.out (intsL hp N) ?k3 (fun _ => ⟨rfl, _, rfl, K4.out⟩) ?k5 intsL_one (w.heap.size + 1) (w.alloc (.cells #[.int .i64 (N + 1 : Nat), .int .i64 m, .slice (some ⟨bd, 0, none⟩) (N + 1) (N + 1), .slice (some ⟨bj, 0, none⟩) (N + 1) (N + 1)] 78)) K7 (Nat.le_refl _) ?_)
  case k3 => rw [K3.out]
  case k5 => rw [K3.out]; omega
  intro w3 hH hB3
  have hR3 : w3.rowIs (w.heap.size + 1) 3 (N + 1) (fun u => .int .i64 (atV hp u)) := splice_row hH.out K3.out rfl (fun i hi => by rw [intsL_get hi]; simp [atV])
  have hK3 : Kept w w3 := by
    refine hkB.step (T := fun _ => False) (b := (w.alloc (.cells #[.int .i64 (N + 1 : Nat), .int .i64 m, .slice (some ⟨bd, 0, none⟩) (N + 1) (N + 1), .slice (some ⟨bj, 0, none⟩) (N + 1) (N + 1)] 78))) (c := w3) ⟨hB3.os, hB3.tape, hB3.output, hB3.size, fun k hk _ => hB3.block k (by simpa using hk)⟩ (fun _ h => h.elim)
  have hBx3 : YBox w3 w.heap.size (N + 1) m bd bj := hbx.kept ⟨hB3.os, hB3.tape, hB3.output, hB3.size, fun k hk _ => hB3.block k (by simpa using hk)⟩
  have hs3 : w.heap.size + 2 ≤ w3.heap.size := by have := hR3.lt; omega
  obtain ⟨c0, c1, c2, c3⟩ := hBx3
  clear hH hB3 K2 K4 K7 K3 hmk hbx hkB
  go_wp2_with fail
  have hR4 := hR3.alloc (.cells (madeCells #[.int .i64 0] N) 3)
  have hT4 := World.rowIs_made w3 (.int .i64 0) N 3
  have hK4 : Kept w (w3.alloc (.cells (madeCells #[.int .i64 0] N) 3)) := hK3.alloc _
  have hB4 : YBox (w3.alloc (.cells (madeCells #[.int .i64 0] N) 3)) w.heap.size (N + 1) m bd bj := YBox.kept ⟨c0, c1, c2, c3⟩ ((Kept.refl _).alloc _)
  obtain ⟨tb, HTB⟩ : ∃ tb, Hid (tb = w3.heap.size) := ⟨_, rfl⟩
  have htb : w.heap.size + 2 ≤ tb := by rw [HTB.out]; exact hs3
  rw [← HTB.out] at hT4 ⊢
  clear hmk2 hs3 c0 c1 c2 c3 hR3 hK3 HTB
  go_loopg [8, 28] (leftN (N + 1) y (fun _ => 0)) (fun g s8 s28 wr => ∃ x f : Nat → Int, g = leftN (N + 1) y x ∧ Run (N + 1) D J (atV hp) x f ∧ Kept w wr ∧ YBox wr w.heap.size (N + 1) m bd bj ∧ wr.rowIs (w.heap.size + 1) 3 (N + 1) (fun u => .int .i64 (f u)) ∧ wr.rowIs tb 3 N (fun i => .int .i64 (x (i + 1))))
  case atStart => exact ⟨fun _ => 0, atV hp, rfl, Run.start (atV_pos hh), hK4, hB4, hR4, hT4⟩
  case round =>
    obtain ⟨x, f, rfl, run, hK, hB, hR, hT⟩ := hrel
    clear hK4 hB4 hR4 hT4
    obtain ⟨c0, c1, c2, c3⟩ := hB
    have hYr := hY.kept hK
    have hF : IntsAt wr (.slice (some ⟨w.heap.size + 1, 1, none⟩) N N) N (fun i => f (i + 1)) := CellsAt.of_row1 hR
    have hN0 : ¬ N = 0 := by omega
    have hsl := fun W => slice1 N (w.heap.size + 1) W hN0
    cases e1 : stableB D (fun i => f (i + 1)) (N + 1)
    all_goals
      have E1 := Lib.hid e1
      clear e1
      go_wp2_with fail
      go_region_held3 (fun w' => w'.cell? ⟨w.heap.size, 0, none⟩ = some (.int .i64 (N + 1 : Nat)) ∧ w'.cell? ⟨w.heap.size, 1, none⟩ = some (.int .i64 m) ∧ w'.cell? ⟨w.heap.size, 2, none⟩ = some (.slice (some ⟨bd, 0, none⟩) (N + 1) (N + 1)) ∧ w'.cell? ⟨w.heap.size, 3, none⟩ = some (.slice (some ⟨bj, 0, none⟩) (N + 1) (N + 1)) ∧ Kept wr w')
        (exact keep4 c0 c1 c2 c3 (by repeat (first | assumption | exact Kept.refl _ | apply Kept.drew | apply Kept.drewN | apply Kept.alloc | refine Kept.trans ?_ (by assumption))))
        (first | (go_at_call 56; refine (stable_any _ (N + 1) m bd bj br D J _ (fun i => f (i + 1)) ?_ (by omega) (by omega) ?_).mono ?_; (exact hYr.kept (by repeat (first | assumption | exact Kept.refl _ | apply Kept.drew | apply Kept.drewN | apply Kept.alloc | refine Kept.trans ?_ (by assumption)))); (exact CellsAt.kept hF (by repeat (first | assumption | exact Kept.refl _ | apply Kept.drew | apply Kept.drewN | apply Kept.alloc | refine Kept.trans ?_ (by assumption)))); rw [E1.out]; rintro e w2 ⟨rfl, hk2⟩))
      go_wp2_with fail
    · have hkk : Kept wr w2 := (by repeat (first | assumption | exact Kept.refl _ | apply Kept.drew | apply Kept.drewN | apply Kept.alloc | refine Kept.trans ?_ (by assumption)))
      have hK2 := hK.trans hkk
      have hB2 : YBox w2 w.heap.size (N + 1) m bd bj := YBox.kept ⟨c0, c1, c2, c3⟩ hkk
      have hR2 := hkk.row hR
      have hT2 := hkk.row hT
      clear hK hR hT hF hYr c0 c1 c2 c3 hsl
      go_loopg [8, 28] N (fun g s8 s28 wi => ∃ (k : Nat) (x' f' : Nat → Int), k ≤ N ∧ g = N - k ∧ s28 = .int .i64 k ∧ Run (N + 1) D J (atV hp) x' f' ∧ Kept w wi ∧ YBox wi w.heap.size (N + 1) m bd bj ∧ wi.rowIs (w.heap.size + 1) 3 (N + 1) (fun u => .int .i64 (f' u)) ∧ wi.rowIs tb 3 N (fun i => .int .i64 (x' (i + 1))) ∧ Hid (Swept (N + 1) D x f x' f' k))
      case atStart => exact ⟨0, x, f, Nat.zero_le _, rfl, rfl, run, hK2, hB2, hR2, hT2, Swept.start _ _ _ _⟩
      case round =>
        obtain ⟨k, x', f', hk, rfl, rfl, run', hK, hB, hR, hT, hS⟩ := hrel
        clear hK2 hB2 hR2 hT2 run
        obtain ⟨c0, c1, c2, c3⟩ := hB
        by_cases hlt : k < N
        · have hYi := hY.kept hK
          have t1 := hT.cell hlt
          have t2 := hT.frozen k
          have hsum : ((k : Int) + 1) = ((k + 1 : Nat) : Int) := by omega
          have hbd := fun u (hu : u < N + 1) => run'.bound hy (atV_le hh) hyB (by omega) hu (by rw [ok.col hu]; have := ok.D20 u hu; omega)
          have hw1 : IntKind.i64.wrap ((k : Int) + 1) = (k : Int) + 1 := IntWalk.i64_in _ (by omega)
          have hk0 : (0 : Int) ≤ (k : Int) := by omega
          have hk1 : (k : Int) < (N : Int) := by omega
          have hf' : ∀ i, i < N + 1 → 0 ≤ f' i ∧ f' i ≤ 36028797018963968 := fun i hi => ⟨run'.pos i hi, Int.le_trans (hbd i hi) (by decide)⟩
          have hbj' : bj < w.heap.size + 1 := by have := hY.top.lt; omega
          have hbr' : ∀ i, i < N + 1 → br i < w.heap.size + 1 := fun i hi => by have := (hY.row i hi).lt; omega
          have run'' := run'.topple ok (v := k + 1) (by omega) (by omega)
          have hxb : 0 ≤ x' (k + 1) ∧ x' (k + 1) ≤ 1700000000000000 := ⟨run'.xpos (k + 1) (by omega), Int.le_trans (run'.le y hy (k + 1) (by omega)) (hyB (k + 1) (by omega))⟩
          have htb0 := topN_bd (hf' (k + 1) (by omega)).1 (ok.D1 (k + 1) (by omega) (by omega))
          have hfk := hf' (k + 1) (by omega)
          have hw2 : IntKind.i64.wrap (x' (k + 1) + topN D f' (k + 1)) = x' (k + 1) + topN D f' (k + 1) := IntWalk.i64_in _ (by omega)
          have htl := hT.lt
          have hS' := Swept.step (J := J) hS.out (hf' (k + 1) (by omega)).1 (ok.D1 (k + 1) (by omega) (by omega))
          have HBD : Hid (∀ i, i < N + 1 → 0 ≤ f' i ∧ f' i ≤ 36028797018963968) := hf'
          have hHR : Hid (∀ i, i < N + 1 → br i < w.heap.size + 1) := hbr'
          have HSUM := Lib.hid hsum
          clear hbd htb0 hfk hxb hf' hbr' hsum
          go_wp2_with fail
          go_region_with (first | (go_at_call 74; refine (topple_at _ (N + 1) m bd bj br D J (k + 1) (w.heap.size + 1) f' _ HSUM.out ?_ hn8 (by omega) ok.D40 (ok.D1 (k + 1) (by omega) (by omega)) ok.J40 ?_ hbj' hHR.out HBD.out).mono ?_; (exact hYi.kept (by repeat (first | assumption | exact Kept.refl _ | apply Kept.drew | apply Kept.drewN | apply Kept.alloc | refine Kept.trans ?_ (by assumption)))); (exact Kept.row (by repeat (first | assumption | exact Kept.refl _ | apply Kept.drew | apply Kept.drewN | apply Kept.alloc | refine Kept.trans ?_ (by assumption))) hR); rintro e w2 ⟨rfl, hkx, hrx⟩; have t1x := hkx.cellSome (show _ = some (.int .i64 (x' (k + 1))) from t1) (show ¬ tb = w.heap.size + 1 by omega); have t2x := (hkx.frozen (a := ⟨tb, k, none⟩) htl (show ¬ tb = w.heap.size + 1 by omega)).trans t2; have hKx : Kept w w2 := Kept.step (by repeat (first | assumption | exact Kept.refl _ | apply Kept.drew | apply Kept.drewN | apply Kept.alloc | refine Kept.trans ?_ (by assumption))) hkx (fun i hi => by omega); have hBx : YBox w2 w.heap.size (N + 1) m bd bj := ⟨hkx.cellSome (show _ = _ from c0) (show ¬ w.heap.size = w.heap.size + 1 by omega), hkx.cellSome (show _ = _ from c1) (show ¬ w.heap.size = w.heap.size + 1 by omega), hkx.cellSome (show _ = _ from c2) (show ¬ w.heap.size = w.heap.size + 1 by omega), hkx.cellSome (show _ = _ from c3) (show ¬ w.heap.size = w.heap.size + 1 by omega)⟩; have hTx := hkx.row (Kept.row (by repeat (first | assumption | exact Kept.refl _ | apply Kept.drew | apply Kept.drewN | apply Kept.alloc | refine Kept.trans ?_ (by assumption))) hT) (show ¬ tb = w.heap.size + 1 by omega)))
          all_goals
            go_wp2_with fail
            go_roundg (N - (k + 1))
            case measure => omega
            case rel =>
              refine ⟨k + 1, addAt x' (k + 1) (topN D f' (k + 1)), topF D J f' (k + 1), by omega, rfl, by go_num, run'', (by first | exact hKx.setCell (by show w.heap.size ≤ tb; omega) _ | exact hKx.drew.setCell (by show w.heap.size ≤ tb; omega) _), (by first | exact hBx.set4 (show w.heap.size ≠ tb by omega) _ _ | exact YBox.set4 (hBx.kept (Kept.refl _).drew) (show w.heap.size ≠ tb by omega) _ _), (by first | exact hrx.setOther (show w.heap.size + 1 ≠ tb by omega) _ | exact (World.rowIs.drew hrx).setOther (show w.heap.size + 1 ≠ tb by omega) _), ?_, hS'⟩
              have hgo := fun (wx : World) (hx : wx.rowIs tb 3 N (fun i => .int .i64 (x' (i + 1)))) => (hx.set k (.int .i64 (x' (k + 1) + topN D f' (k + 1)))).congr (g := fun i => .int .i64 (addAt x' (k + 1) (topN D f' (k + 1)) (i + 1))) (fun i _ => by
                unfold addAt
                by_cases e : i = k
                · subst e; simp
                · rw [if_neg e, if_neg (by omega)]; simp)
              first | exact hgo _ hTx | exact hgo _ hTx.drew
        · obtain rfl : k = N := by omega
          have hless := Swept.less hS.out (by omega) (by omega) run' hy E1.out
          go_wp2_with fail
          go_roundg (leftN (k + 1) y x')
          case measure => exact hless
          case rel => exact ⟨x', f', rfl, run', hK, ⟨c0, c1, c2, c3⟩, hR, hT⟩
    · have hkk : Kept wr w2 := (by repeat (first | assumption | exact Kept.refl _ | apply Kept.drew | apply Kept.drewN | apply Kept.alloc | refine Kept.trans ?_ (by assumption)))
      have hodo : Odo (N + 1) D J (atV hp) x := run.odo (fun v h1 h2 => by
        have := allN_true.1 (show allN (fun i => decide (f (i + 1) < D (i + 1))) (N + 1 - 1) = true from E1.out) (v - 1) (by omega)
        rw [show v - 1 + 1 = v by omega] at this
        simpa using this)
      go_wp2_with fail
      go_ret2
      exact ⟨w.heap.size + 1, tb, f, x, rfl, hK.trans hkk, by omega, by omega, by omega, hkk.row hR, hkk.row hT, hodo, run.eq, run.pos⟩
end Go.Proofs.Ytlnpipkhofhlnaa
