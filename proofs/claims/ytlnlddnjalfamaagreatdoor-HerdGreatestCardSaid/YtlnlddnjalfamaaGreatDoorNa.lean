/-
  Package herd: Greatest of any herd.
-/
import Derived.Test.YtlnlddnjalfamaaGreatDoorIj
import Derived.Test.YtlnlddnjalfamaaGreatDoorHi
import Derived.Test.YtlnlddnjalfamaaGreatDoorKu
import Derived.Test.YtlnlddnjalfamaaGreatDoorJj
namespace Go.Proofs.YtlnlddnjalfamaaGreatDoor
open Go.RowKit Go.Deep

/-- what all pairs of a list are worth -/
def wsum (Z : Nat → Int) (l : List (Nat × Nat)) : Int := l.foldl (fun a p => a + Z p.1 * Z p.2) 0
theorem wsum_snoc (Z : Nat → Int) (l : List (Nat × Nat)) (p : Nat × Nat) : wsum Z (l ++ [p]) = wsum Z l + Z p.1 * Z p.2 := by simp [wsum]
theorem takeP {l : List (Nat × Nat)} {j : Nat} (h : j < l.length) : l.take (j + 1) = l.take j ++ [l.getD j (0, 0)] := by
  rw [List.take_add_one, List.getElem?_eq_getElem h, List.getD_eq_getElem?_getD, List.getElem?_eq_getElem h]; rfl
theorem worZ_take (Z : Nat → Int) (l : List (Nat × Nat)) : ∀ j, j ≤ l.length → worZ Z l j = wsum Z (l.take j)
  | 0, _ => by simp [worZ, wsum]
  | j + 1, h => by
    rw [takeP (by omega), wsum_snoc, ← worZ_take Z l j (by omega)]
    rfl
theorem wsum_map (Z : Nat → Int) (i : Nat) (l : List (Nat × Nat)) (s : Nat → Bool) (hZ : ∀ t, t < 9 → Z t = if s t then 1 else 0) (hi : Z i = 1 ∨ Z i = 0) : ∀ (L : List Nat), (∀ x, x ∈ L → x < 9) → L.foldl (fun a j => a + Z i * Z j) (wsum Z l) = wsum Z l + Z i * ((L.filter s).length : Int) := by
  have key : ∀ (L : List Nat), (∀ x, x ∈ L → x < 9) → ∀ c : Int, L.foldl (fun a j => a + Z i * Z j) c = c + Z i * ((L.filter s).length : Int) := by
    intro L
    induction L with
    | nil => intro _ c; simp
    | cons x L ih =>
      intro h c
      rw [List.foldl_cons, ih (fun y hy => h y (List.mem_cons_of_mem _ hy)), hZ x (h x (by simp))]
      cases e : s x with
      | true =>
        simp [e]
        rcases hi with h1 | h1 <;> rw [h1] <;> omega
      | false => simp [e]
  exact fun L h => key L h _
/-- the pairs in a set of the first k -/
def cG (G : Nat) : Nat → Nat
  | 0 => 0
  | k + 1 => cG G k + (if G.testBit k then ((List.range 9).filter fun j => G.testBit j && decide (k < j)).length else 0)
theorem cG_all : ∀ G : Fin 512, cG G.val 9 = size16 G.val * (size16 G.val - 1) / 2 := by decide +kernel
theorem cG_more (G k : Nat) (h : ∀ j, G.testBit j = true → j < k) : ∀ d, cG G (k + d) = cG G k
  | 0 => rfl
  | d + 1 => by
    show cG G (k + d) + _ = _
    rw [cG_more G k h d]
    cases e : G.testBit (k + d) with
    | false => simp
    | true => have := h _ e; omega
theorem wsum_pairs {H : Nat → Nat} {G : Nat} (hcl : isCl H G) (Z : Nat → Int) (hZ : ∀ t, t < 9 → Z t = if G.testBit t then 1 else 0) : ∀ k, k ≤ 9 → (∀ i, i < k → H i < 65536) → wsum Z (pairsH H k) = (cG G k : Int)
  | 0, _, _ => by simp [pairsH, wsum, cG]
  | k + 1, hk, hH => by
    rw [pairsH_succ]
    have h1 : wsum Z (pairsH H k ++ (horsesL (aft (H k) k) 9).map fun j => (k, j)) = (horsesL (aft (H k) k) 9).foldl (fun a j => a + Z k * Z j) (wsum Z (pairsH H k)) := by
      show List.foldl _ _ _ = _
      rw [List.foldl_append, List.foldl_map]
      rfl
    have hz := hZ k (by omega)
    rw [h1, wsum_map Z k (pairsH H k) (fun t => G.testBit t) hZ (by rw [hz]; split <;> simp) (horsesL (aft (H k) k) 9) (fun x hx => List.mem_range.1 (List.mem_filter.1 hx).1), wsum_pairs hcl Z hZ k (by omega) (fun i hi => hH i (by omega)), hz]
    show _ = ((cG G k + _ : Nat) : Int)
    cases e : G.testBit k with
    | false => simp
    | true =>
      simp only [if_true]
      have h2 : (horsesL (aft (H k) k) 9).filter (fun t => G.testBit t) = (List.range 9).filter fun j => G.testBit j && decide (k < j) := by
        unfold horsesL
        rw [List.filter_filter]
        refine List.filter_congr fun j _ => ?_
        rw [aft_bit _ _ _ (hH k (by omega)) (by omega)]
        cases e2 : G.testBit j with
        | false => simp
        | true =>
          by_cases h3 : k < j
          · rw [hcl k j h3 e e2]; simp [h3]
          · simp [h3]
      rw [h2]
      push_cast
      omega
theorem worZ_le {Z : Nat → Int} (hZ : ∀ t, Z t = 0 ∨ Z t = 1) (l : List (Nat × Nat)) : ∀ j, worZ Z l j ≤ (j : Int)
  | 0 => Int.le_refl _
  | j + 1 => by
    have h1 := worZ_le hZ l j
    show worZ Z l j + Z _ * Z _ ≤ _
    rcases hZ (l.getD j (0, 0)).1 with h2 | h2 <;> rcases hZ (l.getD j (0, 0)).2 with h3 | h3 <;> rw [h2, h3] <;> omega
theorem memZ_01 (L : List Nat) (k t : Nat) : memZ L k t = 0 ∨ memZ L k t = 1 := by
  unfold memZ
  split <;> simp
theorem memZ_bit (G t : Nat) (ht : t < 9) : memZ (horsesL G 9) (horsesL G 9).length t = if G.testBit t then 1 else 0 := by
  unfold memZ
  rw [List.take_length]
  congr 1
  simp [horsesL, ht]
def cF (k : Nat) : Nat → Nat := fun _ => k
def grT (k : Nat) : ByteArray := fracS (qTB (k * (k - 1) / 2) (cF k) 2).1 (qTB (k * (k - 1) / 2) (cF k) 2).2
def grX (G : Nat) : Nat → Nat := fun i => if G.testBit i then 1 else 0
def grS (G k : Nat) : Nat → ByteArray := partS (grX G) (cF k) 1
theorem gr_q2 : ∀ k : Fin 10, 1 ≤ k.val → (∀ j : Fin 3, (qTB (k.val * (k.val - 1) / 2) (cF k.val) j.val).2 ≤ 1000000) ∧ (qTB (k.val * (k.val - 1) / 2) (cF k.val) 2).1 < 100 ∧ (qTB (k.val * (k.val - 1) / 2) (cF k.val) 2).2 < 100 := by decide +kernel
theorem gr_q1 : ∀ k : Fin 10, 1 ≤ k.val → ∀ x : Fin 2, (∀ j : Fin 2, (qTB x.val (cF k.val) j.val).2 ≤ 1000000) ∧ (qTB x.val (cF k.val) 1).1 < 100 ∧ (qTB x.val (cF k.val) 1).2 < 100 := by decide +kernel
theorem alongs_in {A B : Nat → Int} {n : Nat} (m : Nat) (h : allN (pairB (n : Int) A B) m = true) {i j : Nat} (hb : (alongH A B m i).testBit j = true) : j < n := by
  rw [along_adj (n := (n : Int)) m h i j] at hb
  induction m with
  | zero => cases hb
  | succ m ih =>
    obtain ⟨a0, b0, a1, b1, _⟩ := pairB_true (allN_at h (Nat.lt_succ_self m))
    have hb2 : setF (adjP A B m) (A m).toNat (B m).toNat i j = true := hb
    unfold setF at hb2
    rw [Bool.or_eq_true, Bool.or_eq_true, Bool.and_eq_true, Bool.and_eq_true] at hb2
    simp only [decide_eq_true_eq] at hb2
    rcases hb2 with (h1 | h1) | h1
    · exact ih (allN_prev h) h1
    · omega
    · omega
def GreatestAns (w : World) (n : Int) (A B : Nat → Int) (m : Nat) (e : Ending) (w' : World) : Prop :=
  Kept w w' ∧ if goodH n A B m then ∃ v : Value, e = .returned (.tuple #[.string (grT (size16 (best (alongH A B m) n.toNat))), v, .int .i64 0]) ∧ StrsAt w' v n.toNat (grS (best (alongH A B m) n.toNat) (size16 (best (alongH A B m) n.toNat))) else e = .returned (.tuple #[.string ⟨#[]⟩, .slice none 0 0, .int .i64 1])
set_option maxRecDepth 100000 in
set_option maxHeartbeats 4000000 in
theorem Greatest_good (w : World) (N : Nat) (vl : Value) (m : Nat) (A B : Nat → Int) (hL : PairsAt w vl m A B) (hm : m ≤ 1000000) (hn1 : 1 ≤ N) (hn : N ≤ 9) (hgood : goodH (N : Int) A B m = true) (hlts : ∀ i, i < N → alongH A B m i < 65536) (hin : ∀ i j, i < N → (alongH A B m i).testBit j = true → j < N) :
    Calls Tryz.prog 28 #[.int .i64 N, vl] w fun e w' => ∃ v : Value, e = .returned (.tuple #[.string (grT (size16 (best (alongH A B m) N))), v, .int .i64 0]) ∧ Kept w w' ∧ StrsAt w' v N (grS (best (alongH A B m) N) (size16 (best (alongH A B m) N))) := by
  have HO := Lib.hid (herdOf_any w N vl m A B hL hm)
  unfold HerdOfPost at HO
  simp only [if_pos hgood, Int.toNat_natCast] at HO
  obtain ⟨H, HH⟩ : ∃ H, Hid (H = alongH A B m) := ⟨_, rfl⟩
  rw [← HH.out] at hlts hin HO ⊢
  obtain ⟨hbs1, hbs2⟩ := best_size (H := H) hn hn1
  have hbsp := (best_spec H (n := N) (by omega)).1
  obtain ⟨G, HG⟩ : ∃ G, Hid (G = best H N) := ⟨_, rfl⟩
  rw [← HG.out] at hbs1 hbs2 hbsp ⊢
  obtain ⟨hbit, hcl⟩ := hbsp
  have hG9 : G < 512 := Nat.lt_pow_two_of_testBit (n := 9) G fun i hi => by
    cases e : G.testBit i with
    | false => rfl
    | true => have := hbit i e; omega
  have hG16 : G < 65536 := by omega
  obtain ⟨k, HKS⟩ : ∃ k, Hid (k = size16 G) := ⟨_, rfl⟩
  rw [← HKS.out] at hbs1 hbs2 ⊢
  obtain ⟨q2a, q2b, q2c⟩ := gr_q2 ⟨k, by omega⟩ hbs1
  have q1 := gr_q1 ⟨k, by omega⟩ hbs1
  dsimp only at q2a q2b q2c q1
  have hZb := fun t (ht : t < 9) => memZ_bit G t ht
  have hZ01 := fun t => memZ_01 (horsesL G 9) (horsesL G 9).length t
  have hwor : worZ (memZ (horsesL G 9) (horsesL G 9).length) (pairsH H N) (pairsH H N).length = ((k * (k - 1) / 2 : Nat) : Int) := by
    rw [worZ_take _ _ _ (Nat.le_refl _), List.take_length, wsum_pairs hcl _ hZb N hn hlts, ← cG_more G N hbit (9 - N), show N + (9 - N) = 9 by omega, cG_all ⟨G, hG9⟩, HKS.out]
  have hval : ∀ t, t < N → memZ (horsesL G 9) (horsesL G 9).length t = ((grX G t : Nat) : Int) := fun t ht => by
    rw [hZb t (by omega)]
    unfold grX
    split <;> rfl
  have hmul : ∀ p q, p < N → q < N → memZ (horsesL G 9) (horsesL G 9).length p * memZ (horsesL G 9) (horsesL G 9).length q < bigU := fun p q _ _ => small_big (by
    rcases hZ01 p with h2 | h2 <;> rcases hZ01 q with h3 | h3 <;> rw [h2, h3] <;> omega)
  have hpl := pairsH_len H N
  have hws : ∀ j, j ≤ (pairsH H N).length → worZ (memZ (horsesL G 9) (horsesL G 9).length) (pairsH H N) j < bigU := fun j hj => small_big (by
    have := worZ_le hZ01 (pairsH H N) j
    omega)
  have hpin : ∀ j, j < (pairsH H N).length → ((pairsH H N).getD j (0, 0)).1 < N ∧ ((pairsH H N).getD j (0, 0)).2 < N := fun j hj => by
    have hp : (pairsH H N).getD j (0, 0) ∈ pairsH H N := by
      rw [List.getD_eq_getElem?_getD, List.getElem?_eq_getElem hj]
      exact List.getElem_mem hj
    generalize (pairsH H N).getD j (0, 0) = p at hp ⊢
    unfold pairsH at hp
    rw [List.mem_flatMap] at hp
    obtain ⟨i, hi, h⟩ := hp
    have hi := List.mem_range.1 hi
    rw [List.mem_map] at h
    obtain ⟨j, hj, rfl⟩ := h
    have hj := (List.mem_filter.1 hj).2
    rw [aft_bit _ _ _ (hlts i hi) (by omega), Bool.and_eq_true] at hj
    exact ⟨hi, hin i j hi hj.1⟩
  obtain ⟨Z, HZZ⟩ : ∃ Z, Hid (Z = memZ (horsesL G 9) (horsesL G 9).length) := ⟨_, rfl⟩
  have EQ := Lib.hid (fun W => equal_any W N G hn hG16 hbit)
  unfold EqualPost at EQ
  rw [← HZZ.out] at hwor hval hmul hws EQ
  rw [← HKS.out] at EQ
  have hqb : ∀ i, i < N → (∀ j, j ≤ 1 → (((qTB (grX G i) (cF k) j).2 : Nat) : Int) < bigU) ∧ (qTB (grX G i) (cF k) 1).1 < 100 ∧ (qTB (grX G i) (cF k) 1).2 < 100 := fun i _ => by
    have hx : grX G i < 2 := by unfold grX; split <;> omega
    obtain ⟨h1, h2, h3⟩ := q1 ⟨grX G i, hx⟩
    exact ⟨fun j hj => small_big (by have := h1 ⟨j, by omega⟩; dsimp only at this; omega), h2, h3⟩
  have hq2 : ∀ j, j ≤ 1 + 1 → (((qTB (k * (k - 1) / 2) (cF k) j).2 : Nat) : Int) < bigU := fun j hj => small_big (by have := q2a ⟨j, by omega⟩; dsimp only at this; omega)
  have htw : twiceF (cF k) 1 = cF k := rfl
  have hT : Hid (fracS (qTB (k * (k - 1) / 2) (cF k) (1 + 1)).1 (qTB (k * (k - 1) / 2) (cF k) (1 + 1)).2 = grT k) := rfl
  have GRX := Lib.hid (fun W gh h => greatest_any W gh N N H h hlts (by omega) hn1)
  rw [← HG.out] at GRX
  generalize grT k = TT at *
  generalize HSS : grS G k = SS at *
  unfold grS at HSS
  clear hL q1 q2a hZb hZ01 hcl hbit HZZ HKS HG HH hgood hpl hin
  go_enter Tryz.func28, Tryz.ntmps28
  go_wp2_with fail
  refine HO.out.mono ?_
  rintro e w1 ⟨hk1, gh, rfl, hgh, hrh⟩
  go_wp2_with fail
  refine (GRX.out w1 gh hrh).mono ?_
  rintro e w2 ⟨rfl, hk2⟩
  go_wp2_with fail
  refine (EQ.out _).mono ?_
  rintro e w3 ⟨g, gf, rfl, hk3, hgw, hP, hF⟩
  have hS3 : SetsAt w3 (.slice (some ⟨gh, 0, none⟩) N N) N H := CellsAt.kept (CellsAt.of_row hrh) (hk2.trans hk3)
  have hz := bx2_row w3 (.slice (some ⟨g, 0, none⟩) N N) (.slice (some ⟨gf, 0, none⟩) 1 1) 101
  have hkA : Kept w3 (w3.alloc (.cells #[(.slice (some ⟨g, 0, none⟩) N N), (.slice (some ⟨gf, 0, none⟩) 1 1)] 101)) := (Kept.refl w3).alloc _
  obtain ⟨d0, d1, _, _⟩ := bx2_cells hz
  go_upto_region 5 with fail
  generalize w3.alloc (.cells #[(.slice (some ⟨g, 0, none⟩) N N), (.slice (some ⟨gf, 0, none⟩) 1 1)] 101) = W3 at *
  obtain ⟨z9, HZ9⟩ : ∃ z, Hid (z = w3.heap.size) := ⟨_, rfl⟩
  rw [← HZ9.out] at d0 d1 ⊢
  clear HZ9
  have hP3 := hP.kept hkA
  have hF3 := CellsAt.kept hF hkA
  have hS4 := CellsAt.kept hS3 hkA
  have WO := Lib.hid (fun W (hk : Kept W3 W) => worth_any W g N N N gf 1 (.slice (some ⟨gh, 0, none⟩) N N) Z H (cF k) (k * (k - 1) / 2) (by omega) (by omega) hn (hP3.kept hk) (CellsAt.kept hS4 hk) hlts (CellsAt.kept hF3 hk) hpin hmul hws hwor (fun i _ => by rw [htw]; unfold cF; omega) (by rw [htw]; exact hq2) (by rw [htw]; exact q2b) (by rw [htw]; exact q2c))
  rw [htw, hT.out] at WO
  have NU := Lib.hid (fun W (hk : Kept W3 W) => nums_any W _ _ N 1 Z (grX G) (cF k) ((hP3.kept hk).list (cap := N)) hval (CellsAt.kept hF3 hk) (fun i _ => by unfold cF; omega) (by omega) (by omega) hqb)
  rw [HSS] at NU
  have hKW : Kept w W3 := ((hk1.trans hk2).trans hk3).trans hkA
  clear hP hF hS3 hP3 hF3 hS4 hz hrh GRX EQ HO hkA hk1 hk2 hk3 hwor hval hmul hws hqb hq2 hlts
  refine wp_region_held_drew (S := (fun w' => w'.cell? ⟨z9, 0, none⟩ = some (.slice (some ⟨g, 0, none⟩) N N) ∧ w'.cell? ⟨z9, 1, none⟩ = some (.slice (some ⟨gf, 0, none⟩) 1 1))) (by kernel_rfl) ?_ (fun hHeld => ?_)
  · (try dsimp only)
    exact ⟨Kept.cellSome (w := W3) (by repeat (first | assumption | exact Kept.refl _ | apply Kept.drew | apply Kept.drewN | apply Kept.alloc | refine Kept.trans ?_ (by assumption))) d0, Kept.cellSome (w := W3) (by repeat (first | assumption | exact Kept.refl _ | apply Kept.drew | apply Kept.drewN | apply Kept.alloc | refine Kept.trans ?_ (by assumption))) d1⟩
  refine wpAnyH_take (i := 0) (oi := { dst := some 23, op := Go.Op.load 101 (Go.Operand.tmp 9), type := 101, pos := "herd.go:91", after := #[], guard := none }) (v := ?v1) rfl (by kernel_rfl) (by kernel_rfl) (by kernel_rfl) (fun _ _ _ h => h) (Or.inl ⟨by rfl, ?hy1⟩) (by assumption) ?rs1
  case hy1 =>
    intro w hSw
    (try dsimp only at hSw)
    go_simp
    try with_reducible rfl
  (try simp only [Act.put, List.setIfInBounds_toArray, List.set_cons_zero, List.set_cons_succ])
  refine wpAnyH_take (i := 1) (oi := { dst := some 24, op := Go.Op.move (Go.Operand.tmp 7), type := 80, pos := "herd.go:91", after := #[], guard := none }) (v := ?v2) rfl (by kernel_rfl) (by kernel_rfl) (by kernel_rfl) (fun _ _ _ h => h) (Or.inl ⟨by rfl, ?hy2⟩) (by assumption) ?rs2
  case hy2 =>
    intro w hSw
    (try dsimp only at hSw)
    go_simp
    try with_reducible rfl
  (try simp only [Act.put, List.setIfInBounds_toArray, List.set_cons_zero, List.set_cons_succ])
  refine wpAnyH_take (i := 3) (oi := { dst := some 26, op := Go.Op.load 101 (Go.Operand.tmp 9), type := 101, pos := "herd.go:91", after := #[], guard := none }) (v := ?v3) rfl (by kernel_rfl) (by kernel_rfl) (by kernel_rfl) (fun _ _ _ h => h) (Or.inl ⟨by rfl, ?hy3⟩) (by assumption) ?rs3
  case hy3 =>
    intro w hSw
    (try dsimp only at hSw)
    go_simp
    try with_reducible rfl
  (try simp only [Act.put, List.setIfInBounds_toArray, List.set_cons_zero, List.set_cons_succ])
  refine wpAnyH_ready (rs := [2]) (by kernel_rfl) (by simp) ?_
  refine AllReadyH.cons (o := { dst := some 25, op := Go.Op.call { callee := Go.Callee.value (Go.Operand.func 54), args := #[Go.Operand.tmp 23, Go.Operand.tmp 24], argTypes := #[101, 80] }, type := 43, pos := "herd.go:91", after := #[{ on := 0, ground := Go.Ground.data }, { on := 1, ground := Go.Ground.data }], guard := none }) rfl (fun K2 hK2 => ?_) AllReadyH.nil
  go_simp
  (go_at_call 54; refine (WO.out _ (by repeat (first | assumption | exact Kept.refl _ | apply Kept.drew | apply Kept.drewN | apply Kept.alloc | refine Kept.trans ?_ (by assumption)))).mono ?_; rintro e u1 ⟨rfl, hu1⟩)
  (try go_wp2_with fail)
  refine hK2.out _ _ ?_ (fun hHeld => ?_)
  · (try dsimp only)
    exact ⟨Kept.cellSome (w := W3) (by repeat (first | assumption | exact Kept.refl _ | apply Kept.drew | apply Kept.drewN | apply Kept.alloc | refine Kept.trans ?_ (by assumption))) d0, Kept.cellSome (w := W3) (by repeat (first | assumption | exact Kept.refl _ | apply Kept.drew | apply Kept.drewN | apply Kept.alloc | refine Kept.trans ?_ (by assumption))) d1⟩
  clear hK2 K2
  (try simp only [Act.put, List.setIfInBounds_toArray, List.set_cons_zero, List.set_cons_succ])
  refine wpAnyH_ready (rs := [4]) (by kernel_rfl) (by simp) ?_
  refine AllReadyH.cons (o := { dst := some 27, op := Go.Op.call { callee := Go.Callee.value (Go.Operand.func 56), args := #[Go.Operand.tmp 26], argTypes := #[101] }, type := 42, pos := "herd.go:91", after := #[{ on := 3, ground := Go.Ground.data }, { on := 2, ground := Go.Ground.chain }], guard := none }) rfl (fun K2 hK2 => ?_) AllReadyH.nil
  go_simp
  (go_at_call 56; refine (NU.out _ (by repeat (first | assumption | exact Kept.refl _ | apply Kept.drew | apply Kept.drewN | apply Kept.alloc | refine Kept.trans ?_ (by assumption)))).mono ?_; rintro e u2 ⟨v2, rfl, hu2, hS2⟩; obtain ⟨ya, yb, yo, yc, rfl, hya, _⟩ := id hS2; obtain rfl := hya (by omega))
  (try go_wp2_with fail)
  refine hK2.out _ _ ?_ (fun hHeld => ?_)
  · (try dsimp only)
    exact ⟨Kept.cellSome (w := W3) (by repeat (first | assumption | exact Kept.refl _ | apply Kept.drew | apply Kept.drewN | apply Kept.alloc | refine Kept.trans ?_ (by assumption))) d0, Kept.cellSome (w := W3) (by repeat (first | assumption | exact Kept.refl _ | apply Kept.drew | apply Kept.drewN | apply Kept.alloc | refine Kept.trans ?_ (by assumption))) d1⟩
  clear hK2 K2
  (try simp only [Act.put, List.setIfInBounds_toArray, List.set_cons_zero, List.set_cons_succ])
  refine wpAnyH_take (i := 5) (oi := { dst := some 4, op := Go.Op.assign (Go.Operand.tmp 25), type := 43, pos := "herd.go:91", after := #[{ on := 2, ground := Go.Ground.data }, { on := 4, ground := Go.Ground.chain }, { on := 0, ground := Go.Ground.phase }, { on := 1, ground := Go.Ground.phase }, { on := 2, ground := Go.Ground.phase }, { on := 3, ground := Go.Ground.textOnly Go.Departure.lateStores }, { on := 4, ground := Go.Ground.textOnly Go.Departure.lateStoresUnsure }], guard := none }) (v := ?v4) rfl (by kernel_rfl) (by kernel_rfl) (by kernel_rfl) (fun _ _ _ h => h) (Or.inl ⟨by rfl, ?hy4⟩) (by assumption) ?rs4
  case hy4 =>
    intro w hSw
    (try dsimp only at hSw)
    go_simp
    try with_reducible rfl
  (try simp only [Act.put, List.setIfInBounds_toArray, List.set_cons_zero, List.set_cons_succ])
  refine wpAnyH_take (i := 6) (oi := { dst := some 5, op := Go.Op.assign (Go.Operand.tmp 27), type := 42, pos := "herd.go:91", after := #[{ on := 4, ground := Go.Ground.data }, { on := 5, ground := Go.Ground.chain }, { on := 0, ground := Go.Ground.phase }, { on := 1, ground := Go.Ground.phase }, { on := 2, ground := Go.Ground.phase }, { on := 3, ground := Go.Ground.phase }, { on := 4, ground := Go.Ground.phase }, { on := 5, ground := Go.Ground.phase }], guard := none }) (v := ?v5) rfl (by kernel_rfl) (by kernel_rfl) (by kernel_rfl) (fun _ _ _ h => h) (Or.inl ⟨by rfl, ?hy5⟩) (by assumption) ?rs5
  case hy5 =>
    intro w hSw
    (try dsimp only at hSw)
    go_simp
    try with_reducible rfl
  (try simp only [Act.put, List.setIfInBounds_toArray, List.set_cons_zero, List.set_cons_succ])
  refine wpAnyH_take (i := 7) (oi := { dst := some 6, op := Go.Op.assign (Go.Operand.const (Go.Value.int Go.IntKind.i64 0)), type := 28, pos := "herd.go:91", after := #[{ on := 6, ground := Go.Ground.chain }, { on := 0, ground := Go.Ground.phase }, { on := 1, ground := Go.Ground.phase }, { on := 2, ground := Go.Ground.phase }, { on := 3, ground := Go.Ground.phase }, { on := 4, ground := Go.Ground.phase }, { on := 5, ground := Go.Ground.phase }, { on := 6, ground := Go.Ground.phase }], guard := none }) (v := ?v6) rfl (by kernel_rfl) (by kernel_rfl) (by kernel_rfl) (fun _ _ _ h => h) (Or.inl ⟨by rfl, ?hy6⟩) (by assumption) ?rs6
  case hy6 =>
    intro w hSw
    (try dsimp only at hSw)
    go_simp
    try with_reducible rfl
  (try simp only [Act.put, List.setIfInBounds_toArray, List.set_cons_zero, List.set_cons_succ])
  refine wpAnyH_done (by kernel_rfl) ?_ _
  have hKN : Kept W3 u2 := (by repeat (first | assumption | exact Kept.refl _ | apply Kept.drew | apply Kept.drewN | apply Kept.alloc | refine Kept.trans ?_ (by assumption)))
  clear hu1 hu2 d0 d1 hHeld
  go_wp2_with fail
  go_ret3
  exact ⟨_, rfl, hKW.trans hKN, hS2⟩
theorem Greatest_any (w : World) (n : Int) (v : Value) (m : Nat) (A B : Nat → Int) (hP : PairsAt w v m A B) (hm : m ≤ 1000000) :
    Calls Tryz.prog 28 #[.int .i64 n, v] w (GreatestAns w n A B m) := by
  cases hg : goodH n A B m with
  | false =>
    have HO := Lib.hid (herdOf_any w n v m A B hP hm)
    unfold HerdOfPost at HO
    simp only [hg, Bool.false_eq_true, if_false] at HO
    unfold GreatestAns
    simp only [hg, Bool.false_eq_true, if_false]
    go_enter Tryz.func28, Tryz.ntmps28
    go_wp2_with (first | (go_at_call 41; refine HO.out.mono ?_; clear HO; rintro e w1 ⟨hk1, rfl⟩))
    go_ret3
    exact ⟨hk1, rfl⟩
  | true =>
    have hgb := hg
    unfold goodH at hgb
    simp only [Bool.and_eq_true, decide_eq_true_eq] at hgb
    obtain ⟨⟨⟨hn1, hn9⟩, _⟩, hp⟩ := hgb
    obtain ⟨N, rfl⟩ : ∃ N : Nat, n = N := ⟨n.toNat, by omega⟩
    unfold GreatestAns
    simp only [hg, if_true, Int.toNat_natCast]
    exact (Greatest_good w N v m A B hP hm (by omega) (by omega) hg (alongH_lt (n := N) (by omega) hp) (fun i j hi hb => alongs_in m hp hb)).mono fun e w' ⟨v', h1, h2, h3⟩ => ⟨h2, v', h1, h3⟩
end Go.Proofs.YtlnlddnjalfamaaGreatDoor
