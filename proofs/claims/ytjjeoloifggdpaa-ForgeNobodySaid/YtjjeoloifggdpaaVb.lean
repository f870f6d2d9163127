/-
  Where a village lies in memory, and what stores into its parts make of it.
-/
import Derived.Test.YtjjeoloifggdpaaChecked
import Derived.Test.YtjjeoloifggdpaaRep
import Derived.Test.YtjjeoloifggdpaaVa
import Derived.Outline
import Derived.Deep.QuietTactic
import Derived.BigQuiet
import Derived.Lib.Hide
import Derived.Lib.OwnBridge
namespace Go.Proofs.Ytjjeoloifggdpaa
open Go.RowKit Go.Deep

def natV (k : Nat) : Value := .int .i64 (k : Int)
def natsV (l : List Nat) : List Value := l.map natV
theorem natsV_len (l : List Nat) : (natsV l).length = l.length := by simp [natsV]
theorem natsV_snoc (l : List Nat) (x : Nat) : natsV (l ++ [x]) = natsV l ++ [natV x] := by simp [natsV]
def msgV (m : Msg) : Value := .iface (if m.tok then 98 else 96) (.agg #[natV m.src, natV m.dst])
def msgsV (l : List Msg) : List Value := l.map msgV
theorem msgsV_len (l : List Msg) : (msgsV l).length = l.length := by simp [msgsV]
theorem msgsV_snoc (l : List Msg) (x : Msg) : msgsV (l ++ [x]) = msgsV l ++ [msgV x] := by simp [msgsV]
/-- the cells of a village's box -/
def bxV (p q n cq : Nat) (vo vf : Value) (sent : Nat) : Nat → Value := fun k =>
  if k = 0 then .pointer (some ⟨p, 0, none⟩) else if k = 1 then vo else if k = 2 then .slice (some ⟨q, 0, none⟩) n cq else if k = 3 then vf else natV sent
/-- the cells of the smiths -/
def stV (way : Nat → Nat) (vl : Nat → Value) (asked forg : Nat → Bool) : Nat → Value := fun k =>
  if k % 4 = 0 then natV (way (k / 4)) else if k % 4 = 1 then vl (k / 4) else if k % 4 = 2 then .bool (asked (k / 4)) else .bool (forg (k / 4))
theorem stV0 (way : Nat → Nat) (vl : Nat → Value) (asked forg : Nat → Bool) (i : Nat) : stV way vl asked forg (i * 4) = natV (way i) := by
  unfold stV; rw [if_pos (by omega), show i * 4 / 4 = i by omega]
theorem stV1 (way : Nat → Nat) (vl : Nat → Value) (asked forg : Nat → Bool) (i : Nat) : stV way vl asked forg (i * 4 + 1) = vl i := by
  unfold stV; rw [if_neg (by omega), if_pos (by omega), show (i * 4 + 1) / 4 = i by omega]
theorem stV2 (way : Nat → Nat) (vl : Nat → Value) (asked forg : Nat → Bool) (i : Nat) : stV way vl asked forg (i * 4 + 2) = .bool (asked i) := by
  unfold stV; rw [if_neg (by omega), if_neg (by omega), if_pos (by omega), show (i * 4 + 2) / 4 = i by omega]
theorem stV3 (way : Nat → Nat) (vl : Nat → Value) (asked forg : Nat → Bool) (i : Nat) : stV way vl asked forg (i * 4 + 3) = .bool (forg i) := by
  unfold stV; rw [if_neg (by omega), if_neg (by omega), if_neg (by omega), show (i * 4 + 3) / 4 = i by omega]
theorem stV_set0 (way : Nat → Nat) (vl : Nat → Value) (asked forg : Nat → Bool) (i x k : Nat) : stV (upd way i x) vl asked forg k = if k = i * 4 then natV x else stV way vl asked forg k := by
  unfold stV upd
  by_cases e : k = i * 4
  · subst e; rw [if_pos (by omega), if_pos (by omega), if_pos rfl]
  · rw [if_neg e]
    by_cases e0 : k % 4 = 0
    · rw [if_pos e0, if_pos e0, if_neg (by omega)]
    · rw [if_neg e0, if_neg e0]
theorem stV_set1 (way : Nat → Nat) (vl : Nat → Value) (asked forg : Nat → Bool) (i : Nat) (x : Value) (k : Nat) : stV way (upd vl i x) asked forg k = if k = i * 4 + 1 then x else stV way vl asked forg k := by
  unfold stV upd
  by_cases e : k = i * 4 + 1
  · subst e; rw [if_neg (by omega), if_pos (by omega), if_pos (by omega), if_pos rfl]
  · rw [if_neg e]
    by_cases e0 : k % 4 = 1
    · rw [if_neg (by omega), if_pos e0, if_neg (by omega), if_neg (by omega), if_pos e0]
    · by_cases e1 : k % 4 = 0
      · rw [if_pos e1, if_pos e1]
      · rw [if_neg e1, if_neg e0, if_neg e1, if_neg e0]
theorem stV_set2 (way : Nat → Nat) (vl : Nat → Value) (asked forg : Nat → Bool) (i : Nat) (x : Bool) (k : Nat) : stV way vl (upd asked i x) forg k = if k = i * 4 + 2 then .bool x else stV way vl asked forg k := by
  unfold stV upd
  by_cases e : k = i * 4 + 2
  · subst e; rw [if_neg (by omega), if_neg (by omega), if_pos (by omega), if_pos (by omega), if_pos rfl]
  · rw [if_neg e]
    by_cases e1 : k % 4 = 0
    · rw [if_pos e1, if_pos e1]
    · by_cases e2 : k % 4 = 1
      · rw [if_neg e1, if_pos e2, if_neg e1, if_pos e2]
      · by_cases e3 : k % 4 = 2
        · rw [if_neg e1, if_neg e2, if_pos e3, if_neg (by omega), if_neg e1, if_neg e2, if_pos e3]
        · rw [if_neg e1, if_neg e2, if_neg e3, if_neg e1, if_neg e2, if_neg e3]
theorem stV_set3 (way : Nat → Nat) (vl : Nat → Value) (asked forg : Nat → Bool) (i : Nat) (x : Bool) (k : Nat) : stV way vl asked (upd forg i x) k = if k = i * 4 + 3 then .bool x else stV way vl asked forg k := by
  unfold stV upd
  by_cases e : k = i * 4 + 3
  · subst e; rw [if_neg (by omega), if_neg (by omega), if_neg (by omega), if_pos (by omega), if_pos rfl]
  · rw [if_neg e]
    by_cases e1 : k % 4 = 0
    · rw [if_pos e1, if_pos e1]
    · by_cases e2 : k % 4 = 1
      · rw [if_neg e1, if_pos e2, if_neg e1, if_pos e2]
      · by_cases e3 : k % 4 = 2
        · rw [if_neg e1, if_neg e2, if_pos e3, if_neg e1, if_neg e2, if_pos e3]
        · rw [if_neg e1, if_neg e2, if_neg e3, if_neg (by omega), if_neg e1, if_neg e2, if_neg e3]
/-- a row of one type is none of another -/
theorem row_own {w : World} {b t n : Nat} {f : Nat → Value} {base e size m : Nat} {v : Value} {xs : List Value} (h : w.rowIs b t n f) (ho : w.ownsRow base e size v m xs) (hT : e ≠ t) : v.ownBlock ≠ some b := by
  obtain ⟨c, hb, _⟩ := h
  intro e0
  rcases ho.2 with ⟨rfl, _⟩ | ⟨g, cap, cur, rfl, _, h3, _⟩
  · cases e0
  · have e2 : g = b := by simpa [Value.ownBlock] using e0
    subst e2
    rw [hb] at h3
    injection h3 with h3
    injection h3 with _ h3
    exact hT h3.symm
theorem own_own {w : World} {base e size m base2 e2 size2 m2 : Nat} {v u : Value} {xs ys : List Value} (h : w.ownsRow base e size v m xs) (ho : w.ownsRow base2 e2 size2 u m2 ys) (hT : e ≠ e2) : ∀ b, v.ownBlock = some b → u.ownBlock ≠ some b := by
  intro b hb e0
  rcases h.2 with ⟨rfl, _⟩ | ⟨g, cap, cur, rfl, _, h3, _⟩
  · cases hb
  · rcases ho.2 with ⟨rfl, _⟩ | ⟨g2, cap2, cur2, rfl, _, h4, _⟩
    · cases e0
    · have e1 : g = b := by simpa [Value.ownBlock] using hb
      have e3 : g2 = b := by simpa [Value.ownBlock] using e0
      subst e1 e3
      rw [h3] at h4
      injection h4 with h4
      injection h4 with _ h4
      exact hT h4
theorem row_row {w : World} {b t n b2 t2 n2 : Nat} {f f2 : Nat → Value} (h : w.rowIs b t n f) (k : w.rowIs b2 t2 n2 f2) (hT : t ≠ t2) : b ≠ b2 := by
  rintro rfl
  obtain ⟨c, hb, _⟩ := h
  obtain ⟨c2, hb2, _⟩ := k
  rw [hb] at hb2
  injection hb2 with h3
  injection h3 with _ h3
  exact hT h3
/-- an owned row lies in its own block alone -/
theorem own_frame {w w' : World} {S : Nat → Prop} {base e size n : Nat} {v : Value} {xs : List Value} (h : w.ownsRow base e size v n xs) (k : KeptX S w w') (hS : ∀ b, v.ownBlock = some b → ¬ S b) : w'.ownsRow base e size v n xs := by
  obtain ⟨h1, h⟩ := h
  refine ⟨h1, ?_⟩
  rcases h with h | ⟨g, cap, cur, e1, e2, e3, rest⟩
  · exact .inl h
  · have hlt : g < w.heap.size := (Array.getElem?_eq_some_iff.1 e3).1
    exact .inr ⟨g, cap, cur, e1, e2, (k.block g hlt (hS g (by rw [e1]; rfl))).trans e3, rest⟩
theorem own_lt {w : World} {base e size n : Nat} {v : Value} {xs : List Value} (h : w.ownsRow base e size v n xs) {b : Nat} (hb : v.ownBlock = some b) : b < w.heap.size := (h.lt b hb).2
/-- the blocks of S, and what is new -/
def grow (S : Nat → Prop) (w w' : World) : Nat → Prop := fun b => S b ∨ (w.heap.size ≤ b ∧ b < w'.heap.size)
/-- a village's box lies in block p, its smiths in block q -/
structure VilP (w : World) (p q : Nat) (vo vf : Value) (vl : Nat → Value) (cq : Nat) (V : Vil) (S : Nat → Prop) : Prop where
  box : w.rowIs p 69 5 (bxV p q V.n cq vo vf V.sent)
  row : ∃ m g, V.n * 4 ≤ m ∧ w.rowIs q 75 m g ∧ ∀ k, k < V.n * 4 → g k = stV V.way vl V.asked V.forg k
  on : w.ownsRow 0 3 1 vo V.n (natsV ((List.range V.n).map V.on))
  lst : ∀ i, i < V.n → w.ownsRow 0 3 1 (vl i) (V.lst i).length (natsV (V.lst i))
  fl : w.ownsRow 0 80 1 vf V.fl.length (msgsV V.fl)
  ll : ∀ i j, i < V.n → j < V.n → i ≠ j → ∀ b, (vl i).ownBlock = some b → (vl j).ownBlock ≠ some b
  lo : ∀ i, i < V.n → ∀ b, (vl i).ownBlock = some b → vo.ownBlock ≠ some b
  sp : S p
  sq : S q
  so : ∀ b, vo.ownBlock = some b → S b
  sl : ∀ i, i < V.n → ∀ b, (vl i).ownBlock = some b → S b
  sf : ∀ b, vf.ownBlock = some b → S b
  fits : ∀ b, S b → b < w.heap.size
def VilAt (w : World) (p q : Nat) (V : Vil) (S : Nat → Prop) : Prop := ∃ vo vf vl cq, VilP w p q vo vf vl cq V S
section
variable {w : World} {p q : Nat} {vo vf : Value} {vl : Nat → Value} {cq : Nat} {V : Vil} {S : Nat → Prop}
theorem VilP.pq (h : VilP w p q vo vf vl cq V S) : p ≠ q := by
  obtain ⟨m, g, _, hr, _⟩ := h.row
  exact row_row h.box hr (by decide)
theorem VilP.frame {w' : World} {T : Nat → Prop} (h : VilP w p q vo vf vl cq V S) (k : KeptX T w w') (hT : ∀ b, S b → ¬ T b) : VilP w' p q vo vf vl cq V S := by
  obtain ⟨m, g, hm, hr, hg⟩ := h.row
  exact ⟨k.row h.box (hT _ h.sp), ⟨m, g, hm, k.row hr (hT _ h.sq), hg⟩, own_frame h.on k fun b hb => hT b (h.so b hb), fun i hi => own_frame (h.lst i hi) k fun b hb => hT b (h.sl i hi b hb),
    own_frame h.fl k fun b hb => hT b (h.sf b hb), h.ll, h.lo, h.sp, h.sq, h.so, h.sl, h.sf, fun b hb => Nat.lt_of_lt_of_le (h.fits b hb) k.size⟩
theorem VilAt.frame {w' : World} {T : Nat → Prop} (h : VilAt w p q V S) (k : KeptX T w w') (hT : ∀ b, S b → ¬ T b) : VilAt w' p q V S := by
  obtain ⟨vo, vf, vl, cq, h⟩ := h
  exact ⟨vo, vf, vl, cq, h.frame k hT⟩
theorem VilAt.kept {w' : World} (h : VilAt w p q V S) (k : Kept w w') : VilAt w' p q V S := h.frame k fun _ _ h => h
theorem VilP.kept {w' : World} (h : VilP w p q vo vf vl cq V S) (k : Kept w w') : VilP w' p q vo vf vl cq V S := h.frame k fun _ _ h => h
theorem VilP.wide {T : Nat → Prop} (h : VilP w p q vo vf vl cq V S) (hT : ∀ b, S b → T b) (hF : ∀ b, T b → b < w.heap.size) : VilP w p q vo vf vl cq V T :=
  ⟨h.box, h.row, h.on, h.lst, h.fl, h.ll, h.lo, hT _ h.sp, hT _ h.sq, fun b hb => hT b (h.so b hb), fun i hi b hb => hT b (h.sl i hi b hb), fun b hb => hT b (h.sf b hb), hF⟩
theorem VilAt.wide {T : Nat → Prop} (h : VilAt w p q V S) (hT : ∀ b, S b → T b) (hF : ∀ b, T b → b < w.heap.size) : VilAt w p q V T := by
  obtain ⟨vo, vf, vl, cq, h⟩ := h
  exact ⟨vo, vf, vl, cq, h.wide hT hF⟩
/-- the smiths' cells -/
theorem VilP.cell (h : VilP w p q vo vf vl cq V S) {k : Nat} (hk : k < V.n * 4) : w.cell? ⟨q, k, none⟩ = some (stV V.way vl V.asked V.forg k) ∧ w.frozen? ⟨q, k, none⟩ = false := by
  obtain ⟨m, g, hm, hr, hg⟩ := h.row
  exact ⟨by rw [← hg k hk]; exact hr.cell (by omega), hr.frozen k⟩
/-- a store into one cell of the smiths -/
theorem VilP.setq (h : VilP w p q vo vf vl cq V S) (k : Nat) (x : Value) {way' : Nat → Nat} {asked' forg' : Nat → Bool} (hs : ∀ j, stV way' vl asked' forg' j = if j = k then x else stV V.way vl V.asked V.forg j) :
    VilP (w.setCell ⟨q, k, none⟩ x) p q vo vf vl cq { V with way := way', asked := asked', forg := forg' } S := by
  obtain ⟨m, g, hm, hr, hg⟩ := h.row
  have kx : KeptX (fun b => b = q) w (w.setCell ⟨q, k, none⟩ x) := (KeptX.refl _ w).setIn k x
  refine ⟨kx.row h.box h.pq, ⟨m, _, hm, hr.set k x, fun j hj => ?_⟩, own_frame h.on kx ?_, fun i hi => own_frame (h.lst i hi) kx ?_, own_frame h.fl kx ?_, h.ll, h.lo, h.sp, h.sq, h.so, h.sl, h.sf, fun b hb => Nat.lt_of_lt_of_le (h.fits b hb) kx.size⟩
  · rw [hs j, hg j hj]
  · rintro b hb rfl; exact row_own hr h.on (by decide) hb
  · rintro b hb rfl; exact row_own hr (h.lst i hi) (by decide) hb
  · rintro b hb rfl; exact row_own hr h.fl (by decide) hb
theorem VilP.setWay (h : VilP w p q vo vf vl cq V S) (i x : Nat) : VilP (w.setCell ⟨q, i * 4, none⟩ (natV x)) p q vo vf vl cq { V with way := upd V.way i x } S := h.setq _ _ fun j => stV_set0 _ _ _ _ i x j
theorem VilP.setAsked (h : VilP w p q vo vf vl cq V S) (i : Nat) (x : Bool) : VilP (w.setCell ⟨q, i * 4 + 2, none⟩ (.bool x)) p q vo vf vl cq { V with asked := upd V.asked i x } S := h.setq _ _ fun j => stV_set2 _ _ _ _ i x j
theorem VilP.setForg (h : VilP w p q vo vf vl cq V S) (i : Nat) (x : Bool) : VilP (w.setCell ⟨q, i * 4 + 3, none⟩ (.bool x)) p q vo vf vl cq { V with forg := upd V.forg i x } S := h.setq _ _ fun j => stV_set3 _ _ _ _ i x j
/-- a smith's list turns into another one, in its own block or in a new one, and is stored -/
theorem VilP.setList {w1 : World} (h : VilP w p q vo vf vl cq V S) {i : Nat} (hi : i < V.n) (kx : KeptX (fun b => (vl i).ownBlock = some b) w w1) (v' : Value) (l' : List Nat) (hO : w1.ownsRow 0 3 1 v' l'.length (natsV l'))
    (hb : ∀ b, v'.ownBlock = some b → (vl i).ownBlock = some b ∨ (w.heap.size ≤ b ∧ b < w1.heap.size)) : VilP (w1.setCell ⟨q, i * 4 + 1, none⟩ v') p q vo vf (upd vl i v') cq { V with lst := upd V.lst i l' } (grow S w w1) := by
  obtain ⟨m, g, hm, hr, hg⟩ := h.row
  have hli := h.lst i hi
  have hr1 : w1.rowIs q 75 m g := kx.row hr (row_own hr hli (by decide))
  have hbx1 := kx.row h.box (row_own h.box hli (by decide))
  have hon1 := own_frame h.on kx fun b hb h2 => h.lo i hi b h2 hb
  have hfl1 := own_frame h.fl kx fun b hb h2 => own_own h.fl hli (by decide) b hb h2
  have hls1 : ∀ j, j < V.n → j ≠ i → w1.ownsRow 0 3 1 (vl j) (V.lst j).length (natsV (V.lst j)) := fun j hj hji => own_frame (h.lst j hj) kx fun b hb h2 => h.ll j i hj hi hji b hb h2
  have k2 : KeptX (fun b => b = q) w1 (w1.setCell ⟨q, i * 4 + 1, none⟩ v') := (KeptX.refl _ w1).setIn _ v'
  have hnew : ∀ b, v'.ownBlock = some b → ∀ u, (∀ c, u = some c → c < w.heap.size) → ((vl i).ownBlock = some b → u ≠ some b) → u ≠ some b := by
    intro b hb1 u hu h1 h2
    rcases hb b hb1 with h3 | h3
    · exact h1 h3 h2
    · have := hu b h2; omega
  refine ⟨k2.row hbx1 h.pq, ⟨m, _, hm, hr1.set _ v', fun j hj => ?_⟩, own_frame hon1 k2 ?_, fun j hj => ?_, own_frame hfl1 k2 ?_, fun a c ha hc hac b hb1 => ?_, fun a ha b hb1 => ?_, .inl h.sp, .inl h.sq, fun b hb => .inl (h.so b hb), fun j hj b hb1 => ?_, fun b hb => .inl (h.sf b hb), fun b hb => ?_⟩
  · rw [stV_set1, hg j hj]
  · rintro b hb rfl; exact row_own hr1 hon1 (by decide) hb
  · show World.ownsRow _ 0 3 1 (upd vl i v' j) (upd V.lst i l' j).length (natsV (upd V.lst i l' j))
    by_cases e : j = i
    · subst e
      rw [upd_same, upd_same]
      exact own_frame hO k2 (by rintro b hb rfl; exact row_own hr1 hO (by decide) hb)
    · rw [upd_other _ _ e, upd_other _ _ e]
      exact own_frame (hls1 j hj e) k2 (by rintro b hb rfl; exact row_own hr1 (hls1 j hj e) (by decide) hb)
  · rintro b hb rfl; exact row_own hr1 hfl1 (by decide) hb
  · by_cases ea : a = i
    · subst ea
      rw [upd_same] at hb1
      rw [upd_other _ _ (fun e => hac e.symm)]
      exact hnew b hb1 _ (fun d hd => own_lt (h.lst c hc) hd) (fun h3 h4 => h.ll a c hi hc hac b h3 h4)
    · rw [upd_other _ _ ea] at hb1
      by_cases ec : c = i
      · subst ec
        rw [upd_same]
        intro h2
        rcases hb b h2 with h3 | h3
        · exact h.ll a c ha hi hac b hb1 h3
        · have := own_lt (h.lst a ha) hb1; omega
      · rw [upd_other _ _ ec]; exact h.ll a c ha hc hac b hb1
  · by_cases ea : a = i
    · subst ea
      rw [upd_same] at hb1
      exact hnew b hb1 _ (fun d hd => own_lt h.on hd) (fun h3 h4 => h.lo a hi b h3 h4)
    · rw [upd_other _ _ ea] at hb1; exact h.lo a ha b hb1
  · by_cases e : j = i
    · subst e
      rw [upd_same] at hb1
      rcases hb b hb1 with h3 | h3
      · exact .inl (h.sl j hj b h3)
      · exact .inr h3
    · rw [upd_other _ _ e] at hb1; exact .inl (h.sl j hj b hb1)
  · rw [nblk_setCell]
    rcases hb with hb | hb
    · exact Nat.lt_of_lt_of_le (h.fits b hb) kx.size
    · exact hb.2
/-- the messages turn into others, in their own block or in a new one, and are stored -/
theorem VilP.setFl {w1 : World} (h : VilP w p q vo vf vl cq V S) (kx : KeptX (fun b => vf.ownBlock = some b) w w1) (v' : Value) (l' : List Msg) (hO : w1.ownsRow 0 80 1 v' l'.length (msgsV l'))
    (hb : ∀ b, v'.ownBlock = some b → vf.ownBlock = some b ∨ (w.heap.size ≤ b ∧ b < w1.heap.size)) : VilP (w1.setCell ⟨p, 3, none⟩ v') p q vo v' vl cq { V with fl := l' } (grow S w w1) := by
  obtain ⟨m, g, hm, hr, hg⟩ := h.row
  have hr1 : w1.rowIs q 75 m g := kx.row hr (row_own hr h.fl (by decide))
  have hbx1 := kx.row h.box (row_own h.box h.fl (by decide))
  have hon1 := own_frame h.on kx fun b hb h2 => own_own h.on h.fl (by decide) b hb h2
  have hls1 : ∀ j, j < V.n → w1.ownsRow 0 3 1 (vl j) (V.lst j).length (natsV (V.lst j)) := fun j hj => own_frame (h.lst j hj) kx fun b hb h2 => own_own (h.lst j hj) h.fl (by decide) b hb h2
  have k2 : KeptX (fun b => b = p) w1 (w1.setCell ⟨p, 3, none⟩ v') := (KeptX.refl _ w1).setIn _ v'
  refine ⟨?_, ⟨m, g, hm, k2.row hr1 (fun e => h.pq e.symm), hg⟩, own_frame hon1 k2 ?_, fun j hj => own_frame (hls1 j hj) k2 ?_, own_frame hO k2 ?_, h.ll, h.lo, .inl h.sp, .inl h.sq, fun b hb => .inl (h.so b hb), fun j hj b hb => .inl (h.sl j hj b hb), fun b hb1 => ?_, fun b hb => ?_⟩
  · exact (hbx1.set 3 v').congr fun j hj => by
      unfold bxV
      rcases (by omega : j = 0 ∨ j = 1 ∨ j = 2 ∨ j = 3 ∨ j = 4) with rfl | rfl | rfl | rfl | rfl <;> rfl
  · rintro b hb rfl; exact row_own hbx1 hon1 (by decide) hb
  · rintro b hb rfl; exact row_own hbx1 (hls1 j hj) (by decide) hb
  · rintro b hb rfl; exact row_own hbx1 hO (by decide) hb
  · rcases hb b hb1 with h3 | h3
    · exact .inl (h.sf b h3)
    · exact .inr h3
  · rw [nblk_setCell]
    rcases hb with hb | hb
    · exact Nat.lt_of_lt_of_le (h.fits b hb) kx.size
    · exact hb.2
theorem VilP.setSent (h : VilP w p q vo vf vl cq V S) (x : Nat) : VilP (w.setCell ⟨p, 4, none⟩ (natV x)) p q vo vf vl cq { V with sent := x } S := by
  obtain ⟨m, g, hm, hr, hg⟩ := h.row
  have k2 : KeptX (fun b => b = p) w (w.setCell ⟨p, 4, none⟩ (natV x)) := (KeptX.refl _ w).setIn _ _
  refine ⟨?_, ⟨m, g, hm, k2.row hr (fun e => h.pq e.symm), hg⟩, own_frame h.on k2 ?_, fun j hj => own_frame (h.lst j hj) k2 ?_, own_frame h.fl k2 ?_, h.ll, h.lo, h.sp, h.sq, h.so, h.sl, h.sf, fun b hb => Nat.lt_of_lt_of_le (h.fits b hb) k2.size⟩
  · exact (h.box.set 4 (natV x)).congr fun j hj => by
      unfold bxV
      rcases (by omega : j = 0 ∨ j = 1 ∨ j = 2 ∨ j = 3 ∨ j = 4) with rfl | rfl | rfl | rfl | rfl <;> rfl
  · rintro b hb rfl; exact row_own h.box h.on (by decide) hb
  · rintro b hb rfl; exact row_own h.box (h.lst j hj) (by decide) hb
  · rintro b hb rfl; exact row_own h.box h.fl (by decide) hb
end
/-- what a call on a village does to memory: it turns the village's own blocks alone, and lays new ones -/
def VPost (w : World) (p q : Nat) (V' : Vil) (S : Nat → Prop) (e0 : Ending) (e : Ending) (w' : World) : Prop := e = e0 ∧ VilAt w' p q V' (grow S w w') ∧ KeptX S w w'
/-- one call behind another -/
theorem VilAt.then {w w1 w2 : World} {p q : Nat} {V : Vil} {S : Nat → Prop} (h : VilAt w2 p q V (grow (grow S w w1) w1 w2)) (hF : ∀ b, S b → b < w.heap.size) (k1 : KeptX S w w1) (k2 : KeptX (grow S w w1) w1 w2) : VilAt w2 p q V (grow S w w2) ∧ KeptX S w w2 := by
  have h1 := k1.size
  have h2 := k2.size
  refine ⟨h.wide (fun b hb => ?_) (fun b hb => ?_), k1.step k2 (fun b hb => ?_)⟩
  · unfold grow at *; rcases hb with (hb | hb) | hb
    · exact .inl hb
    · exact .inr ⟨hb.1, by omega⟩
    · exact .inr ⟨by omega, hb.2⟩
  · unfold grow at hb; rcases hb with hb | hb
    · have := hF b hb; omega
    · exact hb.2
  · unfold grow at hb; rcases hb with hb | hb
    · exact .inl hb
    · exact .inr hb.1
theorem VilAt.fits {w : World} {p q : Nat} {V : Vil} {S : Nat → Prop} (h : VilAt w p q V S) : ∀ b, S b → b < w.heap.size := by
  obtain ⟨vo, vf, vl, cq, h⟩ := h
  exact h.fits
end Go.Proofs.Ytjjeoloifggdpaa
