/-
  The program's sums of decimal numbers.
-/
import Derived.Test.YtomnjcjipdnnfaaNy
import Derived.Test.YtomnjcjipdnnfaaSc
namespace Go.Proofs.Ytomnjcjipdnnfaa
open Go.RowKit Go.Deep

/-- the digit at a place -/
def digF (l : List UInt8) (i : Nat) : Int := match l[i]? with
  | some b => (b.toNat : Int) - 48
  | none => 0
/-- the value of the last t of n digits -/
def loF (A : Nat → Int) (n : Nat) : Nat → Int
  | 0 => 0
  | t + 1 => loF A n t + (if t < n then A (n - 1 - t) else 0) * 10 ^ t
/-- the sum of the last t digits -/
structure SumIn (a b : List UInt8) (S : Nat → Int) (c : Int) (t : Nat) : Prop where
  dig : ∀ j, a.length - t ≤ j → j < a.length → 48 ≤ S j ∧ S j ≤ 57
  val : loF (fun j => S j - 48) a.length t + c * 10 ^ t = loF (digF a) a.length t + loF (digF b) b.length t
theorem loF_congr {A B : Nat → Int} {n t : Nat} (h : ∀ j, j < n → n ≤ j + t → A j = B j) : loF A n t = loF B n t := by
  induction t with
  | zero => rfl
  | succ t ih =>
    simp only [loF]
    rw [ih (fun j h1 h2 => h j h1 (by omega))]
    by_cases e : t < n
    · rw [if_pos e, if_pos e, h (n - 1 - t) (by omega) (by omega)]
    · rw [if_neg e, if_neg e]
theorem loF_snoc (l : List UInt8) (b : UInt8) (t : Nat) : loF (digF (l ++ [b])) (l.length + 1) (t + 1) = ((b.toNat : Int) - 48) + 10 * loF (digF l) l.length t := by
  induction t with
  | zero =>
    simp only [loF]
    rw [if_pos (by omega)]
    simp [digF]
  | succ t ih =>
    have e : loF (digF (l ++ [b])) (l.length + 1) (t + 1 + 1) = loF (digF (l ++ [b])) (l.length + 1) (t + 1) + (if t + 1 < l.length + 1 then digF (l ++ [b]) (l.length + 1 - 1 - (t + 1)) else 0) * 10 ^ (t + 1) := rfl
    have e2 : loF (digF l) l.length (t + 1) = loF (digF l) l.length t + (if t < l.length then digF l (l.length - 1 - t) else 0) * 10 ^ t := rfl
    rw [e, ih, e2, Int.pow_succ]
    by_cases h : t < l.length
    · rw [if_pos (by omega), if_pos h]
      have : digF (l ++ [b]) (l.length + 1 - 1 - (t + 1)) = digF l (l.length - 1 - t) := by
        unfold digF
        rw [show l.length + 1 - 1 - (t + 1) = l.length - 1 - t by omega, List.getElem?_append_left (by omega)]
      rw [this]
      grind
    · rw [if_neg (by omega), if_neg h]
      omega
theorem loF_dec : ∀ (n : Nat) (l : List UInt8) (t : Nat), l.length = n → n ≤ t → loF (digF l) l.length t = decV l := by
  intro n
  induction n with
  | zero =>
    intro l t hn _
    obtain rfl : l = [] := List.length_eq_zero_iff.1 hn
    induction t with
    | zero => rfl
    | succ t ih => simp only [loF]; rw [ih (by omega)]; simp
  | succ n ih =>
    intro l t hn ht
    have hle : l ≠ [] := fun h => by rw [h] at hn; simp at hn
    obtain ⟨l0, b, rfl⟩ : ∃ l0 b, l = l0 ++ [b] := ⟨l.dropLast, l.getLast hle, (List.dropLast_concat_getLast hle).symm⟩
    obtain ⟨t, rfl⟩ : ∃ s, t = s + 1 := ⟨t - 1, by omega⟩
    have hl0 : l0.length = n := by simpa using hn
    rw [show (l0 ++ [b]).length = l0.length + 1 by simp, loF_snoc, ih l0 t hl0 (by omega), decV_snoc]
    omega
theorem fold_split (l : List UInt8) (a : Int) : l.foldl (fun a b => a * 10 + ((b.toNat : Int) - 48)) a = a * 10 ^ l.length + decV l := by
  induction l generalizing a with
  | nil => simp [decV]
  | cons b l ih =>
    unfold decV
    simp only [List.foldl_cons, List.length_cons]
    rw [ih, ih (0 * 10 + _), Int.pow_succ]
    grind
theorem decV_cons (h : UInt8) (tl : List UInt8) : decV (h :: tl) = ((h.toNat : Int) - 48) * 10 ^ tl.length + decV tl := by
  unfold decV
  simp only [List.foldl_cons, Int.zero_mul, Int.zero_add]
  exact fold_split tl _
theorem decV_nonneg {l : List UInt8} (hl : DecD l) : 0 ≤ decV l := fold_ge l hl 0 (Int.le_refl _)
theorem decV_lt {l : List UInt8} (hl : DecD l) : decV l < 10 ^ l.length := by
  induction l with
  | nil => simp [decV]
  | cons b l ih =>
    have hb := hl b (List.mem_cons_self ..)
    have := ih (fun c hc => hl c (List.mem_cons_of_mem _ hc))
    rw [decV_cons, List.length_cons, Int.pow_succ]
    have h2 : ((b.toNat : Int) - 48) * 10 ^ l.length ≤ 9 * 10 ^ l.length := Int.mul_le_mul_of_nonneg_right (by omega) (Int.le_of_lt (Int.pow_pos (by omega)))
    omega
theorem decV_ge {l : List UInt8} (hl : DecD l) (hne : l ≠ []) (hh : l.head?.map (fun b => b.toNat) ≠ some 48) : 10 ^ (l.length - 1) ≤ decV l := by
  cases l with
  | nil => exact absurd rfl hne
  | cons b l =>
    have hb := hl b (List.mem_cons_self ..)
    have hb2 : b.toNat ≠ 48 := fun h => hh (by simp [h])
    have h1 := decV_nonneg (fun c hc => hl c (List.mem_cons_of_mem _ hc) : DecD l)
    rw [decV_cons]
    have h2 : 1 * 10 ^ l.length ≤ ((b.toNat : Int) - 48) * 10 ^ l.length := Int.mul_le_mul_of_nonneg_right (by omega) (Int.le_of_lt (Int.pow_pos (by omega)))
    simp only [List.length_cons, Nat.add_sub_cancel]
    omega
theorem no_lead {L p : List UInt8} (hL : DecD L) (hp : DecD p) (hpn : p ≠ []) (hp2 : p.head?.map (fun b => b.toNat) ≠ some 48) (hn : L.length = p.length) (hv : decV p ≤ decV L) : L.head?.map (fun b => b.toNat) ≠ some 48 := by
  intro h
  cases L with
  | nil => simp at h
  | cons b L =>
    have hb : b.toNat = 48 := by simpa using h
    have h1 := decV_ge hp hpn hp2
    have h2 := decV_lt (fun c hc => hL c (List.mem_cons_of_mem _ hc) : DecD L)
    rw [decV_cons, hb] at hv
    rw [← hn] at h1
    simp only [List.length_cons, Nat.add_sub_cancel] at h1
    omega
theorem SumIn.step {a b : List UInt8} {S : Nat → Int} {c : Int} {t i : Nat} (h : SumIn a b S c t) (ht : t < a.length) (hi : i = a.length - 1 - t) {s : Int} (hs : s = digF a i + c + (if t < b.length then digF b (b.length - 1 - t) else 0)) : SumIn a b (fun j => if j = i then 48 + s % 10 else S j) (s / 10) (t + 1) where
  dig := fun j h1 h2 => by
    by_cases e : j = i
    · simp only [e, if_true]; omega
    · simp only [e, if_false]; exact h.dig j (by omega) h2
  val := by
    have h1 := h.val
    have e1 : loF (fun j => (if j = i then 48 + s % 10 else S j) - 48) a.length t = loF (fun j => S j - 48) a.length t := loF_congr (fun j g1 g2 => by rw [if_neg (by omega)])
    simp only [loF]
    rw [e1, if_pos ht, if_pos ht, ← hi, if_pos rfl, Int.pow_succ]
    generalize (if t < b.length then digF b (b.length - 1 - t) else 0) = db at *
    have h2 := Int.emod_add_mul_ediv s 10
    generalize s % 10 = R at *
    generalize s / 10 = Q at *
    subst hs
    have : c = R + 10 * Q - digF a i - db := by omega
    subst this
    grind
theorem SumIn.fin {a b : List UInt8} {S : Nat → Int} {c : Int} (h : SumIn a b S c a.length) (hb : b.length ≤ a.length) : DecD ((List.range a.length).map (fun j => UInt8.ofNat (S j).toNat)) ∧ decV ((List.range a.length).map (fun j => UInt8.ofNat (S j).toNat)) + c * 10 ^ a.length = decV a + decV b := by
  have hd : ∀ j, j < a.length → ((UInt8.ofNat (S j).toNat).toNat : Int) = S j := fun j hj => by
    have := h.dig j (by omega) hj
    rw [UInt8.toNat_ofNat']
    omega
  refine ⟨fun x hx => ?_, ?_⟩
  · obtain ⟨j, hj, rfl⟩ := List.mem_map.1 hx
    have hj := List.mem_range.1 hj
    have h1 := hd j hj
    have h2 := h.dig j (by omega) hj
    omega
  · have h1 := h.val
    rw [loF_dec a.length a a.length rfl (Nat.le_refl _), loF_dec b.length b a.length rfl hb] at h1
    rw [← h1, ← loF_dec _ ((List.range a.length).map (fun j => UInt8.ofNat (S j).toNat)) a.length rfl (by simp)]
    congr 1
    rw [show ((List.range a.length).map (fun j => UInt8.ofNat (S j).toNat)).length = a.length by simp]
    refine loF_congr (fun j g1 _ => ?_)
    unfold digF
    rw [List.getElem?_map, List.getElem?_range g1]
    show ((UInt8.ofNat (S j).toNat).toNat : Int) - 48 = _
    rw [hd j g1]
theorem bytes_back (W : World) (r n : Nat) (l : List UInt8) (hl : l.length = n) (hc : ∀ j (hj : j < l.length), W.cell? ⟨r, j, none⟩ = some (.int .u8 (l[j].toNat : Int))) : (convert 81 55 (.slice (some ⟨r, 0, none⟩) n n)).run Try.prog W = .ok (.string (strL l)) W := by
  subst hl
  exact run_convert_bytes_back (P := Try.prog) _ 81 55 5 ⟨r, 0, none⟩ l.length l Try.underlying81 Try.underlying5 Try.underlying55 (fun j hj => by rw [add_at, Nat.zero_add]; exact hc j hj)
theorem mkBs (n : Nat) (hn : n ≤ 1000000) (W : World) : (Instr.makeSlice 81 (.int .i64 n) (.int .i64 n)).run Try.prog W = .ok (.slice (some ⟨W.heap.size, 0, none⟩) n n) (W.alloc (.cells (madeCells #[.int .u8 0] n) 5)) :=
  run_make_row' (P := Try.prog) 81 5 (.int .u8 0) 1 Try.underlying81 (by kernel_rfl) rfl .i64 .i64 n (by omega) (by omega) W
def PlusPost (w : World) (x : Int) (e : Ending) (w' : World) : Prop := ∃ l, e = .returned (.string (strL l)) ∧ DecD l ∧ decV l = x ∧ l.head?.map (fun b => b.toNat) ≠ some 48 ∧ Kept w w'
set_option maxRecDepth 100000 in
set_option maxHeartbeats 8000000 in
theorem plus_long (w : World) (p q : List UInt8) (hp : DecD p) (hq : DecD q) (hp2 : p.head?.map (fun b => b.toNat) ≠ some 48) (hpn : p ≠ []) (hlen : q.length ≤ p.length) (hn : p.length ≤ 1000) :
    Calls Try.prog 80 #[.string (strL p), .string (strL q)] w (PlusPost w (decV p + decV q)) := by
  have HDp := Lib.hid hp
  have HDq := Lib.hid hq
  have HP2 := Lib.hid hp2
  have HPN := Lib.hid hpn
  have hmk := mkBs p.length (by omega)
  have hrow := World.rowIs_made w (.int .u8 0) p.length 5
  have hK0 : Kept w (w.alloc (.cells (madeCells #[.int .u8 0] p.length) 5)) := (Kept.refl w).alloc _
  have e1 := strL_size p
  have e2 := strL_size q
  have s0 : ¬ (p.length : Int) < (q.length : Int) := by omega
  clear hp hq hp2 hpn
  go_enter Try.func80, Try.ntmps80
  go_wp2_with fail
  obtain ⟨r, HR⟩ : ∃ r, Hid (r = w.heap.size) := ⟨_, rfl⟩
  rw [← HR.out] at hrow ⊢
  have hrw : w.heap.size ≤ r := by rw [HR.out]; exact Nat.le_refl _
  have hrow2 := hrow.congr (g := fun j => .int .u8 ((fun _ : Nat => (0 : Int)) j)) (fun j _ => rfl)
  generalize w.alloc (.cells (madeCells #[.int .u8 0] p.length) 5) = W0 at *
  clear hrow hmk
  go_loopg [6, 7] p.length (fun g s6 s7 wr => ∃ (t : Nat) (c : Int) (S : Nat → Int), t ≤ p.length ∧ g = p.length - t ∧ s6 = .int .u8 c ∧ s7 = .int .i64 ((p.length : Int) - 1 - t) ∧ 0 ≤ c ∧ c ≤ 1 ∧ Kept w wr ∧ wr.rowIs r 5 p.length (fun j => .int .u8 (S j)) ∧ Hid (SumIn p q S c t))
  case atStart => exact ⟨0, 0, fun _ => 0, Nat.zero_le _, rfl, rfl, by go_num, by omega, by omega, hK0, hrow2, ⟨fun j h1 h2 => by omega, by simp [loF]⟩⟩
  case round =>
    obtain ⟨t, c, S, ht, rfl, rfl, rfl, c0, c1, hK, hr, hI⟩ := hrel
    clear hK0 hrow2
    by_cases hlt : t < p.length
    · obtain ⟨i, hi⟩ : ∃ i, i = p.length - 1 - t := ⟨_, rfl⟩
      have hiA : i < p.length := by omega
      have ec : (p.length : Int) - 1 - (t : Int) = (i : Int) := by omega
      have x0 := hr.cell hiA
      have x1 := hr.frozen i
      have hsz : i < (strL p).size := by rw [strL_size]; exact hiA
      have hda := HDp.out p[i] (List.getElem_mem hiA)
      obtain ⟨a, HA⟩ : ∃ a : Int, Hid (a = ((p[i].toNat : Nat) : Int)) := ⟨((p[i].toNat : Nat) : Int), Lib.hid rfl⟩
      have hba : (((strL p)[i]'hsz).toNat : Int) = a := HA.out.symm
      have haA : Hid (digF p i = a - 48) := by show _ = _; unfold digF; rw [List.getElem?_eq_getElem hiA]; rw [HA.out]; rfl
      have hab : 48 ≤ a ∧ a ≤ 57 := by rw [HA.out]; omega
      obtain ⟨ha0, ha1⟩ := hab
      have s1 : (i : Int) < (p.length : Int) := by omega
      have s2 : (0 : Int) ≤ (i : Int) := by omega
      have s3 : (i : Int) < ((strL p).size : Int) := by omega
      have hec : (i : Int) - 1 = (p.length : Int) - 1 - ((t + 1 : Nat) : Int) := by omega
      have HEC := Lib.hid hec
      have HII := Lib.hid hi
      rw [ec]
      by_cases htb : t < q.length
      · obtain ⟨j, hj⟩ : ∃ j, j = q.length - 1 - t := ⟨_, rfl⟩
        have hjB : j < q.length := by omega
        have hszb : j < (strL q).size := by rw [strL_size]; exact hjB
        have hdb := HDq.out q[j] (List.getElem_mem hjB)
        obtain ⟨b, HB⟩ : ∃ a : Int, Hid (a = ((q[j].toNat : Nat) : Int)) := ⟨((q[j].toNat : Nat) : Int), Lib.hid rfl⟩
        have hbb : (((strL q)[j]'hszb).toNat : Int) = b := HB.out.symm
        have hbB : Hid (digF q j = b - 48) := by show _ = _; unfold digF; rw [List.getElem?_eq_getElem hjB]; rw [HB.out]; rfl
        have hbb2 : 48 ≤ b ∧ b ≤ 57 := by rw [HB.out]; omega
        obtain ⟨hb0, hb1⟩ := hbb2
        have ej : (i : Int) - (p.length : Int) + (q.length : Int) = (j : Int) := by omega
        have s4 : (0 : Int) ≤ (j : Int) := by omega
        have s5 : (j : Int) < (q.length : Int) := by omega
        have HJJ := Lib.hid hj
        clear hi hec ec hda hdb hj
        have hst := hI.out.step (i := i) hlt HII.out (s := a - 48 + c + (b - 48)) (by rw [haA.out, if_pos htb, ← HJJ.out, hbB.out])
        have HST := Lib.hid hst
        have hb10 : 0 ≤ (a - 48 + c + (b - 48)) / 10 ∧ (a - 48 + c + (b - 48)) / 10 ≤ 1 := by omega
        obtain ⟨hq0, hq1⟩ := hb10
        have hset := (hr.set i (.int .u8 (48 + (a - 48 + c + (b - 48)) % 10))).congr (g := fun k => .int .u8 ((fun k => if k = i then 48 + (a - 48 + c + (b - 48)) % 10 else S k) k)) (fun k _ => by
          by_cases e : k = i
          · simp [e]
          · simp [e])
        have hKS : Kept w (wr.setCell ⟨r, i, none⟩ (.int .u8 (48 + (a - 48 + c + (b - 48)) % 10))) := hK.setCell hrw _
        go_wp2_with fail
        generalize wr.setCell ⟨r, i, none⟩ (.int .u8 (48 + (a - 48 + c + (b - 48)) % 10)) = W5 at *
        go_roundg (p.length - (t + 1))
        case measure => omega
        case rel => exact ⟨t + 1, (a - 48 + c + (b - 48)) / 10, fun k => if k = i then 48 + (a - 48 + c + (b - 48)) % 10 else S k, by omega, rfl, rfl, by rw [← HEC.out], hq0, hq1, hKS, hset, HST.out⟩
      · have ej : (i : Int) - (p.length : Int) + (q.length : Int) < 0 := by omega
        have ej2 : ¬ (0 : Int) ≤ (i : Int) - (p.length : Int) + (q.length : Int) := by omega
        clear hi hec ec hda
        have hst := hI.out.step (i := i) hlt HII.out (s := a - 48 + c) (by rw [haA.out]; rw [if_neg htb]; omega)
        have HST := Lib.hid hst
        have hb10 : 0 ≤ (a - 48 + c) / 10 ∧ (a - 48 + c) / 10 ≤ 1 := by omega
        obtain ⟨hq0, hq1⟩ := hb10
        have hset := (hr.set i (.int .u8 (48 + (a - 48 + c) % 10))).congr (g := fun k => .int .u8 ((fun k => if k = i then 48 + (a - 48 + c) % 10 else S k) k)) (fun k _ => by
          by_cases e : k = i
          · simp [e]
          · simp [e])
        have hKS : Kept w (wr.setCell ⟨r, i, none⟩ (.int .u8 (48 + (a - 48 + c) % 10))) := hK.setCell hrw _
        go_wp2_with fail
        generalize wr.setCell ⟨r, i, none⟩ (.int .u8 (48 + (a - 48 + c) % 10)) = W5 at *
        go_roundg (p.length - (t + 1))
        case measure => omega
        case rel => exact ⟨t + 1, (a - 48 + c) / 10, fun k => if k = i then 48 + (a - 48 + c) % 10 else S k, by omega, rfl, rfl, by rw [← HEC.out], hq0, hq1, hKS, hset, HST.out⟩
    · obtain rfl : t = p.length := by omega
      have ec : (p.length : Int) - 1 - (p.length : Int) = -1 := by omega
      rw [ec]
      have hfin := hI.out.fin hlen
      obtain ⟨L, HLL⟩ : ∃ L, Hid (L = (List.range p.length).map (fun j => UInt8.ofNat (S j).toNat)) := ⟨(List.range p.length).map (fun j => UInt8.ofNat (S j).toNat), Lib.hid rfl⟩
      have hLn : L.length = p.length := by rw [HLL.out]; simp
      have hLv : DecD L ∧ decV L + c * 10 ^ p.length = decV p + decV q := by rw [HLL.out]; exact hfin
      have hcv := fun W h => bytes_back W r p.length L hLn h
      have hcv1 := hcv wr (fun j hj => by
        have := hr.cell (i := j) (by omega)
        rw [this]
        have hd := hI.out.dig j (by omega) (by omega)
        have e : ((L[j]).toNat : Int) = S j := by
          simp only [HLL.out, List.getElem_map, List.getElem_range]
          rw [UInt8.toNat_ofNat']
          omega
        rw [e])
      have HLV := Lib.hid hLv
      have hLs : (strL L).size = p.length := by rw [strL_size, hLn]
      clear ec hfin hcv hLv hI hlen
      rcases (show c = 0 ∨ c = 1 by omega) with rfl | rfl
      · have hh : Hid (L.head?.map (fun b => b.toNat) ≠ some 48) := no_lead HLV.out.1 HDp.out HPN.out HP2.out hLn (by have := HLV.out.2; rw [Int.zero_mul] at this; have := decV_nonneg HDq.out; omega)
        go_wp2_with fail
        go_ret
        exact ⟨L, rfl, HLV.out.1, by have := HLV.out.2; rw [Int.zero_mul] at this; omega, hh.out, hK⟩
      · have hap : (⟨#[49]⟩ : ByteArray) ++ strL L = strL (49 :: L) := strL_append [49] L
        have hsz9 : ¬ 9223372036854775807 < (⟨#[49]⟩ : ByteArray).size + (strL L).size := by rw [hLs]; simp [ByteArray.size]; omega
        go_wp2_with fail
        go_ret
        exact ⟨49 :: L, by rw [← hap]; rfl, fun b hb => by
          rcases List.mem_cons.1 hb with h | h
          · subst h; decide
          · exact HLV.out.1 b h, by
          have h1 := HLV.out.2
          rw [decV_cons, hLn]
          have : ((49 : UInt8).toNat : Int) = 49 := rfl
          rw [this]
          omega, by simp, hK⟩
set_option maxRecDepth 100000 in
set_option maxHeartbeats 8000000 in
theorem plus_swap (w : World) (p q : List UInt8) (hp : DecD p) (hq : DecD q) (hp2 : p.head?.map (fun b => b.toNat) ≠ some 48) (hpn : p ≠ []) (hlen2 : q.length < p.length) (hn : p.length ≤ 1000) :
    Calls Try.prog 80 #[.string (strL q), .string (strL p)] w (PlusPost w (decV p + decV q)) := by
  have hlen : q.length ≤ p.length := by omega
  have HDp := Lib.hid hp
  have HDq := Lib.hid hq
  have HP2 := Lib.hid hp2
  have HPN := Lib.hid hpn
  have hmk := mkBs p.length (by omega)
  have hrow := World.rowIs_made w (.int .u8 0) p.length 5
  have hK0 : Kept w (w.alloc (.cells (madeCells #[.int .u8 0] p.length) 5)) := (Kept.refl w).alloc _
  have e1 := strL_size p
  have e2 := strL_size q
  have s0 : (q.length : Int) < (p.length : Int) := by omega
  clear hp hq hp2 hpn
  go_enter Try.func80, Try.ntmps80
  go_wp2_with fail
  obtain ⟨r, HR⟩ : ∃ r, Hid (r = w.heap.size) := ⟨_, rfl⟩
  rw [← HR.out] at hrow ⊢
  have hrw : w.heap.size ≤ r := by rw [HR.out]; exact Nat.le_refl _
  have hrow2 := hrow.congr (g := fun j => .int .u8 ((fun _ : Nat => (0 : Int)) j)) (fun j _ => rfl)
  generalize w.alloc (.cells (madeCells #[.int .u8 0] p.length) 5) = W0 at *
  clear hrow hmk
  go_loopg [6, 7] p.length (fun g s6 s7 wr => ∃ (t : Nat) (c : Int) (S : Nat → Int), t ≤ p.length ∧ g = p.length - t ∧ s6 = .int .u8 c ∧ s7 = .int .i64 ((p.length : Int) - 1 - t) ∧ 0 ≤ c ∧ c ≤ 1 ∧ Kept w wr ∧ wr.rowIs r 5 p.length (fun j => .int .u8 (S j)) ∧ Hid (SumIn p q S c t))
  case atStart => exact ⟨0, 0, fun _ => 0, Nat.zero_le _, rfl, rfl, by go_num, by omega, by omega, hK0, hrow2, ⟨fun j h1 h2 => by omega, by simp [loF]⟩⟩
  case round =>
    obtain ⟨t, c, S, ht, rfl, rfl, rfl, c0, c1, hK, hr, hI⟩ := hrel
    clear hK0 hrow2
    by_cases hlt : t < p.length
    · obtain ⟨i, hi⟩ : ∃ i, i = p.length - 1 - t := ⟨_, rfl⟩
      have hiA : i < p.length := by omega
      have ec : (p.length : Int) - 1 - (t : Int) = (i : Int) := by omega
      have x0 := hr.cell hiA
      have x1 := hr.frozen i
      have hsz : i < (strL p).size := by rw [strL_size]; exact hiA
      have hda := HDp.out p[i] (List.getElem_mem hiA)
      obtain ⟨a, HA⟩ : ∃ a : Int, Hid (a = ((p[i].toNat : Nat) : Int)) := ⟨((p[i].toNat : Nat) : Int), Lib.hid rfl⟩
      have hba : (((strL p)[i]'hsz).toNat : Int) = a := HA.out.symm
      have haA : Hid (digF p i = a - 48) := by show _ = _; unfold digF; rw [List.getElem?_eq_getElem hiA]; rw [HA.out]; rfl
      have hab : 48 ≤ a ∧ a ≤ 57 := by rw [HA.out]; omega
      obtain ⟨ha0, ha1⟩ := hab
      have s1 : (i : Int) < (p.length : Int) := by omega
      have s2 : (0 : Int) ≤ (i : Int) := by omega
      have s3 : (i : Int) < ((strL p).size : Int) := by omega
      have hec : (i : Int) - 1 = (p.length : Int) - 1 - ((t + 1 : Nat) : Int) := by omega
      have HEC := Lib.hid hec
      have HII := Lib.hid hi
      rw [ec]
      by_cases htb : t < q.length
      · obtain ⟨j, hj⟩ : ∃ j, j = q.length - 1 - t := ⟨_, rfl⟩
        have hjB : j < q.length := by omega
        have hszb : j < (strL q).size := by rw [strL_size]; exact hjB
        have hdb := HDq.out q[j] (List.getElem_mem hjB)
        obtain ⟨b, HB⟩ : ∃ a : Int, Hid (a = ((q[j].toNat : Nat) : Int)) := ⟨((q[j].toNat : Nat) : Int), Lib.hid rfl⟩
        have hbb : (((strL q)[j]'hszb).toNat : Int) = b := HB.out.symm
        have hbB : Hid (digF q j = b - 48) := by show _ = _; unfold digF; rw [List.getElem?_eq_getElem hjB]; rw [HB.out]; rfl
        have hbb2 : 48 ≤ b ∧ b ≤ 57 := by rw [HB.out]; omega
        obtain ⟨hb0, hb1⟩ := hbb2
        have ej : (i : Int) - (p.length : Int) + (q.length : Int) = (j : Int) := by omega
        have s4 : (0 : Int) ≤ (j : Int) := by omega
        have s5 : (j : Int) < (q.length : Int) := by omega
        have HJJ := Lib.hid hj
        clear hi hec ec hda hdb hj
        have hst := hI.out.step (i := i) hlt HII.out (s := a - 48 + c + (b - 48)) (by rw [haA.out, if_pos htb, ← HJJ.out, hbB.out])
        have HST := Lib.hid hst
        have hb10 : 0 ≤ (a - 48 + c + (b - 48)) / 10 ∧ (a - 48 + c + (b - 48)) / 10 ≤ 1 := by omega
        obtain ⟨hq0, hq1⟩ := hb10
        have hset := (hr.set i (.int .u8 (48 + (a - 48 + c + (b - 48)) % 10))).congr (g := fun k => .int .u8 ((fun k => if k = i then 48 + (a - 48 + c + (b - 48)) % 10 else S k) k)) (fun k _ => by
          by_cases e : k = i
          · simp [e]
          · simp [e])
        have hKS : Kept w (wr.setCell ⟨r, i, none⟩ (.int .u8 (48 + (a - 48 + c + (b - 48)) % 10))) := hK.setCell hrw _
        go_wp2_with fail
        generalize wr.setCell ⟨r, i, none⟩ (.int .u8 (48 + (a - 48 + c + (b - 48)) % 10)) = W5 at *
        go_roundg (p.length - (t + 1))
        case measure => omega
        case rel => exact ⟨t + 1, (a - 48 + c + (b - 48)) / 10, fun k => if k = i then 48 + (a - 48 + c + (b - 48)) % 10 else S k, by omega, rfl, rfl, by rw [← HEC.out], hq0, hq1, hKS, hset, HST.out⟩
      · have ej : (i : Int) - (p.length : Int) + (q.length : Int) < 0 := by omega
        have ej2 : ¬ (0 : Int) ≤ (i : Int) - (p.length : Int) + (q.length : Int) := by omega
        clear hi hec ec hda
        have hst := hI.out.step (i := i) hlt HII.out (s := a - 48 + c) (by rw [haA.out]; rw [if_neg htb]; omega)
        have HST := Lib.hid hst
        have hb10 : 0 ≤ (a - 48 + c) / 10 ∧ (a - 48 + c) / 10 ≤ 1 := by omega
        obtain ⟨hq0, hq1⟩ := hb10
        have hset := (hr.set i (.int .u8 (48 + (a - 48 + c) % 10))).congr (g := fun k => .int .u8 ((fun k => if k = i then 48 + (a - 48 + c) % 10 else S k) k)) (fun k _ => by
          by_cases e : k = i
          · simp [e]
          · simp [e])
        have hKS : Kept w (wr.setCell ⟨r, i, none⟩ (.int .u8 (48 + (a - 48 + c) % 10))) := hK.setCell hrw _
        go_wp2_with fail
        generalize wr.setCell ⟨r, i, none⟩ (.int .u8 (48 + (a - 48 + c) % 10)) = W5 at *
        go_roundg (p.length - (t + 1))
        case measure => omega
        case rel => exact ⟨t + 1, (a - 48 + c) / 10, fun k => if k = i then 48 + (a - 48 + c) % 10 else S k, by omega, rfl, rfl, by rw [← HEC.out], hq0, hq1, hKS, hset, HST.out⟩
    · obtain rfl : t = p.length := by omega
      have ec : (p.length : Int) - 1 - (p.length : Int) = -1 := by omega
      rw [ec]
      have hfin := hI.out.fin hlen
      obtain ⟨L, HLL⟩ : ∃ L, Hid (L = (List.range p.length).map (fun j => UInt8.ofNat (S j).toNat)) := ⟨(List.range p.length).map (fun j => UInt8.ofNat (S j).toNat), Lib.hid rfl⟩
      have hLn : L.length = p.length := by rw [HLL.out]; simp
      have hLv : DecD L ∧ decV L + c * 10 ^ p.length = decV p + decV q := by rw [HLL.out]; exact hfin
      have hcv := fun W h => bytes_back W r p.length L hLn h
      have hcv1 := hcv wr (fun j hj => by
        have := hr.cell (i := j) (by omega)
        rw [this]
        have hd := hI.out.dig j (by omega) (by omega)
        have e : ((L[j]).toNat : Int) = S j := by
          simp only [HLL.out, List.getElem_map, List.getElem_range]
          rw [UInt8.toNat_ofNat']
          omega
        rw [e])
      have HLV := Lib.hid hLv
      have hLs : (strL L).size = p.length := by rw [strL_size, hLn]
      clear ec hfin hcv hLv hI hlen
      rcases (show c = 0 ∨ c = 1 by omega) with rfl | rfl
      · have hh : Hid (L.head?.map (fun b => b.toNat) ≠ some 48) := no_lead HLV.out.1 HDp.out HPN.out HP2.out hLn (by have := HLV.out.2; rw [Int.zero_mul] at this; have := decV_nonneg HDq.out; omega)
        go_wp2_with fail
        go_ret
        exact ⟨L, rfl, HLV.out.1, by have := HLV.out.2; rw [Int.zero_mul] at this; omega, hh.out, hK⟩
      · have hap : (⟨#[49]⟩ : ByteArray) ++ strL L = strL (49 :: L) := strL_append [49] L
        have hsz9 : ¬ 9223372036854775807 < (⟨#[49]⟩ : ByteArray).size + (strL L).size := by rw [hLs]; simp [ByteArray.size]; omega
        go_wp2_with fail
        go_ret
        exact ⟨49 :: L, by rw [← hap]; rfl, fun b hb => by
          rcases List.mem_cons.1 hb with h | h
          · subst h; decide
          · exact HLV.out.1 b h, by
          have h1 := HLV.out.2
          rw [decV_cons, hLn]
          have : ((49 : UInt8).toNat : Int) = 49 := rfl
          rw [this]
          omega, by simp, hK⟩
theorem plus_dec (w : World) (p q : List UInt8) (x y : Int) (hp : DecL p x) (hq : DecL q y) (hx : 0 < x) (hy : 0 < y) (hpn : p.length ≤ 1000) (hqn : q.length ≤ 1000) :
    Calls Try.prog 80 #[.string (strL p), .string (strL q)] w (PlusPost w (x + y)) := by
  have hpe : p ≠ [] := fun h => by have := hp.2.1; rw [h] at this; simp [decV] at this; omega
  have hqe : q ≠ [] := fun h => by have := hq.2.1; rw [h] at this; simp [decV] at this; omega
  rcases Nat.lt_or_ge p.length q.length with h | h
  · have := plus_swap w q p hq.1 hp.1 hq.2.2.1 hqe h hqn
    rw [hp.2.1, hq.2.1, Int.add_comm] at this
    exact this
  · have := plus_long w p q hp.1 hq.1 hp.2.2.1 hpe h hpn
    rw [hp.2.1, hq.2.1] at this
    exact this
end Go.Proofs.Ytomnjcjipdnnfaa
