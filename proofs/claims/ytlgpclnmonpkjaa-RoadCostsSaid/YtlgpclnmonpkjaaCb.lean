/-
  Package road: Cost; the reference's Cost.
-/
import Derived.Test.YtlgpclnmonpkjaaCa
import Derived.Test.YtlgpclnmonpkjaaWl
import Derived.Test.YtlgpclnmonpkjaaRg
namespace Go.Proofs.Ytlgpclnmonpkjaa
open Go.RowKit Go.Deep

theorem PlansPost.bad {w w' : World} {nO nL : Nat} {fO fL : Nat → Int} {k : Nat} {A B : Nat → Int} {m : Nat} {C : Nat → Int} {e : Ending} (h : plOk nO nL fO fL k A B m C = false) (hp : PlansPost w nO nL fO fL k A B m C e w') : e = .returned (.tuple #[.agg #[.slice none 0 0, .slice none 0 0, .slice none 0 0, .slice none 0 0, .int .i64 0, .int .i64 0, .int .i64 0, .int .i64 0, .int .i64 0, .map none], .int .i64 1]) ∧ Kept w w' := by
  unfold PlansPost at hp
  rwa [if_neg (by rw [h]; simp)] at hp
def CostPost (w : World) (nO nL : Nat) (fO fL : Nat → Int) (k : Nat) (A B : Nat → Int) (m : Nat) (C : Nat → Int) (n : Nat) (F : Nat → Int) (e : Ending) (w' : World) : Prop :=
  (plOk nO nL fO fL k A B m C = false → e = .returned (.tuple #[.int .i64 0, .int .i64 1])) ∧
  (plOk nO nL fO fL k A B m C = true → fitB k F n m = false → e = .returned (.tuple #[.int .i64 0, .int .i64 2])) ∧
  (plOk nO nL fO fL k A B m C = true → fitB k F n m = true → e = .returned (.tuple #[.int .i64 ((cstP (roadR nO fO fL) (callsN C) (callsN F) (begS k A) m : Nat) : Int), .int .i64 0])) ∧ Kept w w'
set_option maxRecDepth 100000 in
set_option maxHeartbeats 8000000 in
theorem Cost_any (w : World) (v hv cv fv : Value) (nO nL : Nat) (fO fL : Nat → Int) (hR : RoadIn w v nO nL fO fL) (hnO : nO ≤ 1000000000) (hnL : nL ≤ 1000000000) (k : Nat) (A B : Nat → Int) (hP : PairsAt w hv k A B) (hk : k ≤ 1000000000) (m : Nat) (C : Nat → Int) (hC : IntsAt w cv m C) (hm : m ≤ 1000000000) (n : Nat) (F : Nat → Int) (hFv : IntsAt w fv n F) (hn : n ≤ 1000000000) :
    Calls Try.prog 41 #[v, hv, cv, fv] w (CostPost w nO nL fO fL k A B m C n F) := by
  have hR0 := hR
  obtain ⟨x, y, rfl, ⟨aO, bO, oO, cO, rfl, _, _⟩, ⟨aL, bL, oL, cL, rfl, _, _⟩⟩ := hR
  obtain ⟨ha, hha, hhc, rfl⟩ : ∃ a n c, hv = .slice a n c := by obtain ⟨a, _, _, cap, e, _⟩ := hP; exact ⟨a, k, cap, e⟩
  obtain ⟨ca, cca, ccc, rfl⟩ : ∃ a n c, cv = .slice a n c := by obtain ⟨a, _, _, cap, e, _⟩ := hC; exact ⟨a, m, cap, e⟩
  obtain ⟨fa, ffa, ffc, rfl⟩ : ∃ a n c, fv = .slice a n c := by obtain ⟨a, _, _, cap, e, _⟩ := hFv; exact ⟨a, n, cap, e⟩
  have PO := Lib.hid (fun W (hW : RoadIn W (.agg #[.slice aO nO cO, .slice aL nL cL]) nO nL fO fL) (hP : PairsAt W (.slice ha hha hhc) k A B) (hC : IntsAt W (.slice ca cca ccc) m C) => plansOf_any W _ _ _ nO nL fO fL hW hnO hnL k A B hP hk m C hC hm)
  obtain ⟨n0, HN0⟩ : ∃ n0, w.heap.size = n0 := ⟨_, rfl⟩
  obtain ⟨W1, hW1, hsz, q0, q1, hK⟩ := newbox2 w n0 HN0 (.slice aO nO cO) (.slice aL nL cL) 24
  have hR1 := hR0.kept hK
  have hP1 := hP.kept hK
  have hC1 := hC.kept hK
  have hFv1 : IntsAt W1 _ _ _ := CellsAt.kept hFv hK
  cases e1 : plOk nO nL fO fL k A B m C with
  | false =>
    have HOK := Lib.hid e1
    clear e1
    go_enter Try.func41, Try.ntmps41
    go_wp2_with (first | (go_at_call 58; refine (PO.out _ hR1 hP1 hC1).mono ?_; intro e w3 hpp; obtain ⟨rfl, hk3'⟩ := PlansPost.bad HOK.out hpp))
    exact bodyPost_ret (v := .tuple #[.int .i64 0, .int .i64 1]) (by simp [results, Try.results41, go_sem]; try rfl) rfl ⟨fun _ => rfl, fun h => (by rw [HOK.out] at h; cases h), fun h => (by rw [HOK.out] at h; cases h), (hK.trans hk3').alloc _⟩
  | true =>
    have HOK := Lib.hid e1
    obtain ⟨p1, hk1, hk3, hm12, p5, p6⟩ := withOk_parts (plOk_with e1)
    have ok := roadR_ok p1
    have hSb := begS_place (plOk_with e1)
    obtain ⟨hI, hcp⟩ := calls_ints hC p6
    obtain ⟨z0, HZ0⟩ : ∃ z0 : Nat, Hid (z0 = 0) := ⟨0, rfl⟩
    obtain ⟨BS, HBS⟩ : ∃ BS, Hid (BS = begS k A) := ⟨_, rfl⟩
    have FT := Lib.hid (fun W pv M (hW : PlansAt W pv (roadR nO fO fL) k m (callsN C) z0 BS M) (hF : IntsAt W (.slice fa ffa ffc) n F) => fits_any W pv _ (roadR nO fO fL) ok k m (callsN C) BS M z0 hW n F hF hn)
    cases e2 : fitB k F n m with
    | false =>
      have HFB := Lib.hid e2
      clear e1 e2 p1 p5 p6 hcp hI hSb
      go_enter Try.func41, Try.ntmps41
      go_wp2_with (first | (go_at_call 58; refine (PO.out _ hR1 hP1 hC1).mono ?_; intro e w3 hpp; obtain ⟨pv, M, rfl, hPl3, _, _, hk3'⟩ := PlansPost.ok HOK.out hpp; rw [← HBS.out] at hPl3; rw [← HZ0.out] at hPl3; obtain ⟨b0, o0, c0, b1, o1, c1, b2, o2, c2, pca, pcb, pco, pcc, rfl, _, _, _⟩ := id (hPl3.open ok); obtain ⟨a0, Ha0⟩ : ∃ a0, Hid (a0 = BS 0) := ⟨_, rfl⟩; obtain ⟨a1, Ha1⟩ : ∃ a1, Hid (a1 = BS 1) := ⟨_, rfl⟩; obtain ⟨a2, Ha2⟩ : ∃ a2, Hid (a2 = BS 2) := ⟨_, rfl⟩; rw [← Ha0.out, ← Ha1.out, ← Ha2.out] at hPl3 ⊢; obtain ⟨n4, HN4⟩ : ∃ n4, w3.heap.size = n4 := ⟨_, rfl⟩; obtain ⟨W4, hW4, hsz4, u0, u1, u2, u3, u4, u5, u6, u7, u8, u9, hK4⟩ := newbox10 w3 n4 HN4 (.slice (some ⟨b0, o0, none⟩) (roadR nO fO fL).n c0) (.slice (some ⟨b1, o1, none⟩) (roadR nO fO fL).n c1) (.slice (some ⟨b2, o2, none⟩) (roadR nO fO fL).n c2) (.slice pca m pcc) (.int .i64 (k : Int)) (.int .i64 (z0 : Int)) (.int .i64 (a0 : Int)) (.int .i64 (a1 : Int)) (.int .i64 (a2 : Int)) (.map (some M)) 106; have hPl4 := hPl3.kept hK4; have hF4 : IntsAt W4 _ _ _ := CellsAt.kept hFv1 (show Kept W1 W4 from hk3'.trans hK4)) | (go_at_call 65; refine (FT.out _ _ M hPl4 hF4).mono ?_; rw [HFB.out]; rintro e w5 ⟨rfl, hk5⟩; obtain ⟨u0', u1', u2', u3', u4', u5', u6', u7', u8', u9', _⟩ := keep10 u0 u1 u2 u3 u4 u5 u6 u7 u8 u9 hk5))
      exact bodyPost_ret (v := .tuple #[.int .i64 0, .int .i64 2]) (by simp [results, Try.results41, go_sem]; try rfl) rfl ⟨fun h => (by rw [HOK.out] at h; cases h), fun _ _ => rfl, fun _ h => (by rw [HFB.out] at h; cases h), ((hK.trans hk3').trans hK4).trans hk5⟩
    | true =>
      have HFB := Lib.hid e2
      obtain ⟨hfb, hnm⟩ := fitB_iff.1 e2
      have CST := Lib.hid (fun W pv M fv (hW : PlansAt W pv (roadR nO fO fL) k m (callsN C) z0 BS M) (hF : IntsAt W fv n F) => cost_any W pv fv (roadR nO fO fL) ok k m (callsN C) BS M z0 HZ0 hW (by omega) hk3 hcp (by rw [HBS.out]; exact hSb) (callsN F) (by
        rw [← hnm]
        exact CellsAt.congr hF (fun i hi => by have := (hfb i hi).1; show Value.int .i64 (F i) = Value.int .i64 (((F i).toNat : Nat) : Int); rw [show (((F i).toNat : Nat) : Int) = F i by omega])) (fun i hi => by have := hfb i (by omega); unfold callsN; omega))
      obtain ⟨res, HRES⟩ : ∃ res, Hid (res = cstP (roadR nO fO fL) (callsN C) (callsN F) BS m) := ⟨_, rfl⟩
      rw [← HRES.out] at CST
      have HPO := Lib.hid (show cstP (roadR nO fO fL) (callsN C) (callsN F) (begS k A) m = res by rw [HRES.out, HBS.out])
      clear e1 e2 p1 p5 p6 hcp hI hSb hfb hnm
      go_enter Try.func41, Try.ntmps41
      go_wp2_with (first | (go_at_call 58; refine (PO.out _ hR1 hP1 hC1).mono ?_; intro e w3 hpp; obtain ⟨pv, M, rfl, hPl3, _, _, hk3'⟩ := PlansPost.ok HOK.out hpp; rw [← HBS.out] at hPl3; rw [← HZ0.out] at hPl3; obtain ⟨b0, o0, c0, b1, o1, c1, b2, o2, c2, pca, pcb, pco, pcc, rfl, _, _, _⟩ := id (hPl3.open ok); obtain ⟨a0, Ha0⟩ : ∃ a0, Hid (a0 = BS 0) := ⟨_, rfl⟩; obtain ⟨a1, Ha1⟩ : ∃ a1, Hid (a1 = BS 1) := ⟨_, rfl⟩; obtain ⟨a2, Ha2⟩ : ∃ a2, Hid (a2 = BS 2) := ⟨_, rfl⟩; rw [← Ha0.out, ← Ha1.out, ← Ha2.out] at hPl3 ⊢; obtain ⟨n4, HN4⟩ : ∃ n4, w3.heap.size = n4 := ⟨_, rfl⟩; obtain ⟨W4, hW4, hsz4, u0, u1, u2, u3, u4, u5, u6, u7, u8, u9, hK4⟩ := newbox10 w3 n4 HN4 (.slice (some ⟨b0, o0, none⟩) (roadR nO fO fL).n c0) (.slice (some ⟨b1, o1, none⟩) (roadR nO fO fL).n c1) (.slice (some ⟨b2, o2, none⟩) (roadR nO fO fL).n c2) (.slice pca m pcc) (.int .i64 (k : Int)) (.int .i64 (z0 : Int)) (.int .i64 (a0 : Int)) (.int .i64 (a1 : Int)) (.int .i64 (a2 : Int)) (.map (some M)) 106; have hPl4 := hPl3.kept hK4; have hF4 : IntsAt W4 _ _ _ := CellsAt.kept hFv1 (show Kept W1 W4 from hk3'.trans hK4)) | (go_at_call 65; refine (FT.out _ _ M hPl4 hF4).mono ?_; rw [HFB.out]; rintro e w5 ⟨rfl, hk5⟩; obtain ⟨u0', u1', u2', u3', u4', u5', u6', u7', u8', u9', _⟩ := keep10 u0 u1 u2 u3 u4 u5 u6 u7 u8 u9 hk5) | (go_at_call 62; refine (CST.out _ _ M _ (hPl4.kept hk5) (CellsAt.kept hF4 hk5)).mono ?_; rintro e w6 ⟨rfl, hk6⟩))
      exact bodyPost_ret (v := .tuple #[.int .i64 (res : Int), .int .i64 0]) (by simp [results, Try.results41, go_sem]; try rfl) rfl ⟨fun h => (by rw [HOK.out] at h; cases h), fun _ h => (by rw [HFB.out] at h; cases h), fun _ _ => by rw [HPO.out], (((hK.trans hk3').trans hK4).trans hk5).trans hk6⟩
def spP (P : Nat → Nat) : Nat → Sp := fun j => (P j, 0)
theorem spP_sent (C P : Nat → Nat) (i f : Nat) : (fun j => if j = f then (C i, 0) else spP P j) = spP (sentP C i P f) := funext fun j => by
  unfold spP sentP
  split <;> rfl
set_option maxRecDepth 100000 in
set_option maxHeartbeats 8000000 in
theorem rCost_any (w : World) (v hv cv fv : Value) (R : Road) (ok : R.Ok) (hT : RefAt w v R) (k m : Nat) (S C F : Nat → Nat) (hP : SpsAt w hv k (spP S)) (hCs : IntsAt w cv m (fun i => ((C i : Nat) : Int))) (hFv : IntsAt w fv m (fun i => ((F i : Nat) : Int))) (hk1 : 1 ≤ k) (hk : k ≤ 3) (hm : m ≤ 100) (hS : ∀ i, i < 3 → S i < R.n) (hC : ∀ i, i < m → C i < R.n) (hF : ∀ i, i < m → F i < k) :
    Calls Try.prog 38 #[v, hv, cv, fv] w fun e w' => e = .returned (.int .i64 ((cstP R C F S m : Nat) : Int)) ∧ Kept w w' := by
  have hT0 := hT
  have hP0 := hP
  obtain ⟨b0, o0, c0, b1, o1, c1, rfl, _, _⟩ := hT.open ok
  obtain ⟨a, hb0, ho0, hcap0, rfl, ha, hcP⟩ := hP
  obtain rfl := ha (by omega)
  obtain ⟨ca, cb, co, ccap, rfl, hca, hcc⟩ := hCs
  obtain ⟨fa, fb, fo, fcap, rfl, hfa, hff⟩ := hFv
  obtain ⟨i1, hi1, hy0, hy1, hy2⟩ := info_parts Try.infoSpot
  obtain ⟨n0, HN0⟩ : ∃ n0, w.heap.size = n0 := ⟨_, rfl⟩
  obtain ⟨W1, hW1, hsz, q0, q1, hKw⟩ := newbox2 w n0 HN0 (.slice (some ⟨b0, o0, none⟩) R.n c0) (.slice (some ⟨b1, o1, none⟩) R.n c1) 24
  obtain ⟨W2, hW2, hsz2, hO2, hK12⟩ : ∃ W2, W1.alloc (.cells #[] 26) = W2 ∧ W2.heap.size = n0 + 1 + 1 ∧ W2.ownsRow (n0 + 1) 26 2 (.slice (some ⟨n0 + 1, 0, none⟩) 0 0) 0 [] ∧ Kept W1 W2 := by
    have h := own_zeroT W1 (n0 + 1) 26 2 (by omega)
    rw [hsz] at h
    exact ⟨_, rfl, by simp [hsz], h, (Kept.refl W1).alloc _⟩
  have hsrc : ∀ (j : Nat) (u : Value), (spsL (spP S) k)[j]? = some u → W2.cell? ((⟨hb0, ho0, none⟩ : Addr).add j) = some u := spsL_cells (fun i hi => ⟨(hKw.trans hK12).cellSome (hcP i hi).1, (hKw.trans hK12).cellSome (hcP i hi).2⟩)
  have HSRC := Lib.hid hsrc
  have HCC := Lib.hid (fun i hi => hKw.cellSome (hcc i hi))
  have HFF := Lib.hid (fun i hi => hKw.cellSome (hff i hi))
  have hT1 := hT0.kept hKw
  have hPS := Lib.hid (pS_place (R := R) (C := C) (F := F) (S := S) (m := m) hC hS)
  have hCL := Lib.hid (cstP_le ok hC hS hk hF)
  have DI : Hid (∀ (W : World) (p c : Nat), RefAt W (.agg #[.slice (some ⟨b0, o0, none⟩) R.n c0, .slice (some ⟨b1, o1, none⟩) R.n c1]) R → p < R.n → c < R.n → Calls Try.prog 20 #[.agg #[.slice (some ⟨b0, o0, none⟩) R.n c0, .slice (some ⟨b1, o1, none⟩) R.n c1], .agg #[.int .i64 (p : Int), .int .i64 0], .agg #[.int .i64 (c : Int), .int .i64 0]] W fun e w' => e = .returned (.int .i64 ((R.dist (p, 0) (c, 0) : Nat) : Int)) ∧ Kept W w') := fun W p c hW hp hc => rDistance_any W _ R ok hW (p, 0) (c, 0) (Road.place_spot hp) (Road.place_spot hc)
  have m1 : (0 : Int) ≤ (k : Int) := by omega
  clear hsrc hcP hcc hff hT0 hT hP0
  go_enter Try.func38, Try.ntmps38
  go_wp2_with (first | (at_builtin; refine wpList_append_own _ rfl _ _ 36 rfl (n0 + 1) 26 i1 (.agg #[.int .i64 0, .int .i64 0]) 2 16 Try.underlying36 hi1 hy0 hy1 hy2 rfl (by decide) _ _ _ rfl hO2 ⟨hb0, ho0, none⟩ k hcap0 (spsL (spP S) k) rfl (spsL_len _ _) HSRC.out (spsL_one _ _) (by unfold maxLen; omega) (by omega) (by omega) ?_))
  intro ov9 w9 hO9 hgr9 hlen9
  have hK9 : Kept W1 w9 := hK12.grown hgr9 (fun k hk => by have := (hO2.lt k hk).1; omega)
  obtain ⟨ag, acap, rfl⟩ := own_some hO9 hk1
  clear hgr9 hlen9 hO2 hK12 hW1 hW2 hsz2
  go_wp2_with fail
  go_loopg [10, 11] m (fun g s10 s11 wr => ∃ i : Nat, i ≤ m ∧ g = m - i ∧ s11 = .int .i64 i ∧ s10 = .int .i64 ((cstP R C F S i : Nat) : Int) ∧ wr.ownsRow (n0 + 1) 26 2 (.slice (some ⟨ag, 0, none⟩) k acap) k (spsL (spP (pS C F S i)) k) ∧ Kept W1 wr)
  case atStart => exact ⟨0, Nat.zero_le _, rfl, rfl, rfl, hO9, hK9⟩
  case round =>
    clear hO9 hK9
    obtain ⟨i, hi, rfl, rfl, rfl, hO, hKr⟩ := hrel
    by_cases hlt : i < m
    · obtain rfl := hca (by omega)
      obtain rfl := hfa (by omega)
      have hfk := hF i hlt
      have hcn := hC i hlt
      have y0 := hKr.cellSome (HCC.out i hlt)
      have y1 := hKr.cellSome (HFF.out i hlt)
      have hPb := hPS.out i (by omega)
      have hcl := hCL.out (i + 1) (by omega)
      have hcs : cstP R C F S (i + 1) = cstP R C F S i + R.dist (pS C F S i (F i), 0) (C i, 0) := rfl
      have hsp : (fun j => if j = F i then (C i, 0) else spP (pS C F S i) j) = spP (pS C F S (i + 1)) := spP_sent C (pS C F S i) i (F i)
      obtain ⟨P, HP⟩ : ∃ P, Hid (P = pS C F S i) := ⟨_, rfl⟩
      rw [← HP.out] at hO hPb hcs hsp
      obtain ⟨f, HFf⟩ : ∃ f, Hid (f = F i) := ⟨_, rfl⟩
      obtain ⟨c, HCc⟩ : ∃ c, Hid (c = C i) := ⟨_, rfl⟩
      rw [← HFf.out] at hfk y1 hcs hsp
      rw [← HCc.out] at hcn y0 hcs hsp
      have hpf := hPb f (by omega)
      have t0 : wr.cell? ⟨ag, f * 2, none⟩ = some (.int .i64 (((spP P f).1 : Nat) : Int)) := by rw [hO.cellAt _ (by omega)]; exact (spsL_get _ k f hfk).1
      have t1 : wr.cell? ⟨ag, f * 2 + 1, none⟩ = some (.int .i64 (((spP P f).2 : Nat) : Int)) := by rw [hO.cellAt _ (by omega)]; exact (spsL_get _ k f hfk).2
      obtain ⟨p, HPp⟩ : ∃ p, Hid (p = P f) := ⟨_, rfl⟩
      rw [← HPp.out] at hpf hcs
      have t0 : wr.cell? ⟨ag, f * 2, none⟩ = some (.int .i64 (p : Int)) := by rw [HPp.out]; exact t0
      have t1 : wr.cell? ⟨ag, f * 2 + 1, none⟩ = some (.int .i64 0) := t1
      obtain ⟨d, HD⟩ : ∃ d, Hid (d = R.dist (p, 0) (c, 0)) := ⟨_, rfl⟩
      rw [← HD.out] at hcs
      rw [hcs] at hcl
      have HCS := Lib.hid hcs
      have HSP := Lib.hid hsp
      obtain ⟨z0, z1, _⟩ := keep2 q0 q1 hKr
      have hTr := hT1.kept hKr
      obtain ⟨W5, hW5, hsz5, x0, x1, hK5⟩ := newbox2 wr wr.heap.size rfl (.int .i64 (c : Int)) (.int .i64 0) 26
      have n1 : (i : Int) < (m : Int) := by omega
      have n2 : (0 : Int) ≤ (i : Int) := by omega
      have n3 : (f : Int) < (k : Int) := by omega
      have n4 : (0 : Int) ≤ (f : Int) := by omega
      have s1 : IntKind.i64.wrap (((cstP R C F S i : Nat) : Int) + (d : Int)) = ((cstP R C F S i : Nat) : Int) + (d : Int) := IntWalk.i64_in _ (by omega)
      have s2 : IntKind.i64.wrap ((i : Int) + 1) = (i : Int) + 1 := IntWalk.i64_in _ (by omega)
      obtain ⟨z0, z1, y1', t0', t1', _⟩ := keep5 z0 z1 y1 t0 t1 hK5
      clear hcs hsp hcl hPb
      have HW5 := Lib.hid hW5
      clear hW5
      go_upto_region 6 with fail
      rw [HW5.out]
      clear HW5
      go_cut [10] (fun v10 wc => v10 = .int .i64 (((cstP R C F S i : Nat) : Int) + (d : Int)) ∧ Kept W5 wc)
      case first =>
        go_region_held3 (fun w' => w'.cell? ⟨n0, 0, none⟩ = some (.slice (some ⟨b0, o0, none⟩) R.n c0) ∧ w'.cell? ⟨n0, 1, none⟩ = some (.slice (some ⟨b1, o1, none⟩) R.n c1) ∧ w'.cell? ⟨fb, fo + i, none⟩ = some (.int .i64 (f : Int)) ∧ w'.cell? ⟨ag, f * 2, none⟩ = some (.int .i64 (p : Int)) ∧ w'.cell? ⟨ag, f * 2 + 1, none⟩ = some (.int .i64 0) ∧ w'.cell? ⟨wr.heap.size, 0, none⟩ = some (.int .i64 (c : Int)) ∧ w'.cell? ⟨wr.heap.size, 1, none⟩ = some (.int .i64 0) ∧ Kept W5 w')
          (exact keep7 z0 z1 y1' t0' t1' x0 x1 (by repeat (first | assumption | exact Kept.refl _ | apply Kept.drew | apply Kept.drewN | apply Kept.alloc | refine Kept.trans ?_ (by assumption))))
          (first | (go_at_call 20; refine (DI.out _ p c (hTr.kept (show Kept wr _ from hK5.trans (by repeat (first | assumption | exact Kept.refl _ | apply Kept.drew | apply Kept.drewN | apply Kept.alloc | refine Kept.trans ?_ (by assumption))))) hpf hcn).mono ?_; rw [← HD.out]; rintro e wd ⟨rfl, hkd⟩))
        all_goals
          go_wp2_with fail
          go_meet
          exact ⟨rfl, (by repeat (first | assumption | exact Kept.refl _ | apply Kept.drew | apply Kept.drewN | apply Kept.alloc | refine Kept.trans ?_ (by assumption)))⟩
      obtain ⟨rfl, hKc⟩ := hcut
      obtain ⟨wc, hwc, hKc⟩ := Kept.named hKc
      subst hwc
      have hOc := own_kept hO (hK5.trans hKc)
      have hKcc := (hKr.trans hK5).trans hKc
      have d0 := hKc.cellSome y1'
      have d1 := hKc.cellSome x0
      have d2 := hKc.cellSome x1
      clear y0 y1 t0 t1 z0 z1 y1' t0' t1' x0 x1
      go_upto_region 7 with fail
      refine wp_region_last (S := (fun w' => w'.cell? ⟨fb, fo + i, none⟩ = some (.int .i64 (f : Int)) ∧ w'.cell? ⟨wr.heap.size, 0, none⟩ = some (.int .i64 (c : Int)) ∧ w'.cell? ⟨wr.heap.size, 1, none⟩ = some (.int .i64 0))) 7 (by kernel_rfl) ?_ (fun hHeld => ?_)
      · (try dsimp only)
        exact ⟨d0, d1, d2⟩
      refine wpAnyM_take (i := 0) (oi := { dst := some 39, op := Go.Op.move (Go.Operand.tmp 9), type := 36, pos := "ref.go:165", after := #[], guard := none }) (v := ?v1) [7] rfl (by kernel_rfl) (by kernel_rfl) (by kernel_rfl) (fun _ _ _ h => h) (by kernel_rfl) (Or.inl ⟨by rfl, ?hy1⟩) (by assumption) ?rs1
      case hy1 =>
        intro w hSw
        (try dsimp only at hSw)
        go_simp
        try with_reducible rfl
      (try simp only [Act.put, List.setIfInBounds_toArray, List.set_cons_zero, List.set_cons_succ])
      refine wpAnyM_take (i := 1) (oi := { dst := some 40, op := Go.Op.move (Go.Operand.tmp 3), type := 22, pos := "ref.go:165", after := #[], guard := none }) (v := ?v2) [7] rfl (by kernel_rfl) (by kernel_rfl) (by kernel_rfl) (fun _ _ _ h => h) (by kernel_rfl) (Or.inl ⟨by rfl, ?hy2⟩) (by assumption) ?rs2
      case hy2 =>
        intro w hSw
        (try dsimp only at hSw)
        go_simp
        try with_reducible rfl
      (try simp only [Act.put, List.setIfInBounds_toArray, List.set_cons_zero, List.set_cons_succ])
      refine wpAnyM_take (i := 2) (oi := { dst := some 41, op := Go.Op.move (Go.Operand.tmp 11), type := 3, pos := "ref.go:165", after := #[], guard := none }) (v := ?v3) [7] rfl (by kernel_rfl) (by kernel_rfl) (by kernel_rfl) (fun _ _ _ h => h) (by kernel_rfl) (Or.inl ⟨by rfl, ?hy3⟩) (by assumption) ?rs3
      case hy3 =>
        intro w hSw
        (try dsimp only at hSw)
        go_simp
        try with_reducible rfl
      (try simp only [Act.put, List.setIfInBounds_toArray, List.set_cons_zero, List.set_cons_succ])
      refine wpAnyM_take (i := 3) (oi := { dst := some 42, op := Go.Op.indexAddr 22 (Go.Operand.tmp 40) (Go.Operand.tmp 41), type := 0, pos := "ref.go:165", after := #[{ on := 1, ground := Go.Ground.data }, { on := 2, ground := Go.Ground.data }], guard := none }) (v := ?v4) [7] rfl (by kernel_rfl) (by kernel_rfl) (by kernel_rfl) (fun _ _ _ h => h) (by kernel_rfl) (Or.inl ⟨by rfl, ?hy4⟩) (by assumption) ?rs4
      case hy4 =>
        intro w hSw
        (try dsimp only at hSw)
        go_simp
        try with_reducible rfl
      (try simp only [Act.put, List.setIfInBounds_toArray, List.set_cons_zero, List.set_cons_succ])
      refine wpAnyM_take (i := 4) (oi := { dst := some 43, op := Go.Op.load 3 (Go.Operand.tmp 42), type := 3, pos := "ref.go:165", after := #[{ on := 3, ground := Go.Ground.data }], guard := none }) (v := ?v5) [7] rfl (by kernel_rfl) (by kernel_rfl) (by kernel_rfl) (fun _ _ _ h => h) (by kernel_rfl) (Or.inl ⟨by rfl, ?hy5⟩) (by assumption) ?rs5
      case hy5 =>
        intro w hSw
        (try dsimp only at hSw)
        go_simp
        try with_reducible rfl
      (try simp only [Act.put, List.setIfInBounds_toArray, List.set_cons_zero, List.set_cons_succ])
      refine wpAnyM_take (i := 5) (oi := { dst := some 44, op := Go.Op.load 26 (Go.Operand.tmp 12), type := 26, pos := "ref.go:165", after := #[], guard := none }) (v := ?v6) [7] rfl (by kernel_rfl) (by kernel_rfl) (by kernel_rfl) (fun _ _ _ h => h) (by kernel_rfl) (Or.inl ⟨by rfl, ?hy6⟩) (by assumption) ?rs6
      case hy6 =>
        intro w hSw
        (try dsimp only at hSw)
        go_simp
        try with_reducible rfl
      (try simp only [Act.put, List.setIfInBounds_toArray, List.set_cons_zero, List.set_cons_succ])
      refine wpAnyM_take (i := 6) (oi := { dst := some 45, op := Go.Op.indexAddr 36 (Go.Operand.tmp 39) (Go.Operand.tmp 43), type := 0, pos := "ref.go:165", after := #[{ on := 0, ground := Go.Ground.data }, { on := 4, ground := Go.Ground.data }, { on := 0, ground := Go.Ground.phase }, { on := 1, ground := Go.Ground.phase }, { on := 2, ground := Go.Ground.phase }, { on := 3, ground := Go.Ground.phase }, { on := 4, ground := Go.Ground.phase }, { on := 5, ground := Go.Ground.phase }], guard := none }) (v := ?v7) [7] rfl (by kernel_rfl) (by kernel_rfl) (by kernel_rfl) (fun _ _ _ h => h) (by kernel_rfl) (Or.inl ⟨by rfl, ?hy7⟩) (by assumption) ?rs7
      case hy7 =>
        intro w hSw
        (try dsimp only at hSw)
        go_simp
        try with_reducible rfl
      (try simp only [Act.put, List.setIfInBounds_toArray, List.set_cons_zero, List.set_cons_succ])
      refine wpAnyM_ready (rs := [7]) (by kernel_rfl) (by simp) ?_
      refine AllReadyM.atLast (o := { dst := none, op := Go.Op.store 26 (Go.Operand.tmp 45) (Go.Operand.tmp 44), type := 0, pos := "ref.go:165", after := #[{ on := 6, ground := Go.Ground.data }, { on := 5, ground := Go.Ground.data }, { on := 0, ground := Go.Ground.phase }, { on := 1, ground := Go.Ground.phase }, { on := 2, ground := Go.Ground.phase }, { on := 3, ground := Go.Ground.phase }, { on := 4, ground := Go.Ground.phase }, { on := 5, ground := Go.Ground.phase }], guard := none }) rfl (fun K7 hK7 => ?_) AllReadyM.nil
      have t0 : wc.cell? ⟨ag, f * 2, none⟩ = some (.int .i64 (((spP P f).1 : Nat) : Int)) := by rw [hOc.cellAt _ (by omega)]; exact (spsL_get _ k f hfk).1
      have t1 : wc.cell? ⟨ag, f * 2 + 1, none⟩ = some (.int .i64 (((spP P f).2 : Nat) : Int)) := by rw [hOc.cellAt _ (by omega)]; exact (spsL_get _ k f hfk).2
      have t2 := hOc.frozenAt (f * 2)
      have t3 := hOc.frozenAt (f * 2 + 1)
      have hS1 := hOc.stored (f * 2) (.int .i64 (c : Int))
      have hS2 := hS1.1.stored (f * 2 + 1) (.int .i64 (((0 : Nat)) : Int))
      have hgb : n0 + 1 ≤ ag := (hOc.lt ag rfl).1
      have hKF := (hKcc.setCell (p := ⟨ag, f * 2, none⟩) (by show _ ≤ ag; omega) (.int .i64 (c : Int))).setCell (p := ⟨ag, f * 2 + 1, none⟩) (by show _ ≤ ag; omega) (.int .i64 (((0 : Nat)) : Int))
      have hOF := hS2.1
      rw [spsL_set (spP P) (c, 0) f k hfk, HSP.out] at hOF
      clear hS1 hS2
      go_simp
      skip
      (try go_wp2_with fail)
      refine hK7.out _ _ ?_
      (try simp only [Act.put, List.setIfInBounds_toArray, List.set_cons_zero, List.set_cons_succ])
      refine wpAnyM_done (by kernel_rfl) ?_ _
      go_wp2_with fail
      go_roundg (m - (i + 1))
      case measure => omega
      case rel => exact ⟨i + 1, by omega, rfl, by go_num, by rw [HCS.out, Int.natCast_add], hOF, hKF.drew⟩
    · obtain rfl : i = m := by omega
      go_wp2_with fail
      go_ret
      exact ⟨rfl, hKw.trans hKr⟩
end Go.Proofs.Ytlgpclnmonpkjaa
