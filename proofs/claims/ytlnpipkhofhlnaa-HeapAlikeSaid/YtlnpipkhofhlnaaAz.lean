/-
  The law HeapAlike, walked.
-/
import Derived.Test.YtlnpipkhofhlnaaBa
import Derived.Test.YtlnpipkhofhlnaaLi
import Derived.Test.YtlnpipkhofhlnaaGg
import Derived.Test.YtlnpipkhofhlnaaAk
namespace Go.Proofs.Ytlnpipkhofhlnaa
open Go.RowKit Go.Deep

set_option maxRecDepth 100000 in
set_option maxHeartbeats 8000000 in
theorem alikes_any (w : World) (nn : Nat) (xa za : Option Addr) (q qcap zq zcap : Nat) (X Y Z : Nat → Nat) (hnn : nn < 256) (hx : Bytes2At w (.slice xa q qcap) q X Y) (hX : ∀ i, X i < 256) (hY : ∀ i, Y i < 256) (hq : q ≤ maxLen)
    (hz : BytesAt w (.slice za zq zcap) zq Z) (hZ : ∀ i, Z i < 256) (hzq : zq ≤ maxLen) :
    Calls Try.prog 7 #[.agg #[.int .u8 nn, .slice xa q qcap], .slice za zq zcap] w (LivesPost w) := by
  have hK0 : Kept w (w.alloc (.cells #[.int .u8 nn, .slice xa q qcap] 47)) := (Kept.refl w).alloc _
  go_enter Try.func7, Try.ntmps7
  go_wp2_with fail
  refine (made_any _ xa q qcap nn 8 X Y (hx.kept hK0) hX hY hq hnn (by omega) (by omega)).mono ?_
  rintro e w1 ⟨k, m, ea, ecap, A, B, rfl, hE1, hk1, hk2, hk8, hm19, hgood⟩
  obtain ⟨N, rfl⟩ : ∃ N, k = N + 1 := ⟨k - 1, by omega⟩
  have hK1 := hK0.trans hk1
  have hz1 := CellsAt.kept hz hK1
  obtain ⟨ok, ⟨p, hpk⟩, _, _⟩ := good_ok hgood
  have hcb := good_count hgood
  simp only [Int.toNat_natCast] at ok hpk hcb
  clear hK0 hk1 hz hx hX hY
  go_wp2_with fail
  refine (bars_any _ za zq zcap N Z hz1 hZ hzq (by omega)).mono ?_
  rintro e w2 ⟨ha, hcap, rfl, hH2, hk3⟩
  have hE2 := hE1.kept hk3
  have hK2 := hK1.trans hk3
  have hr : ∀ i, i < N → 0 ≤ barF zq Z i ∧ barF zq Z i ≤ 255 := fun i _ => barF_bd hZ i
  obtain ⟨hp, HHP⟩ : ∃ hp, Hid (hp = barF zq Z) := ⟨_, rfl⟩
  rw [← HHP.out] at hr hH2
  have HR := Lib.hid hr
  clear hz1 hE1 hk3 hK1 hZ HHP hr
  go_wp2_with fail
  refine (Settle_good _ N _ _ A B m hp hE2 hH2 (by omega) hgood (fun i hi => ⟨(HR.out i hi).1, by have := (HR.out i hi).2; omega⟩)).mono ?_
  rintro e w3 ⟨r, t, f, x, rfl, hk4, _, _, _, hS3, _, hodo, hf, hf0, _⟩
  have hqs : Eqv N (degN A B m) (btwN A B m) (fun i => f (i + 1)) hp := fin_eqv ok hodo hf
  have hsb : ∀ i, i < N → 0 ≤ f (i + 1) ∧ f (i + 1) ≤ 19 := fun i hi => ⟨hf0 (i + 1) (by omega), (stable_bd ok (odo_stable hodo hf) i hi).2⟩
  obtain ⟨fs, HFS⟩ : ∃ fs : Nat → Int, Hid (fs = fun i => f (i + 1)) := ⟨_, rfl⟩
  have hS3' : IntsAt w3 (.slice (some ⟨r, 1, none⟩) N N) N fs := by rw [HFS.out]; exact hS3
  have HQS : Hid (Eqv N (degN A B m) (btwN A B m) fs hp) := by show Eqv _ _ _ fs hp; rw [HFS.out]; exact hqs
  have HSB : Hid (∀ i, i < N → 0 ≤ fs i ∧ fs i ≤ 19) := by show ∀ i, _; rw [HFS.out]; exact hsb
  have hE3 := hE2.kept hk4
  have hH3 := hH2.kept hk4
  have hK3 := hK2.trans hk4
  clear hqs hsb hS3 hodo hf hf0 hE2 hH2 hK2 hk4 HFS
  go_wp2_with fail
  refine (Again_good _ N _ _ A B m hp hE3 hH3 (by omega) hgood (fun i hi => by have := HR.out i hi; omega)).mono ?_
  rintro e w4 ⟨r4, f, x, rfl, hk5, hA4, _, hodo, hf, hnf, hst, hbd⟩
  have hqa : Eqv N (degN A B m) (btwN A B m) (fun i => f (i + 1)) hp := again_eqv ok hpk hodo hf
  have has : ∀ i, i < N → f (i + 1) < degN A B m (i + 1) := fun i hi => (stable_bd ok hst i hi).1
  obtain ⟨fa, HFA⟩ : ∃ fa : Nat → Int, Hid (fa = fun i => f (i + 1)) := ⟨_, rfl⟩
  have hA4' : IntsAt w4 (.slice (some ⟨r4, 1, none⟩) N N) N fa := by rw [HFA.out]; exact hA4
  have HQA : Hid (Eqv N (degN A B m) (btwN A B m) fa hp) := by show Eqv _ _ _ fa hp; rw [HFA.out]; exact hqa
  have HAS : Hid (∀ i, i < N → fa i < degN A B m (i + 1)) := by show ∀ i, _; rw [HFA.out]; exact has
  have HAB : Hid (∀ i, i < N → 0 ≤ fa i ∧ fa i ≤ 19) := by show ∀ i, _; rw [HFA.out]; exact hbd
  have HAN : Hid (NF N (btwN A B m) fa) := by show NF _ _ fa; rw [HFA.out]; exact hnf
  have hE4 := hE3.kept hk5
  have hH4 := hH3.kept hk5
  have hS4 := hS3'.kept hk5
  have hK4 := hK3.trans hk5
  clear hqa has hA4 hodo hf hnf hst hbd hE3 hH3 hS3' hK3 hk5 HFA
  go_wp2_with fail
  refine (Low_good _ N _ _ A B m hp hE4 hH4 (by omega) hgood (fun i hi => by have := HR.out i hi; omega)).mono ?_
  rintro e w5 ⟨r5, f, x, rfl, hk6, hL5, _, hodo, hf, hnf, hst, hbd⟩
  have hql : Eqv N (degN A B m) (btwN A B m) (fun i => topI (degN A B m) i - f (i + 1)) hp := low_eqv ok hpk hodo hf
  have hqk : Eqv N (degN A B m) (btwN A B m) (fun i => f (i + 1)) (fun i => topI (degN A B m) i - hp i) := lack_eqv ok hpk hodo hf
  have hls : ∀ i, i < N → f (i + 1) < degN A B m (i + 1) := fun i hi => (stable_bd ok hst i hi).1
  have hlb : ∀ i, i < N → 0 ≤ topI (degN A B m) i - f (i + 1) ∧ topI (degN A B m) i - f (i + 1) ≤ 20 := fun i hi => by
    have h1 := hbd i hi
    have h2 := hls i hi
    have h3 := ok.D20 (i + 1) (by omega)
    unfold topI
    omega
  obtain ⟨fk, HFK⟩ : ∃ fk : Nat → Int, Hid (fk = fun i => f (i + 1)) := ⟨_, rfl⟩
  obtain ⟨fl, HFL⟩ : ∃ fl : Nat → Int, Hid (fl = fun i => topI (degN A B m) i - f (i + 1)) := ⟨_, rfl⟩
  have hL5' : IntsAt w5 (.slice (some ⟨r5, 0, none⟩) N N) N fl := by rw [HFL.out]; exact hL5
  have HQL : Hid (Eqv N (degN A B m) (btwN A B m) fl hp) := by show Eqv _ _ _ fl hp; rw [HFL.out]; exact hql
  have HLB : Hid (∀ i, i < N → 0 ≤ fl i ∧ fl i ≤ 20) := by show ∀ i, _; rw [HFL.out]; exact hlb
  have HQK : Hid (Eqv N (degN A B m) (btwN A B m) fk (fun i => topI (degN A B m) i - hp i)) := by show Eqv _ _ _ fk _; rw [HFK.out]; exact hqk
  have HKS : Hid (∀ i, i < N → fk i < degN A B m (i + 1)) := by show ∀ i, _; rw [HFK.out]; exact hls
  have HKN : Hid (NF N (btwN A B m) fk) := by show NF _ _ fk; rw [HFK.out]; exact hnf
  have HLK : Hid (∀ i, fl i = topI (degN A B m) i - fk i) := by intro i; rw [HFL.out, HFK.out]
  have hE5 := hE4.kept hk6
  have hH5 := hH4.kept hk6
  have hS5 := hS4.kept hk6
  have hA5 := hA4'.kept hk6
  have hK5 := hK4.trans hk6
  clear hql hqk hls hlb hL5 hodo hf hnf hst hbd hE4 hH4 hS4 hA4' hK4 hk6 HFK HFL
  go_wp2_with fail
  refine (lives_any _).mono ?_
  rintro e w6 ⟨rfl, hk7⟩
  have hE6 := hE5.kept hk7
  have hH6 := hH5.kept hk7
  have hS6 := hS5.kept hk7
  have hA6 := hA5.kept hk7
  have hL6 := hL5'.kept hk7
  have hK6 := hK5.trans hk7
  clear hE5 hH5 hS5 hA5 hL5' hK5 hk7
  go_wp2_with fail
  have hmat := matrix_ref w6 (N + 1) m _ A B hE6 (by omega) (by omega) (by omega)
  rw [Nat.add_sub_cancel] at hmat
  refine hmat.mono ?_
  clear hmat
  rintro e w7 ⟨v7, rfl, hk8, hT7⟩
  have hM7 := hT7.mat (by omega)
  obtain ⟨va7, vcap7, rfl⟩ := mat_shape hM7
  have hsm := lap_small ok
  have hdc := det_count ok hpk
  have hrest : ∀ f g, Eqv N (degN A B m) (btwN A B m) f g → ∀ i, i < N → restE (adjE N (lapM (degN A B m) (btwN A B m))) N (detE N (lapM (degN A B m) (btwN A B m))) f i = restE (adjE N (lapM (degN A B m) (btwN A B m))) N (detE N (lapM (degN A B m) (btwN A B m))) g i := fun f g h i hi => rest_eqv ok hpk h hi
  have hajb : ∀ i j, -921600000000 ≤ adjE N (lapM (degN A B m) (btwN A B m)) i j ∧ adjE N (lapM (degN A B m) (btwN A B m)) i j ≤ 921600000000 := fun i j => adjE_bd hsm (by omega) (by omega) i j
  obtain ⟨M, HM⟩ : ∃ M, Hid (M = lapM (degN A B m) (btwN A B m)) := ⟨_, rfl⟩
  rw [← HM.out] at hM7 hsm hdc hrest hajb
  have hd1 : 1 ≤ detE N M := by rw [hdc]; exact hcb.1
  have hd2 : detE N M ≤ 1000000 := by rw [hdc]; have := hcb.2; omega
  have hdet := fun (w2 : World) (v : Value) (h : MatAt w2 v N N M) => det_ref N w2 v M h (by omega) hsm
  have hadj := fun (w2 : World) (v : Value) (h : MatAt w2 v N N M) => adjoint_ref w2 N v M h (by omega) (by omega) hsm
  obtain ⟨det, HDET⟩ : ∃ det, Hid (det = detE N M) := ⟨_, rfl⟩
  rw [← HDET.out] at hd1 hd2 hrest hdet
  obtain ⟨R, HRR⟩ : ∃ R, Hid (R = adjE N M) := ⟨_, rfl⟩
  rw [← HRR.out] at hajb hrest hadj
  have HDF := Lib.hid hdet
  have HAF := Lib.hid hadj
  have HREST := Lib.hid hrest
  have HRF := Lib.hid (fun (w2 : World) (mv lv : Value) (f : Nat → Int) (h : MatAt w2 mv N N R) (hL : IntsAt w2 lv N f) (hb : ∀ j, j < N → -2000 ≤ f j ∧ f j ≤ 2000) => rests_ref w2 N mv lv R det f h hL (by omega) hd1 hd2 hajb hb)
  have hE7 := hE6.kept hk8
  have hH7 := hH6.kept hk8
  have hS7 := hS6.kept hk8
  have hA7 := hA6.kept hk8
  have hL7 := hL6.kept hk8
  have hK7 := hK6.trans hk8
  clear hT7 hk8 hE6 hH6 hS6 hA6 hL6 hK6 hsm hdc hrest hajb hdet hadj hcb hd1 hd2
  go_wp2_with fail
  refine (HDF.out _ _ hM7).mono ?_
  rintro e w8 ⟨rfl, hk9⟩
  have hM8 := hM7.kept hk9
  go_wp2_with fail
  refine (HAF.out _ _ hM8).mono ?_
  rintro e w9 ⟨v9, rfl, hk10, hT9⟩
  have hM9 := hT9.mat (by omega)
  obtain ⟨va9, vcap9, rfl⟩ := mat_shape hM9
  have hk11 := hk9.trans hk10
  have hE9 := hE7.kept hk11
  have hH9 := hH7.kept hk11
  have hS9 := hS7.kept hk11
  have hA9 := hA7.kept hk11
  have hL9 := hL7.kept hk11
  have hK9 := hK7.trans hk11
  clear hT9 hk9 hk10 hk11 hE7 hH7 hS7 hA7 hL7 hK7 hM7 hM8
  go_wp2_with fail
  refine (HRF.out _ _ _ hp hM9 hH9 (fun i hi => by have := HR.out i hi; omega)).mono ?_
  rintro e w10 ⟨vw, rfl, hk12, hO10⟩
  have hW10 := ints_at hO10
  obtain ⟨wa, wcap, rfl⟩ := own_shape hO10
  have hE10 := hE9.kept hk12
  have hS10 := hS9.kept hk12
  have hA10 := hA9.kept hk12
  have hL10 := hL9.kept hk12
  have hM10 := hM9.kept hk12
  have hK10 := hK9.trans hk12
  clear hO10 hk12 hE9 hH9 hS9 hA9 hL9 hM9 hK9
  go_wp2_with fail
  refine (Again_good _ N _ _ A B m fl hE10 hL10 (by omega) hgood (fun i hi => by have := HLB.out i hi; omega)).mono ?_
  rintro e w11 ⟨r11, f, x, rfl, hk13, hC11, _, hodo, hf, hnf, hst, hbd⟩
  have hcs : ∀ i, i < N → f (i + 1) = fa i := eqv_same ok (f := fun i => f (i + 1)) hnf HAN.out (fun i hi => (stable_bd ok hst i hi).1) HAS.out (((again_eqv ok hpk hodo hf).trans HQL.out).trans HQA.out.symm)
  obtain ⟨fc, HFC⟩ : ∃ fc : Nat → Int, Hid (fc = fun i => f (i + 1)) := ⟨_, rfl⟩
  have hC11' : IntsAt w11 (.slice (some ⟨r11, 1, none⟩) N N) N fc := by rw [HFC.out]; exact hC11
  have HCS : Hid (∀ i, i < N → fc i = fa i) := by show ∀ i, _; rw [HFC.out]; exact hcs
  have hE11 := hE10.kept hk13
  have hS11 := hS10.kept hk13
  have hA11 := hA10.kept hk13
  have hL11 := hL10.kept hk13
  have hM11 := hM10.kept hk13
  have hW11 := hW10.kept hk13
  have hK11 := hK10.trans hk13
  clear hcs hC11 hodo hf hnf hst hbd hk13 hE10 hS10 hA10 hL10 hM10 hW10 hK10 HFC
  go_wp2_with fail
  refine (Low_good _ N _ _ A B m fa hE11 hA11 (by omega) hgood (fun i hi => by have := HAB.out i hi; omega)).mono ?_
  rintro e w12 ⟨r12, f, x, rfl, hk14, hD12, _, hodo, hf, hnf, hst, hbd⟩
  have hds : ∀ i, i < N → topI (degN A B m) i - f (i + 1) = fl i := fun i hi => by
    have := eqv_same ok (f := fun i => f (i + 1)) hnf HKN.out (fun i hi => (stable_bd ok hst i hi).1) HKS.out (((lack_eqv ok hpk hodo hf).trans HQA.out.lack).trans HQK.out.symm) i hi
    rw [HLK.out i, ← this]
  obtain ⟨fd, HFD⟩ : ∃ fd : Nat → Int, Hid (fd = fun i => topI (degN A B m) i - f (i + 1)) := ⟨_, rfl⟩
  have hD12' : IntsAt w12 (.slice (some ⟨r12, 0, none⟩) N N) N fd := by rw [HFD.out]; exact hD12
  have HDS : Hid (∀ i, i < N → fd i = fl i) := by show ∀ i, _; rw [HFD.out]; exact hds
  have hS12 := hS11.kept hk14
  have hA12 := hA11.kept hk14
  have hL12 := hL11.kept hk14
  have hM12 := hM11.kept hk14
  have hW12 := hW11.kept hk14
  have hC12 := hC11'.kept hk14
  have hK12 := hK11.trans hk14
  clear hds hD12 hodo hf hnf hst hbd hk14 hE11 hS11 hA11 hL11 hM11 hW11 hC11' hK11 HFD
  go_wp2_with fail
  refine (HRF.out _ _ _ fs hM12 hS12 (fun i hi => by have := HSB.out i hi; omega)).mono ?_
  rintro e w13 ⟨v13, rfl, hk15, hO13⟩
  have hV13 := ints_at hO13
  obtain ⟨a13, cap13, rfl⟩ := own_shape hO13
  have hW13 := hW12.kept hk15
  go_wp2_with fail
  refine (same_yes _ _ _ N _ _ hV13 hW13 (by omega) (HREST.out _ _ HQS.out)).mono ?_
  rintro e w14 ⟨rfl, hk16⟩
  have hk17 := hk15.trans hk16
  have hA14 := hA12.kept hk17
  have hL14 := hL12.kept hk17
  have hM14 := hM12.kept hk17
  have hW14 := hW12.kept hk17
  have hC14 := hC12.kept hk17
  have hD14 := hD12'.kept hk17
  have hK14 := hK12.trans hk17
  clear hO13 hV13 hW13 hk15 hk16 hk17 hS12 hA12 hL12 hM12 hW12 hC12 hD12' hK12
  go_wp2_with fail
  refine (HRF.out _ _ _ fa hM14 hA14 (fun i hi => by have := HAB.out i hi; omega)).mono ?_
  rintro e w15 ⟨v15, rfl, hk15, hO15⟩
  have hV15 := ints_at hO15
  obtain ⟨a15, cap15, rfl⟩ := own_shape hO15
  have hW15 := hW14.kept hk15
  go_wp2_with fail
  refine (same_yes _ _ _ N _ _ hV15 hW15 (by omega) (HREST.out _ _ HQA.out)).mono ?_
  rintro e w16 ⟨rfl, hk16⟩
  have hk17 := hk15.trans hk16
  have hA16 := hA14.kept hk17
  have hL16 := hL14.kept hk17
  have hM16 := hM14.kept hk17
  have hW16 := hW14.kept hk17
  have hC16 := hC14.kept hk17
  have hD16 := hD14.kept hk17
  have hK16 := hK14.trans hk17
  clear hO15 hV15 hW15 hk15 hk16 hk17 hA14 hL14 hM14 hW14 hC14 hD14 hK14
  go_wp2_with fail
  refine (HRF.out _ _ _ fl hM16 hL16 (fun i hi => by have := HLB.out i hi; omega)).mono ?_
  rintro e w17 ⟨v17, rfl, hk15, hO17⟩
  have hV17 := ints_at hO17
  obtain ⟨a17, cap17, rfl⟩ := own_shape hO17
  have hW17 := hW16.kept hk15
  go_wp2_with fail
  refine (same_yes _ _ _ N _ _ hV17 hW17 (by omega) (HREST.out _ _ HQL.out)).mono ?_
  rintro e w18 ⟨rfl, hk16⟩
  have hk17 := hk15.trans hk16
  have hA18 := hA16.kept hk17
  have hL18 := hL16.kept hk17
  have hC18 := hC16.kept hk17
  have hD18 := hD16.kept hk17
  have hK18 := hK16.trans hk17
  clear hO17 hV17 hW17 hk15 hk16 hk17 hA16 hL16 hM16 hW16 hC16 hD16 hK16
  go_wp2_with fail
  refine (same_yes _ _ _ N _ _ hC18 hA18 (by omega) HCS.out).mono ?_
  rintro e w19 ⟨rfl, hk19⟩
  have hD19 := hD18.kept hk19
  have hL19 := hL18.kept hk19
  go_wp2_with fail
  refine (same_yes _ _ _ N _ _ hD19 hL19 (by omega) HDS.out).mono ?_
  rintro e w20 ⟨rfl, hk20⟩
  go_wp2_with fail
  go_ret
  exact ⟨rfl, (hK18.trans hk19).trans hk20⟩
end Go.Proofs.Ytlnpipkhofhlnaa
