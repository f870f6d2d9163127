/-
  The law's lives.
-/
import Derived.Test.YtjjeoloifggdpaaVp
namespace Go.Proofs.Ytjjeoloifggdpaa
open Go.RowKit Go.Deep Go.Sort

theorem new_small {n : Nat} (hn : n ≤ 8) (on : Nat → Nat) (h : Nat) : (Vil.new n on h).Small 0 := ⟨hn, fun _ => Nat.le_refl _, Nat.le_refl _, Nat.le_refl _⟩
theorem Vil.Small.deliver {V : Vil} {b : Nat} (h : V.Small b) (f t : Nat) : (V.deliver f t).Small (b + 3) := by
  unfold Vil.deliver
  split
  · exact h.mono (by omega)
  · exact (h.drop _).recv _
section
variable {w0 w : World} {p q : Nat} {V : Vil}
theorem Want_ok (h : LiveAt w0 w p q V) (hs : V.Small 999990) (x : Nat) (hc : V.wantC x = 0) : Calls Try.prog 18 #[.pointer (some ⟨p, 0, none⟩), .int .i64 (x : Int)] w fun e w' => e = .returned (.int .i64 0) ∧ LiveAt w0 w' p q (V.want x) := by
  have := Want_live h hs x
  rwa [hc, if_pos rfl, Int.toNat_natCast] at this
theorem Leave_ok (h : LiveAt w0 w p q V) (hs : V.Small 999990) (x : Nat) (hc : V.leaveC x = 0) : Calls Try.prog 20 #[.pointer (some ⟨p, 0, none⟩), .int .i64 (x : Int)] w fun e w' => e = .returned (.int .i64 0) ∧ LiveAt w0 w' p q (V.leave x) := by
  have := Leave_live h hs x
  rwa [hc, if_pos rfl, Int.toNat_natCast] at this
theorem Deliver_ok (h : LiveAt w0 w p q V) (hs : V.Small 999990) (x y : Nat) (hc : V.deliverC x y = 0) : Calls Try.prog 23 #[.pointer (some ⟨p, 0, none⟩), .int .i64 (x : Int), .int .i64 (y : Int)] w fun e w' => e = .returned (.int .i64 0) ∧ LiveAt w0 w' p q (V.deliver x y) := by
  have := Deliver_live h hs x y
  rwa [hc, if_pos rfl, Int.toNat_natCast, Int.toNat_natCast] at this
end
def L0 : Vil := Vil.new 2 (fun _ => 0) 0
def L1 : Vil := L0.want 1
def L2 : Vil := L1.deliver 1 0
def L3 : Vil := L2.deliver 0 1
def L4 : Vil := L3.want 0
def L5 : Vil := L4.deliver 0 1
def L6 : Vil := L5.leave 1
def L7 : Vil := L6.deliver 1 0
theorem s0 : L0.Small 0 := new_small (by omega) _ _
theorem s1 : L1.Small 3 := s0.want 1
theorem s2 : L2.Small 6 := s1.deliver 1 0
theorem s3 : L3.Small 9 := s2.deliver 0 1
theorem s4 : L4.Small 12 := s3.want 0
theorem s5 : L5.Small 15 := s4.deliver 0 1
theorem s6 : L6.Small 17 := s5.leave 1
theorem s7 : L7.Small 20 := s6.deliver 1 0
def LivesPost (w : World) (e : Ending) (w' : World) : Prop := e = .returned (.bool true) ∧ Kept w w'
theorem lit00 (w : World) : IntsAt (w.alloc (.cells #[.int .i64 0, .int .i64 0] 3)) (.slice (some ⟨w.heap.size, 0, none⟩) 2 2) 2 (fun _ => 0) := by
  obtain ⟨h0, h1⟩ := box2 w (.int .i64 0) (.int .i64 0) 3
  refine ⟨_, w.heap.size, 0, 2, rfl, fun _ => rfl, fun i hi => ?_⟩
  rcases (by omega : i = 0 ∨ i = 1) with rfl | rfl
  · exact h0
  · exact h1
theorem lit0 (w : World) : CellsAt (w.alloc (.cells #[.int .i64 0] 3)) (.slice (some ⟨w.heap.size, 0, none⟩) 1 1) 1 (fun i => .int .i64 ((([0] : List Nat).getD i 0 : Nat) : Int)) := by
  refine ⟨_, w.heap.size, 0, 1, rfl, fun _ => rfl, fun i hi => ?_⟩
  obtain rfl : i = 0 := by omega
  exact box1 w (.int .i64 0) 3
set_option maxRecDepth 100000 in
set_option maxHeartbeats 4000000 in
theorem lives_any (w : World) : Calls Try.prog 15 #[] w (LivesPost w) := by
  have NE := Lib.hid (New_live (w.alloc (.cells #[.int .i64 0, .int .i64 0] 3)) _ 2 (fun _ => 0) 0 (lit00 w) (by decide) (by omega))
  have hK0 : Kept w (w.alloc (.cells #[.int .i64 0, .int .i64 0] 3)) := (Kept.refl w).alloc _
  have A1 := Lib.hid (fun (w0 W : World) (p q : Nat) (h : LiveAt w0 W p q L0) => Want_ok h (s0.mono (by omega)) 1 (by decide +kernel))
  have A2 := Lib.hid (fun (w0 W : World) (p q : Nat) (h : LiveAt w0 W p q L1) => Deliver_ok h (s1.mono (by omega)) 1 0 (by decide +kernel))
  have A3 := Lib.hid (fun (w0 W : World) (p q : Nat) (h : LiveAt w0 W p q L2) => Deliver_ok h (s2.mono (by omega)) 0 1 (by decide +kernel))
  have A4 : Hid (∀ (w0 W : World) (p q : Nat), LiveAt w0 W p q L3 → Calls Try.prog 29 #[.pointer (some ⟨p, 0, none⟩)] W fun e w' => e = .returned (.int .i64 1) ∧ LiveAt w0 w' p q L3) := Lib.hid (fun w0 W p q h => by
    have := At_live h s3.n
    rwa [show L3.at = 1 by decide +kernel] at this)
  have A5 : Hid (∀ (w0 W : World) (p q : Nat), LiveAt w0 W p q L3 → Calls Try.prog 35 #[.pointer (some ⟨p, 0, none⟩)] W fun e w' => e = .returned (.int .i64 2) ∧ W = w') := Lib.hid (fun w0 W p q h => by
    have := Sent_live h
    rwa [show ((L3.sent : Nat) : Int) = 2 by decide +kernel] at this)
  have A6 := Lib.hid (fun (w0 W : World) (p q : Nat) (h : LiveAt w0 W p q L3) => Want_ok h (s3.mono (by omega)) 0 (by decide +kernel))
  have A7 := Lib.hid (fun (w0 W : World) (p q : Nat) (h : LiveAt w0 W p q L4) => Deliver_ok h (s4.mono (by omega)) 0 1 (by decide +kernel))
  have A8 : Hid (∀ (w0 W : World) (p q : Nat), LiveAt w0 W p q L5 → Calls Try.prog 32 #[.pointer (some ⟨p, 0, none⟩), .int .i64 1] W fun e w' => ∃ v, e = .returned v ∧ w'.ownsRow W.heap.size 3 1 v 1 (natsV [0]) ∧ LiveAt w0 w' p q L5) := Lib.hid (fun w0 W p q h => by
    have := List_live h (s5.mono (by omega)) 1
    rwa [show L5.listOf 1 = [0] by decide +kernel] at this)
  have A9 : Hid (∀ (W : World) (va vb : Value), CellsAt W va 1 (fun i => .int .i64 ((([0] : List Nat).getD i 0 : Nat) : Int)) → CellsAt W vb 1 (fun i => .int .i64 ((([0] : List Nat).getD i 0 : Nat) : Int)) → Calls Try.prog 40 #[va, vb] W fun e w' => e = .returned (.bool true) ∧ Quiet W w') := Lib.hid (fun W va vb ha hb => by
    have := same_nat W va vb [0] [0] ha hb (by decide) (by decide)
    rwa [decide_eq_true rfl] at this)
  have A10 := Lib.hid (fun (w0 W : World) (p q : Nat) (h : LiveAt w0 W p q L5) => Leave_ok h (s5.mono (by omega)) 1 (by decide +kernel))
  have A11 := Lib.hid (fun (w0 W : World) (p q : Nat) (h : LiveAt w0 W p q L6) => Deliver_ok h (s6.mono (by omega)) 1 0 (by decide +kernel))
  have A12 : Hid (∀ (w0 W : World) (p q : Nat), LiveAt w0 W p q L7 → Calls Try.prog 29 #[.pointer (some ⟨p, 0, none⟩)] W fun e w' => e = .returned (.int .i64 0) ∧ LiveAt w0 w' p q L7) := Lib.hid (fun w0 W p q h => by
    have := At_live h s7.n
    rwa [show L7.at = 0 by decide +kernel] at this)
  have A13 : Hid (∀ (w0 W : World) (p q : Nat), LiveAt w0 W p q L7 → Calls Try.prog 20 #[.pointer (some ⟨p, 0, none⟩), .int .i64 1] W fun e w' => e = .returned (.int .i64 5) ∧ LiveAt w0 w' p q L7) := Lib.hid (fun w0 W p q h => by
    have := Leave_live h (s7.mono (by omega)) 1
    rwa [show L7.leaveC 1 = 5 by decide +kernel, if_neg (by decide)] at this)
  unfold LivesPost
  go_enter Try.func15, Try.ntmps15
  go_wp2_with (first
    | (go_at_call 13; refine NE.out.mono ?_; rintro e w1 ⟨p, rfl, q, H0⟩; have H0 := Lib.hid H0)
    | (go_at_call 18; refine (A1.out _ _ _ _ H0.out).mono ?_; rintro e w2 ⟨rfl, H1⟩; have H1 := Lib.hid H1; clear H0)
    | (go_at_call 18; refine (A6.out _ _ _ _ H5.out).mono ?_; rintro e w7 ⟨rfl, H6⟩; have H6 := Lib.hid H6; clear H5)
    | (go_at_call 23; refine (A2.out _ _ _ _ H1.out).mono ?_; rintro e w3 ⟨rfl, H2⟩; have H2 := Lib.hid H2; clear H1)
    | (go_at_call 23; refine (A3.out _ _ _ _ H2.out).mono ?_; rintro e w4 ⟨rfl, H3⟩; have H3 := Lib.hid H3; clear H2)
    | (go_at_call 29; refine (A4.out _ _ _ _ H3.out).mono ?_; rintro e w5 ⟨rfl, H4⟩; have H4 := Lib.hid H4; clear H3)
    | (go_at_call 35; refine (A5.out _ _ _ _ H4.out).mono ?_; rintro e w6 ⟨rfl, rfl⟩; have H5 := H4; clear H4)
    | (go_at_call 23; refine (A7.out _ _ _ _ H6.out).mono ?_; rintro e w8 ⟨rfl, H7⟩; have H7 := Lib.hid H7; clear H6)
    | (go_at_call 32; refine (A8.out _ _ _ _ H7.out).mono ?_; rintro e w9 ⟨vl, rfl, hO, H8⟩; have H8 := Lib.hid H8; have HO := Lib.hid hO; clear H7 hO)
    | (go_at_call 40; refine (A9.out _ _ _ ((nats_at (l := [0]) HO.out).kept ((Kept.refl _).alloc _)) (lit0 _)).mono ?_; rintro e w10 ⟨rfl, hq⟩; have H9 := Lib.hid (H8.out.kept (((Kept.refl _).alloc _).trans hq.kept)); clear H8 hq)
    | (go_at_call 20; refine (A10.out _ _ _ _ H9.out).mono ?_; rintro e w11 ⟨rfl, H10⟩; have H10 := Lib.hid H10; clear H9)
    | (go_at_call 23; refine (A11.out _ _ _ _ H10.out).mono ?_; rintro e w12 ⟨rfl, H11⟩; have H11 := Lib.hid H11; clear H10)
    | (go_at_call 29; refine (A12.out _ _ _ _ H11.out).mono ?_; rintro e w13 ⟨rfl, H12⟩; have H12 := Lib.hid H12; clear H11)
    | (go_at_call 20; refine (A13.out _ _ _ _ H12.out).mono ?_; rintro e w14 ⟨rfl, H13⟩; have H13 := Lib.hid H13; clear H12))
  go_ret
  exact ⟨rfl, hK0.trans H13.out.mem⟩
end Go.Proofs.Ytjjeoloifggdpaa
