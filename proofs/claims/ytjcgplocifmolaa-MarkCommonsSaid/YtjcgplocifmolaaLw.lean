/-
  The law's word: words out of numbers; cut.
-/
import Derived.Test.YtjcgplocifmolaaLv
namespace Go.Proofs.Ytjcgplocifmolaa
open Go.RowKit Go.Deep Go.Sort

def d4 : ByteArray := ⟨#[48, 49, 50, 51]⟩
theorem d4_at {r : Nat} (h : r < 4) : d4.extract r (r + 1) = bs [UInt8.ofNat (48 + r)] := by
  have : r = 0 ∨ r = 1 ∨ r = 2 ∨ r = 3 := by omega
  rcases this with rfl | rfl | rfl | rfl <;> decide +kernel
/-- v reads as n bytes -/
def BytesAt (w : World) (v : Value) (n : Nat) (Z : Nat → Nat) : Prop := CellsAt w v n (fun i => .int .u8 ((Z i : Nat) : Int))
/-- the first k numbers as letters below q -/
def wrd (q : Nat) (Z : Nat → Nat) (k : Nat) : Wd := (List.range k).map fun i => UInt8.ofNat (48 + Z i % q)
theorem wrd_len (q : Nat) (Z : Nat → Nat) (k : Nat) : (wrd q Z k).length = k := by simp [wrd]
theorem wrd_succ (q : Nat) (Z : Nat → Nat) (k : Nat) : wrd q Z (k + 1) = wrd q Z k ++ [UInt8.ofNat (48 + Z k % q)] := by simp [wrd, List.range_succ]
theorem wrd_dig {q : Nat} (hq : 2 ≤ q) (hq4 : q ≤ 4) (Z : Nat → Nat) (k : Nat) : Dig q (wrd q Z k) := by
  intro c hc
  unfold wrd at hc
  obtain ⟨i, _, rfl⟩ := List.mem_map.1 hc
  have := Nat.mod_lt (Z i) (show 0 < q by omega)
  rw [UInt8.toNat_ofNat_of_lt' (by show _ < 256; omega)]
  omega
theorem wrd_bin (Z : Nat → Nat) (k : Nat) : Bin (wrd 2 Z k) := bin_dig.1 (wrd_dig (by omega) (by omega) Z k)
set_option maxRecDepth 100000 in
set_option maxHeartbeats 2000000 in
theorem word_any (w : World) (v : Value) (n q most : Nat) (Z : Nat → Nat) (hV : BytesAt w v n Z) (hZ : ∀ i, Z i < 256) (hn : n ≤ maxLen) (hq : 2 ≤ q) (hq4 : q ≤ 4) :
    Calls Try.prog 35 #[v, .int .i64 q, .int .i64 most] w fun e w' => e = .returned (.string (bs (wrd q Z (min n most)))) ∧ Quiet w w' := by
  obtain ⟨a, b, o, cap, rfl, ha, hc⟩ := hV
  have HC := Lib.hid hc
  have HZ := Lib.hid hZ
  unfold maxLen at hn
  have hr0 : Hid ((⟨#[]⟩ : ByteArray) = bs (wrd q Z 0)) := rfl
  clear hc hZ
  go_enter Try.func35, Try.ntmps35
  go_wp2_with fail
  rw [hr0.out]
  go_loopg [7, 8] (min n most) (fun g s7 s8 wr => ∃ i : Nat, i ≤ n ∧ i ≤ most ∧ g = min n most - i ∧ s8 = .int .i64 i ∧ s7 = .string (bs (wrd q Z i)) ∧ Quiet w wr)
  case atStart => exact ⟨0, Nat.zero_le _, Nat.zero_le _, rfl, rfl, rfl, Quiet.refl _⟩
  case round =>
    obtain ⟨i, hi, hi2, rfl, rfl, rfl, hQ⟩ := hrel
    have hsz : (bs (wrd q Z i)).size = i := by rw [bs_size, wrd_len]
    by_cases hlt : i < n ∧ i < most
    · obtain ⟨h1, h2⟩ := hlt
      obtain rfl := ha (by omega)
      have t0 := hQ.kept.cellSome (HC.out i h1)
      have s1 : (i : Int) < (n : Int) := by omega
      have s2 : (i : Int) < (most : Int) := by omega
      have s3 : (0 : Int) ≤ (i : Int) := by omega
      have hrl := Nat.mod_lt (Z i) (show 0 < q by omega)
      have hsn : Hid (bs (wrd q Z (i + 1)) = bs (wrd q Z i) ++ d4.extract (Z i % q) (Z i % q + 1)) := by
        show _ = _
        rw [wrd_succ, d4_at (by omega), bs_append]
      obtain ⟨r, HQ⟩ : ∃ r : Nat, Hid (r = Z i % q) := ⟨_, rfl⟩
      have em : Int.tmod ((Z i : Nat) : Int) (q : Int) = (r : Int) := by rw [HQ.out]; exact (Int.ofNat_tmod (Z i) q).symm
      rw [← HQ.out] at hsn hrl
      have hzb := HZ.out i
      obtain ⟨z, HZI⟩ : ∃ z, z = Z i := ⟨_, rfl⟩
      rw [← HZI] at t0 em hzb
      have hxs : (d4.extract r (r + 1)).size = 1 := by rw [d4_at (by omega)]; rfl
      have hq0 : ¬ ((q : Int) = 0) := by omega
      have w1 : IntKind.i64.wrap (r : Int) = (r : Int) := IntWalk.i64_in _ (by omega)
      have w2 : IntKind.i64.wrap ((r : Int) + 1) = (r : Int) + 1 := IntWalk.i64_in _ (by omega)
      have s4 : ¬ 9223372036854775807 < i + 1 := by omega
      have s5 : (0 : Int) ≤ (r : Int) := by omega
      have s6 : (r : Int) ≤ (r : Int) + 1 := by omega
      have s7 : (r : Int) + 1 ≤ 4 := by omega
      have et : ((r : Int) + 1).toNat = r + 1 := by omega
      obtain ⟨R', HR'⟩ : ∃ R', R' = bs (wrd q Z (i + 1)) := ⟨_, rfl⟩
      rw [← HR'] at hsn
      unfold d4 at hsn hxs
      clear HQ HZI
      generalize bs (wrd q Z i) = R at *
      go_wp2_with fail
      go_quiet (fail)
      go_wp2_with fail
      go_roundg (min n most - (i + 1))
      case measure => omega
      case rel => exact ⟨i + 1, by omega, by omega, rfl, by first | rfl | go_num, by rw [← HR', hsn.out], hQ.drewN _⟩
    · have hend : i = min n most := by omega
      have hfin : Hid (bs (wrd q Z i) = bs (wrd q Z (min n most))) := by show _ = _; rw [hend]
      clear hend
      by_cases h1 : i < n
      · have s1 : (i : Int) < (n : Int) := by omega
        have s2 : ¬ (i : Int) < (most : Int) := by omega
        generalize bs (wrd q Z i) = R at *
        go_wp2_with fail
        go_ret
        exact ⟨by rw [← hfin.out]; rfl, hQ⟩
      · have s1 : ¬ (i : Int) < (n : Int) := by omega
        generalize bs (wrd q Z i) = R at *
        go_wp2_with fail
        go_ret
        exact ⟨by rw [← hfin.out]; rfl, hQ⟩
end Go.Proofs.Ytjcgplocifmolaa
