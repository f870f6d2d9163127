/-
  The law MarkCommon, walked.
-/
import Derived.Test.YtjcgplocifmolaaYa
import Derived.Test.YtjcgplocifmolaaRc
namespace Go.Proofs.Ytjcgplocifmolaa
open Go.RowKit Go.Deep Go.Sort

theorem bin_words {s t : Wd} (hs : Bin s) (ht : Bin t) (h1 : s.length ≤ 20) (h2 : t.length ≤ 20) : wordsC 20 2 s t = 0 := by
  unfold wordsC checkC
  have a1 := belB_dig.2 (bin_dig.2 hs)
  have a2 := belB_dig.2 (bin_dig.2 ht)
  simp [h1, h2, a1, a2]
theorem common_bin (W : World) {s t : Wd} (hs : Bin s) (ht : Bin t) (h1 : s.length ≤ 20) (h2 : t.length ≤ 20) :
    Calls Try.prog 19 #[.string (bs s), .string (bs t)] W fun e w' => e = .returned (.tuple #[.string (bs (com s t)), .int .i64 0]) ∧ Kept W w' := by
  refine (Common_any W s t (by omega) (by omega)).mono ?_
  rintro e w' ⟨hk, _, h⟩
  exact ⟨h (bin_words hs ht h1 h2), hk⟩
theorem bytes_lt (a b : Wd) : Op.bytesLess (bs a).toList (bs b).toList = decide (a < b) := by
  rw [Proofs.bytesLess_eq, ByteArray.toList_eq, ByteArray.toList_eq]; rfl
end Go.Proofs.Ytjcgplocifmolaa
