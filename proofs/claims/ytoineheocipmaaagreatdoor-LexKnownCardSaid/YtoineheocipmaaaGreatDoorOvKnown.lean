/-
  LexKnown: what the row says of the program's own text, by the kernel.
-/
import Derived.Test.YtoineheocipmaaaGreatDoorRows
import Derived.JoinedOf
namespace Go.Proofs.YtoineheocipmaaaGreatDoor.lexKnown

set_option maxRecDepth 100000 in
theorem closed : joinedFacts Tryz.pinned.checked.prog 7 Tryz.f7 Rows.lexKnownSpec Rows.lexKnownRow = true := by kernel_rfl
set_option maxRecDepth 100000 in
theorem inst : Tryz.f7.isInstance Tryz.pinned.checked.prog Rows.lexKnownRow.origin Rows.lexKnownRow.targs := of_decide_eq_true (by kernel_rfl)
set_option maxRecDepth 100000 in
theorem wrap : Tryz.f7.isWrapper Tryz.pinned.checked.prog Rows.lexKnownRow.wrapper Rows.lexKnownRow.mainSum := by
  unfold Func.isWrapper
  first | (rw [if_pos (by decide +kernel)]; kernel_rfl) | (rw [if_neg (by decide +kernel)]; exact ⟨rfl, rfl⟩)
end Go.Proofs.YtoineheocipmaaaGreatDoor.lexKnown
