/-
  LexBlanks: what the row says of the program's own text, by the kernel.
-/
import Derived.Test.YtoineheocipmaaaGreatDoorRows
import Derived.JoinedOf
namespace Go.Proofs.YtoineheocipmaaaGreatDoor.lexBlanks

set_option maxRecDepth 100000 in
theorem closed : joinedFacts Tryz.pinned.checked.prog 5 Tryz.f5 Rows.lexBlanksSpec Rows.lexBlanksRow = true := by kernel_rfl
set_option maxRecDepth 100000 in
theorem inst : Tryz.f5.isInstance Tryz.pinned.checked.prog Rows.lexBlanksRow.origin Rows.lexBlanksRow.targs := of_decide_eq_true (by kernel_rfl)
set_option maxRecDepth 100000 in
theorem wrap : Tryz.f5.isWrapper Tryz.pinned.checked.prog Rows.lexBlanksRow.wrapper Rows.lexBlanksRow.mainSum := by
  unfold Func.isWrapper
  first | (rw [if_pos (by decide +kernel)]; kernel_rfl) | (rw [if_neg (by decide +kernel)]; exact ⟨rfl, rfl⟩)
end Go.Proofs.YtoineheocipmaaaGreatDoor.lexBlanks
