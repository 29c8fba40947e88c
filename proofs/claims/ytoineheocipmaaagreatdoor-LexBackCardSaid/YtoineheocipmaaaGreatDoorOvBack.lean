/-
  LexBack: what the row says of the program's own text, by the kernel.
-/
import Derived.Test.YtoineheocipmaaaGreatDoorRows
import Derived.JoinedOf
namespace Go.Proofs.YtoineheocipmaaaGreatDoor.lexBack

set_option maxRecDepth 100000 in
theorem closed : joinedFacts Tryz.pinned.checked.prog 4 Tryz.f4 Rows.lexBackSpec Rows.lexBackRow = true := by kernel_rfl
set_option maxRecDepth 100000 in
theorem inst : Tryz.f4.isInstance Tryz.pinned.checked.prog Rows.lexBackRow.origin Rows.lexBackRow.targs := of_decide_eq_true (by kernel_rfl)
set_option maxRecDepth 100000 in
theorem wrap : Tryz.f4.isWrapper Tryz.pinned.checked.prog Rows.lexBackRow.wrapper Rows.lexBackRow.mainSum := by
  unfold Func.isWrapper
  first | (rw [if_pos (by decide +kernel)]; kernel_rfl) | (rw [if_neg (by decide +kernel)]; exact ⟨rfl, rfl⟩)
end Go.Proofs.YtoineheocipmaaaGreatDoor.lexBack
