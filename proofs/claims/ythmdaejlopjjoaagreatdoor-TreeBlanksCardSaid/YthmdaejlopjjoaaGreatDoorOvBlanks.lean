/-
  TreeBlanks: what the row says of the program's own text, by the kernel.
-/
import Derived.Test.YthmdaejlopjjoaaGreatDoorRows
import Derived.JoinedOf
namespace Go.Proofs.YthmdaejlopjjoaaGreatDoor.treeBlanks

set_option maxRecDepth 100000 in
theorem closed : joinedFacts Tryz.pinned.checked.prog 4 Tryz.f4 Rows.treeBlanksSpec Rows.treeBlanksRow = true := by kernel_rfl
set_option maxRecDepth 100000 in
theorem inst : Tryz.f4.isInstance Tryz.pinned.checked.prog Rows.treeBlanksRow.origin Rows.treeBlanksRow.targs := of_decide_eq_true (by kernel_rfl)
set_option maxRecDepth 100000 in
theorem wrap : Tryz.f4.isWrapper Tryz.pinned.checked.prog Rows.treeBlanksRow.wrapper Rows.treeBlanksRow.mainSum := by
  unfold Func.isWrapper
  first | (rw [if_pos (by decide +kernel)]; kernel_rfl) | (rw [if_neg (by decide +kernel)]; exact ⟨rfl, rfl⟩)
end Go.Proofs.YthmdaejlopjjoaaGreatDoor.treeBlanks
