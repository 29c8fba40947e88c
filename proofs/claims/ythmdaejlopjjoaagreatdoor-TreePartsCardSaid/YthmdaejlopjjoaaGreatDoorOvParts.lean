/-
  TreeParts: what the row says of the program's own text, by the kernel.
-/
import Derived.Test.YthmdaejlopjjoaaGreatDoorRows
import Derived.JoinedOf
namespace Go.Proofs.YthmdaejlopjjoaaGreatDoor.treeParts

set_option maxRecDepth 100000 in
theorem closed : joinedFacts Tryz.pinned.checked.prog 6 Tryz.f6 Rows.treePartsSpec Rows.treePartsRow = true := by kernel_rfl
set_option maxRecDepth 100000 in
theorem inst : Tryz.f6.isInstance Tryz.pinned.checked.prog Rows.treePartsRow.origin Rows.treePartsRow.targs := of_decide_eq_true (by kernel_rfl)
set_option maxRecDepth 100000 in
theorem wrap : Tryz.f6.isWrapper Tryz.pinned.checked.prog Rows.treePartsRow.wrapper Rows.treePartsRow.mainSum := by
  unfold Func.isWrapper
  first | (rw [if_pos (by decide +kernel)]; kernel_rfl) | (rw [if_neg (by decide +kernel)]; exact ⟨rfl, rfl⟩)
end Go.Proofs.YthmdaejlopjjoaaGreatDoor.treeParts
