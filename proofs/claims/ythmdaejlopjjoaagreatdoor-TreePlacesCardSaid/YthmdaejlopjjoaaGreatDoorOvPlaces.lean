/-
  TreePlaces: what the row says of the program's own text, by the kernel.
-/
import Derived.Test.YthmdaejlopjjoaaGreatDoorRows
import Derived.JoinedOf
namespace Go.Proofs.YthmdaejlopjjoaaGreatDoor.treePlaces

set_option maxRecDepth 100000 in
theorem closed : joinedFacts Tryz.pinned.checked.prog 5 Tryz.f5 Rows.treePlacesSpec Rows.treePlacesRow = true := by kernel_rfl
set_option maxRecDepth 100000 in
theorem inst : Tryz.f5.isInstance Tryz.pinned.checked.prog Rows.treePlacesRow.origin Rows.treePlacesRow.targs := of_decide_eq_true (by kernel_rfl)
set_option maxRecDepth 100000 in
theorem wrap : Tryz.f5.isWrapper Tryz.pinned.checked.prog Rows.treePlacesRow.wrapper Rows.treePlacesRow.mainSum := by
  unfold Func.isWrapper
  first | (rw [if_pos (by decide +kernel)]; kernel_rfl) | (rw [if_neg (by decide +kernel)]; exact ⟨rfl, rfl⟩)
end Go.Proofs.YthmdaejlopjjoaaGreatDoor.treePlaces
