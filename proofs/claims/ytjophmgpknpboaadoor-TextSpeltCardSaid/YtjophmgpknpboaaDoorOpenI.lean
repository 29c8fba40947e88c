/-
  Arguments that are slices of ints, opened.
-/
import Derived.Test.YtjophmgpknpboaaDoorOpen
import Derived.Test.YtjophmgpknpboaaDoorRunes
namespace Go.Proofs.YtjophmgpknpboaaDoor
open Go.RowKit Go.WideShapes Go.ChangeShapes Go.ChangeAt
set_option linter.unusedVariables false
set_option linter.unusedSimpArgs false

theorem Tryd.cells3 : Tryd.prog.cellsOf 3 = 1 := by kernel_rfl
theorem is_of_trod {H : Type} {enc : TypeId × Value → H} {W : World} {fuel : Nat} {v : Value} {x : DataW H × List MemPlace} (h : DataW.trod enc Tryd.prog W 0 (fun _ => true) true fuel 24 [v] = some x) :
    ∃ A n c l, v = .slice A n c ∧ Is W 0 W.heap.size A n c l := by
  rcases open_ints Tryd.underlying24 Tryd.underlying3 Tryd.cells3 h with ⟨hcs, hx⟩ | ⟨a, n, c, zs, hcs, _, hl, hm, hz, hx, hcell, hwz⟩
  · obtain rfl : v = .slice none 0 0 := by simpa using hcs
    exact ⟨none, 0, 0, [], rfl, rfl, by omega, by unfold maxLen; omega, fun h => absurd h (by omega)⟩
  · obtain rfl : v = .slice (some a) n c := by simpa using hcs
    simp only [if_true] at hz
    refine ⟨some a, n, c, zs.take n, rfl, by simp; omega, hl, hm, fun hn => ?_⟩
    obtain ⟨b, o, s⟩ := a
    obtain rfl : s = none := by simpa [Addr.add] using World.cell?_spot (hcell 0 (by omega))
    have hc0 := hcell 0 (by omega)
    rw [add_plain] at hc0
    refine ⟨b, o, rfl, Nat.zero_le _, cell_lt hc0, fun j hj => ?_⟩
    have hj' : j < n := by simp at hj; omega
    have hc := hcell j (by omega)
    rw [add_plain] at hc
    have hjz : j < zs.length := by omega
    rw [hc]
    simp [List.getD, List.getElem?_eq_getElem hjz]
theorem open_is {H : Type} {enc : TypeId × Value → H} {W : World} {base : Nat} {v : Value} {d : DataW H} {p : List MemPlace} (hv : Value.okWide Tryd.prog W .any base 24 v) (h : DataW.Trod enc Tryd.prog W 0 (fun _ => true) true 24 v d p) :
    ∃ A n c l, v = .slice A n c ∧ Is W 0 W.heap.size A n c l := by
  obtain ⟨a0, len, cap, rfl⟩ := okWide_slice Tryd.underlying24 hv
  obtain ⟨fuel, hf⟩ := h
  exact is_of_trod (by simpa [Value.cells] using hf)
end Go.Proofs.YtjophmgpknpboaaDoor
