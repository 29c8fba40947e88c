/-
  Arguments that are slices of bytes, opened.
-/
import Derived.Test.YtoineheocipmaaaGreatDoorPost
import Derived.Test.YtoineheocipmaaaGreatDoorWords
namespace Go.Proofs.YtoineheocipmaaaGreatDoor
open Go.RowKit Go.WideShapes Go.ChangeShapes Go.ChangeAt
set_option linter.unusedVariables false

theorem Tryz.cells5 : Tryz.prog.cellsOf 5 = 1 := by kernel_rfl

theorem cell_lt {w : World} {b o : Nat} {v : Value} (h : w.cell? ⟨b, o, none⟩ = some v) : b < w.heap.size := by
  rcases Nat.lt_or_ge b w.heap.size with hlt | hge
  · exact hlt
  · simp [World.cell?, Array.getElem?_eq_none hge] at h

set_option maxRecDepth 100000 in
theorem bs_of_trod {H : Type} {enc : TypeId × Value → H} {W : World} {fuel : Nat} {v : Value} {x : DataW H × List MemPlace} (h : DataW.trod enc Tryz.prog W 0 (fun _ => true) true fuel 42 [v] = some x) :
    ∃ A n c l, v = .slice A n c ∧ Bs W 0 W.heap.size A n c l := by
  rcases open_ints Tryz.underlying42 Tryz.underlying5 Tryz.cells5 h with ⟨hcs, hx⟩ | ⟨a, n, c, zs, hcs, _, hl, hm, hz, hx, hcell, hwz⟩
  · obtain rfl : v = .slice none 0 0 := by simpa using hcs
    exact ⟨none, 0, 0, [], rfl, Bs.none_ _ _ _ _ (by unfold maxLen; omega)⟩
  · obtain rfl : v = .slice (some a) n c := by simpa using hcs
    simp only [if_true] at hz
    refine ⟨some a, n, c, (zs.take n).map fun z => UInt8.ofNat z.toNat, rfl, by simp; omega, hl, hm, fun hn => ?_⟩
    obtain ⟨b, o, s⟩ := a
    obtain rfl : s = none := by simpa [Addr.add] using World.cell?_spot (hcell 0 (by omega))
    have hc0 := hcell 0 (by omega)
    rw [add_plain] at hc0
    refine ⟨b, o, rfl, Nat.zero_le _, cell_lt hc0, fun j hj => ?_⟩
    have hj' : j < n := by simp at hj; omega
    have hc := hcell j (by omega)
    rw [add_plain] at hc
    have hjz : j < zs.length := by omega
    have hb := bounds_u8 (hwz zs[j] (List.getElem_mem hjz))
    rw [hc]
    simp only [List.getElem_map, List.getElem_take]
    rw [ofNat_toNat8 hb.1 (by omega)]
    simp [List.getD, List.getElem?_eq_getElem hjz]

set_option maxRecDepth 100000 in
theorem open_bs {H : Type} {enc : TypeId × Value → H} {W : World} {base : Nat} {v : Value} {d : DataW H} {p : List MemPlace} (hv : Value.okWide Tryz.prog W .any base 42 v) (h : DataW.Trod enc Tryz.prog W 0 (fun _ => true) true 42 v d p) :
    ∃ A n c l, v = .slice A n c ∧ Bs W 0 W.heap.size A n c l := by
  obtain ⟨a0, len, cap, rfl⟩ := okWide_slice Tryz.underlying42 hv
  obtain ⟨fuel, hf⟩ := h
  exact bs_of_trod (by simpa [Value.cells] using hf)
end Go.Proofs.YtoineheocipmaaaGreatDoor
