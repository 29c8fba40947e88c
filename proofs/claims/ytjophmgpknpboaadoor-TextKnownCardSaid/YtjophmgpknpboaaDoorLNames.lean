/-
  TextNames, walked.
-/
import Derived.Test.YtjophmgpknpboaaDoorWorks
import Derived.Test.YtjophmgpknpboaaDoorRFull
import Derived.Test.YtjophmgpknpboaaDoorRKeys
namespace Go.Proofs.YtjophmgpknpboaaDoor
open Go.RowKit
set_option linter.unusedVariables false
set_option linter.unusedSimpArgs false

set_option maxRecDepth 100000 in
set_option maxHeartbeats 1000000 in
theorem names_any (s : ByteArray) (w : World) (m : Int) (hs : s.size ≤ maxLen) (hm : w.cell? ⟨0, 0, none⟩ = some (.int .i64 m)) : Calls Tryd.prog 4 #[.string s] w fun e w' => e = .returned (.bool true) ∧ Below w.heap.size w w' := by
  unfold maxLen at hs
  have h0 : 0 < w.heap.size := World.block_lt_of_cell? w _ hm
  have hM : ∀ W, Below w.heap.size w W → W.cell? ⟨0, 0, none⟩ = some (.int .i64 m) := fun W h => (h.cell (p := ⟨0, 0, none⟩) h0).trans hm
  have HM := Lib.hid hM
  clear hM hm
  have hx : (s.extract 0 (min (↑s.size) 300 : Int).toNat).size ≤ 300 := by simp [ByteArray.size_extract]; omega
  have HX := Lib.hid hx
  clear hx
  go_enter Tryd.func4, Tryd.ntmps4
  go_wp2_with fail
  generalize s.extract 0 (min (↑s.size) 300 : Int).toNat = t at *
  have ht := HX.out
  have c1 := fun W => isIdent_any t W (by unfold maxLen; omega)
  have c2 := fun W => risIdent_any t W (by unfold maxLen; omega)
  have c3 := fun W hW => isFull_any t W m (by omega) hW
  have c4 := fun W => risFull_any t W (by omega)
  have c5 := fun W => key_any t W (by omega)
  have c6 := fun W => rkey_any t W (by omega)
  generalize identL t.data.toList = I at c1 c2
  generalize fullS t = F at c3 c4
  generalize keyF false t.data.toList = K at c5 c6
  have C1 := Lib.hid c1
  have C2 := Lib.hid c2
  have C3 := Lib.hid c3
  have C4 := Lib.hid c4
  have C5 := Lib.hid c5
  have C6 := Lib.hid c6
  clear c1 c2 c3 c4 c5 c6 ht
  refine (C1.out _).mono ?_
  rintro e _ ⟨rfl, rfl⟩
  go_wp2_with fail
  refine (C2.out _).mono ?_
  rintro e _ ⟨rfl, rfl⟩
  go_wp2_with fail
  refine (C3.out _ (HM.out _ (Below.refl _ _))).mono ?_
  rintro e w1 ⟨rfl, hb1⟩
  have HB := Lib.hid hb1
  clear hb1
  go_wp2_with fail
  refine (C4.out _).mono ?_
  rintro e _ ⟨rfl, rfl⟩
  go_wp2_with fail
  refine (C5.out _).mono ?_
  rintro e w2 ⟨rfl, hb2⟩
  replace HB := Lib.hid (HB.out.trans (hb2.mono HB.out.size))
  clear hb2
  go_wp2_with fail
  refine (C6.out _).mono ?_
  rintro e w3 ⟨rfl, hb3⟩
  replace HB := Lib.hid (HB.out.trans (hb3.mono HB.out.size))
  clear hb3
  go_wp2_with fail
  refine (works_any _ m (HM.out _ HB.out)).mono ?_
  rintro e w4 ⟨rfl, hb4⟩
  replace HB := Lib.hid (HB.out.trans (hb4.mono HB.out.size))
  clear hb4
  go_wp2_with fail
  go_ret
  exact ⟨rfl, HB.out⟩
end Go.Proofs.YtjophmgpknpboaaDoor
