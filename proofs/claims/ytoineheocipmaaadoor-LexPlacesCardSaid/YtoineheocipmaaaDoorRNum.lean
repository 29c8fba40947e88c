/-
  The document's hex and number, walked.
-/
import Derived.Test.YtoineheocipmaaaDoorDigits
namespace Go.Proofs.YtoineheocipmaaaDoor
open Go.RowKit
set_option linter.unusedVariables false
set_option linter.unusedSimpArgs false

def hxV (c : Int) : Int := if dgV c = 16 then -1 else dgV c
theorem ext_at (s : ByteArray) (at_ k : Nat) (h : at_ + k < s.size) : (s.extract at_ s.size)[k]'(by simp [ByteArray.size_extract]; omega) = s[at_ + k] := by
  simp [ByteArray.getElem_extract]

end Go.Proofs.YtoineheocipmaaaDoor
