/-
  lex: the document's answer: letters, digits, signs, the rest of a word.
-/
import Derived.Test.YtoineheocipmaaaDoorLexW
namespace Go.Proofs.YtoineheocipmaaaDoor
open Go.RowKit
set_option linter.unusedVariables false
set_option linter.unusedSimpArgs false

end Go.Proofs.YtoineheocipmaaaDoor
