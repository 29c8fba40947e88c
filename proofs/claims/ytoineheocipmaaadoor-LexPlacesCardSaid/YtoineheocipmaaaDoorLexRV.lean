/-
  lex: the document's answer: the value of digits.
-/
import Derived.Test.YtoineheocipmaaaDoorLexRS
namespace Go.Proofs.YtoineheocipmaaaDoor
open Go.RowKit
set_option linter.unusedVariables false
set_option linter.unusedSimpArgs false

def lowL : ByteArray := ⟨#[48, 49, 50, 51, 52, 53, 54, 55, 56, 57, 97, 98, 99, 100, 101, 102]⟩
def uppL : ByteArray := ⟨#[48, 49, 50, 51, 52, 53, 54, 55, 56, 57, 65, 66, 67, 68, 69, 70]⟩
theorem dg_lit_fin : ∀ d : Fin 16, ∀ n : Fin 256, ((lowL[d.val]'(d.isLt) == UInt8.ofNat n.val) || (uppL[d.val]'(d.isLt) == UInt8.ofNat n.val)) = decide (dgV ((UInt8.ofNat n.val).toNat : Nat) = (d.val : Int)) := by decide +kernel
theorem dg_lit (d : Nat) (hd : d < 16) (c : UInt8) : ((lowL[d]'hd == c) || (uppL[d]'hd == c)) = decide (dgV (c.toNat : Nat) = (d : Int)) := by
  have := fin8 (p := fun c => ((lowL[d]'hd == c) || (uppL[d]'hd == c)) == decide (dgV (c.toNat : Nat) = (d : Int))) (fun n => by simpa using dg_lit_fin ⟨d, hd⟩ n) c
  simpa using this
/-- Digits of a base, as a number that is cut at 2^31+1; below 0: they are none. -/
def rvR (b : Int) (l : List UInt8) : Int := if l = [] ∨ l.all (fun x => decide (dgV x.toNat < b)) = false then -1 else min (pv b l) 2147483649

end Go.Proofs.YtoineheocipmaaaDoor
