/-
  The document's Unquote, walked.
-/
import Derived.Test.YtoineheocipmaaaDoorRUnqMath
import Derived.Test.YtoineheocipmaaaDoorUnq3
namespace Go.Proofs.YtoineheocipmaaaDoor
open Go.RowKit
set_option linter.unusedVariables false
set_option linter.unusedSimpArgs false

structure RqR (w : World) (q : UInt8) (K : Option (List UInt8)) (s : ByteArray) (v : Value) (pos : Nat) (acc : List UInt8) (wr : World) : Prop where
  own : Own wr w.heap.size v acc
  fin : (rqG q (s.data.toList.drop pos)).map (acc ++ ·) = K
  bel : Below w.heap.size w wr
  few : acc.length ≤ 4 * pos
  lo : 1 ≤ pos
  hi : pos ≤ s.size
theorem RqR.next {w wr w1 : World} {q : UInt8} {K : Option (List UInt8)} {s : ByteArray} {v v1 : Value} {pos pos' : Nat} {acc t : List UInt8} (h : RqR w q K s v pos acc wr)
    (hf : rqG q (s.data.toList.drop pos) = (rqG q (s.data.toList.drop pos')).map (t ++ ·)) (ht : t.length ≤ 4) (hp : pos < pos') (hi : pos' ≤ s.size) (hown : Own w1 w.heap.size v1 (acc ++ t)) (hb : Below w.heap.size w w1) : RqR w q K s v1 pos' (acc ++ t) w1 := by
  refine ⟨hown, ?_, hb, by have := h.few; simp; omega, by omega, hi⟩
  rw [← h.fin, hf, Option.map_map]
  congr 1
  funext x
  simp

end Go.Proofs.YtoineheocipmaaaDoor
