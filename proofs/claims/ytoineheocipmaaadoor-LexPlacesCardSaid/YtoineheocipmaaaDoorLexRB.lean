/-
  lex: the document's answer: a literal's end.
-/
import Derived.Test.YtoineheocipmaaaDoorLexRA
namespace Go.Proofs.YtoineheocipmaaaDoor
open Go.RowKit
set_option linter.unusedVariables false
set_option linter.unusedSimpArgs false

/-- The end of a literal as the document's answer looks for it: a line feed ends the search, also behind a backslash. -/
def lrF (q : UInt8) : Nat → Nat → List UInt8 → Nat
  | 0, _, _ => 0
  | _ + 1, _, [] => 0
  | k + 1, p, c :: r => if c = 10 then 0 else if c = q then p + 1 else if c = 92 then (if r.head? = some 10 then 0 else lrF q k (p + 2) (r.drop 1)) else lrF q k (p + 1) r
theorem lrF_fuel (q : UInt8) : ∀ (k k' p : Nat) (l : List UInt8), l.length ≤ k → l.length ≤ k' → lrF q k p l = lrF q k' p l
  | 0, k', p, l, h, _ => by
    obtain rfl : l = [] := List.eq_nil_of_length_eq_zero (by omega)
    cases k' <;> rfl
  | k + 1, 0, p, l, _, h => by
    obtain rfl : l = [] := List.eq_nil_of_length_eq_zero (by omega)
    rfl
  | k + 1, k' + 1, p, [], _, _ => rfl
  | k + 1, k' + 1, p, c :: r, h, h' => by
    simp only [List.length_cons] at h h'
    rw [lrF, lrF, lrF_fuel q k k' (p + 2) (r.drop 1) (by simp; omega) (by simp; omega), lrF_fuel q k k' (p + 1) r (by omega) (by omega)]
def lrP (q : UInt8) (p : Nat) (l : List UInt8) : Nat := lrF q l.length p l
theorem lrP_nil (q : UInt8) (p : Nat) : lrP q p [] = 0 := rfl
theorem lrP_cons (q : UInt8) (p : Nat) (c : UInt8) (r : List UInt8) : lrP q p (c :: r) = if c = 10 then 0 else if c = q then p + 1 else if c = 92 then (if r.head? = some 10 then 0 else lrP q (p + 2) (r.drop 1)) else lrP q (p + 1) r := by
  unfold lrP
  rw [List.length_cons, lrF, lrF_fuel q r.length (r.drop 1).length _ _ (by simp) (Nat.le_refl _)]
/-- What the document's answer says of a literal's end. -/
def lrA (n : Nat) : Value := .tuple #[.int .i64 n, .bool (decide (n ≠ 0))]

end Go.Proofs.YtoineheocipmaaaDoor
