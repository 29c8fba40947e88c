/-
  appendEscaped: what stands behind a backslash.
-/
import Derived.Test.YtoineheocipmaaaGreatDoorEscs
import Derived.Test.YtoineheocipmaaaGreatDoorDigits
namespace Go.Proofs.YtoineheocipmaaaGreatDoor
open Go.RowKit
set_option linter.unusedVariables false
set_option linter.unusedSimpArgs false

/-- A row of the table: a byte, or a base, how far its digits are, how many there are at least and at most, and whether they tell a rune. -/
structure Esc where
  v : Nat
  base : Nat
  skip : Nat
  least : Nat
  most : Nat
  r : Bool
def Esc.val (x : Esc) : Value := .agg #[.int .u8 x.v, .int .i64 x.base, .int .i64 x.skip, .int .i64 x.least, .int .i64 x.most, .bool x.r]
def escT : List (Int × Esc) := [(97, ⟨7, 0, 0, 0, 0, false⟩), (98, ⟨8, 0, 0, 0, 0, false⟩), (102, ⟨12, 0, 0, 0, 0, false⟩), (110, ⟨10, 0, 0, 0, 0, false⟩), (114, ⟨13, 0, 0, 0, 0, false⟩), (116, ⟨9, 0, 0, 0, 0, false⟩), (118, ⟨11, 0, 0, 0, 0, false⟩),
  (92, ⟨92, 0, 0, 0, 0, false⟩), (39, ⟨39, 0, 0, 0, 0, false⟩), (34, ⟨34, 0, 0, 0, 0, false⟩), (63, ⟨63, 0, 0, 0, 0, false⟩),
  (48, ⟨0, 8, 0, 1, 3, false⟩), (49, ⟨0, 8, 0, 1, 3, false⟩), (50, ⟨0, 8, 0, 1, 3, false⟩), (51, ⟨0, 8, 0, 1, 3, false⟩), (52, ⟨0, 8, 0, 1, 3, false⟩), (53, ⟨0, 8, 0, 1, 3, false⟩), (54, ⟨0, 8, 0, 1, 3, false⟩), (55, ⟨0, 8, 0, 1, 3, false⟩),
  (120, ⟨0, 16, 1, 1, 2, false⟩), (88, ⟨0, 16, 1, 1, 2, false⟩), (117, ⟨0, 16, 1, 4, 4, true⟩), (85, ⟨0, 16, 1, 8, 8, true⟩)]
theorem escs_eq : escs = escT.map fun x => (x.1, x.2.val) := rfl
def lookT : List (Int × Esc) → Int → Option Esc
  | [], _ => none
  | x :: xs, z => if z = x.1 then some x.2 else lookT xs z
theorem look_map : ∀ (l : List (Int × Esc)) (z : Int), lookL (l.map fun x => (x.1, x.2.val)) z = (lookT l z).map Esc.val
  | [], _ => rfl
  | x :: l, z => by
    simp only [List.map_cons, lookL, lookT]
    by_cases q : z = x.1
    · rw [if_pos q, if_pos q]; rfl
    · rw [if_neg q, if_neg q]; exact look_map l z
theorem lookT_mem : ∀ (l : List (Int × Esc)) (z : Int) (x : Esc), lookT l z = some x → ∃ k, (k, x) ∈ l
  | y :: l, z, x, h => by
    rw [lookT] at h
    by_cases q : z = y.1
    · rw [if_pos q] at h
      injection h with h
      exact ⟨y.1, by rw [← h]; simp⟩
    · rw [if_neg q] at h
      obtain ⟨k, hk⟩ := lookT_mem l z x h
      exact ⟨k, by simp [hk]⟩
theorem esc_fine (z : Int) (x : Esc) (h : lookT escT z = some x) : x.v < 256 ∧ (x.base = 0 ∨ x.base = 8 ∨ x.base = 16) ∧ x.skip ≤ 1 ∧ x.most ≤ 8 := by
  obtain ⟨k, hk⟩ := lookT_mem escT z x h
  simp only [escT, List.mem_cons, List.mem_nil_iff, or_false, Prod.mk.injEq] at hk
  rcases hk with ⟨_, rfl⟩ | ⟨_, rfl⟩ | ⟨_, rfl⟩ | ⟨_, rfl⟩ | ⟨_, rfl⟩ | ⟨_, rfl⟩ | ⟨_, rfl⟩ | ⟨_, rfl⟩ | ⟨_, rfl⟩ | ⟨_, rfl⟩ | ⟨_, rfl⟩ | ⟨_, rfl⟩ | ⟨_, rfl⟩ | ⟨_, rfl⟩ | ⟨_, rfl⟩ | ⟨_, rfl⟩ | ⟨_, rfl⟩ | ⟨_, rfl⟩ | ⟨_, rfl⟩ | ⟨_, rfl⟩ | ⟨_, rfl⟩ | ⟨_, rfl⟩ | ⟨_, rfl⟩ <;> simp

/-- What digits tell, by a row: the bytes, and how many bytes of the text; 0: it is none. -/
def escN (x : Esc) (q : Int × Nat) : List UInt8 × Nat :=
  if q.2 < x.least then ([], 0) else if x.r && rnB q.1 then (Lib.encodeRune q.1, x.skip + q.2) else if !x.r && decide (q.1 ≤ 255) then ([UInt8.ofNat q.1.toNat], x.skip + q.2) else ([], 0)
def escX (x : Esc) (l : List UInt8) : List UInt8 × Nat := if x.base = 0 then ([UInt8.ofNat x.v], 1) else escN x (nmF x.base x.most 0 (l.drop x.skip))
/-- What stands behind a backslash. -/
def escL (l : List UInt8) : List UInt8 × Nat := match l with
  | [] => ([], 0)
  | c :: _ => match lookT escT c.toNat with
    | none => ([], 0)
    | some x => escX x l
end Go.Proofs.YtoineheocipmaaaGreatDoor
