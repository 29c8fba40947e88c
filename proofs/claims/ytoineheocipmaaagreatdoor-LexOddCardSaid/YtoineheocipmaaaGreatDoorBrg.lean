/-
  A number, brought to be below another one.
-/
import Derived.Test.YtoineheocipmaaaGreatDoorKeys
import Derived.Outline
namespace Go.Proofs.YtoineheocipmaaaGreatDoor
open Go.RowKit
set_option linter.unusedVariables false
set_option linter.unusedSimpArgs false

/-- Bring. -/
def brg (i : Int) (n : Nat) : Nat := (if i.tmod n < 0 then i.tmod n + n else i.tmod n).toNat
theorem brg_lt (i : Int) (n : Nat) (h : 0 < n) : brg i n < n := by
  unfold brg
  have h1 := Int.tmod_lt_of_pos i (show (0 : Int) < n by omega)
  split <;> omega
theorem brg_eq (i : Int) (n : Nat) (h : 0 < n) : (if i.tmod n < 0 then i.tmod n + n else i.tmod n) = (brg i n : Int) := by
  unfold brg
  have h1 := Int.lt_tmod_of_pos i (show (0 : Int) < n by omega)
  split <;> omega
set_option maxRecDepth 100000 in
theorem bring_any (i : Int) (n : Nat) (w : World) (h : 0 < n) (h2 : n ≤ 4611686018427387904) :
    Calls Tryz.prog 19 #[.int .i64 i, .int .i64 n] w fun e w' => e = .returned (.int .i64 (brg i n : Nat)) ∧ w = w' := by
  have h1 := Int.tmod_lt_of_pos i (show (0 : Int) < n by omega)
  have h3 := Int.lt_tmod_of_pos i (show (0 : Int) < n by omega)
  have e := brg_eq i n h
  have hn0 : ((n : Int) == 0) = false := by simp; omega
  have hw : IntKind.i64.wrap (i.tmod n) = i.tmod n := by rw [IntKind.wrap_i64]; omega
  have hw2 : wrap64 (i.tmod n) = i.tmod n := IntWalk.wrap64_in _ ⟨by omega, by omega⟩
  generalize brg i n = B at *
  have HE := Lib.hid e
  clear e
  by_cases hneg : i.tmod n < 0
  · go_enter Tryz.func19, Tryz.ntmps19
    go_wp2
    go_ret
    have := HE.out
    rw [if_pos hneg] at this
    exact ⟨ret_int (by simpa using this), rfl⟩
  · go_enter Tryz.func19, Tryz.ntmps19
    go_wp2
    go_ret
    have := HE.out
    rw [if_neg (by omega)] at this
    exact ⟨ret_int (by simpa using this), rfl⟩
end Go.Proofs.YtoineheocipmaaaGreatDoor
