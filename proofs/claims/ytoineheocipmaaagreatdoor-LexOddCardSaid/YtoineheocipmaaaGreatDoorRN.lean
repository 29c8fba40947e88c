/-
  Lists of numbers, in memory.
-/
import Derived.Test.YtoineheocipmaaaGreatDoorLexI
namespace Go.Proofs.YtoineheocipmaaaGreatDoor
open Go.RowKit
set_option linter.unusedVariables false
set_option linter.unusedSimpArgs false

/-- A list of numbers that can be read. -/
def RdN (w : World) (hi : Nat) (A : Option Addr) (n c : Nat) (l : List Int) : Prop := l.length = n ∧ n ≤ c ∧ c ≤ maxLen ∧ (0 < n → ∃ g o, A = some ⟨g, o, none⟩ ∧ g < hi ∧ ∀ j (h : j < l.length), w.cell? ⟨g, o + j, none⟩ = some (.int .i64 l[j]))
theorem RdN.below {w w' : World} {hi n c : Nat} {A : Option Addr} {l : List Int} (h : RdN w hi A n c l) {B : Nat} (hb : Below B w w') (hB : hi ≤ B) : RdN w' hi A n c l := by
  obtain ⟨h1, h2, h3, h4⟩ := h
  refine ⟨h1, h2, h3, fun h0 => ?_⟩
  obtain ⟨g, o, hA, hg, hc⟩ := h4 h0
  exact ⟨g, o, hA, hg, fun j hj => (World.cell?_of_block (a := ⟨g, o + j, none⟩) (hb.block g (by omega))).trans (hc j hj)⟩
end Go.Proofs.YtoineheocipmaaaGreatDoor
