/-
  Plain mathematics of UTF-8: what bytes are read as. No program.
-/
import Derived.Lib.TrimUEq
import Derived.Lib.RuneBytes
import Derived.Lib.Strings
namespace Go.Proofs.YtjophmgpknpboaaDoor
open Go.Lib
set_option linter.unusedVariables false

/-- Does a rune begin here? -/
def okL (l : List UInt8) : Bool := !((decodeL l).1 == 65533 && !(hasPrefix l [239, 191, 189]))
/-- Where bytes break off; -1: nowhere. -/
def bkF : Nat → Nat → List UInt8 → Int
  | 0, _, _ => -1
  | f + 1, pos, l => if l = [] then -1 else if okL l then bkF f (pos + (decodeL l).2) (l.drop (decodeL l).2) else pos
/-- The runes of bytes. -/
def rnF : Nat → List UInt8 → List Int
  | 0, _ => []
  | f + 1, l => if l = [] then [] else ((decodeL l).1 : Int) :: rnF f (l.drop (decodeL l).2)

theorem dec_pos (l : List UInt8) : 1 ≤ (decodeL l).2 := by rw [decodeL_N]; exact decodeN_ge1 _ _ _ _ _
theorem bkF_fuel : ∀ (f g pos : Nat) (l : List UInt8), l.length ≤ f → l.length ≤ g → bkF f pos l = bkF g pos l
  | 0, g, pos, l, h, _ => by
    have : l = [] := List.eq_nil_of_length_eq_zero (by omega)
    subst this; cases g <;> simp [bkF]
  | f + 1, 0, pos, l, _, h => by
    have : l = [] := List.eq_nil_of_length_eq_zero (by omega)
    subst this; simp [bkF]
  | f + 1, g + 1, pos, l, h, h' => by
    rw [bkF, bkF]
    by_cases hl : l = []
    · rw [if_pos hl, if_pos hl]
    · rw [if_neg hl, if_neg hl]
      have hp := dec_pos l
      have := List.length_pos_iff.2 hl
      rw [bkF_fuel f g _ (l.drop (decodeL l).2) (by simp; omega) (by simp; omega)]
theorem rnF_fuel : ∀ (f g : Nat) (l : List UInt8), l.length ≤ f → l.length ≤ g → rnF f l = rnF g l
  | 0, g, l, h, _ => by
    have : l = [] := List.eq_nil_of_length_eq_zero (by omega)
    subst this; cases g <;> simp [rnF]
  | f + 1, 0, l, _, h => by
    have : l = [] := List.eq_nil_of_length_eq_zero (by omega)
    subst this; simp [rnF]
  | f + 1, g + 1, l, h, h' => by
    rw [rnF, rnF]
    by_cases hl : l = []
    · rw [if_pos hl, if_pos hl]
    · rw [if_neg hl, if_neg hl]
      have hp := dec_pos l
      have := List.length_pos_iff.2 hl
      rw [rnF_fuel f g (l.drop (decodeL l).2) (by simp; omega) (by simp; omega)]
def bkL (pos : Nat) (l : List UInt8) : Int := bkF l.length pos l
def rnL (l : List UInt8) : List Int := rnF l.length l
theorem bkL_nil (pos : Nat) : bkL pos [] = -1 := rfl
theorem rnL_nil : rnL [] = [] := rfl
theorem bkL_step (pos : Nat) (l : List UInt8) (h : l ≠ []) : bkL pos l = if okL l then bkL (pos + (decodeL l).2) (l.drop (decodeL l).2) else pos := by
  have hl := List.length_pos_iff.2 h
  have hp := dec_pos l
  unfold bkL
  rw [show l.length = (l.length - 1) + 1 by omega, bkF, if_neg h, bkF_fuel (l.length - 1) (l.drop (decodeL l).2).length _ _ (by simp; omega) (Nat.le_refl _)]
theorem rnL_step (l : List UInt8) (h : l ≠ []) : rnL l = ((decodeL l).1 : Int) :: rnL (l.drop (decodeL l).2) := by
  have hl := List.length_pos_iff.2 h
  have hp := dec_pos l
  unfold rnL
  rw [show l.length = (l.length - 1) + 1 by omega, rnF, if_neg h, rnF_fuel (l.length - 1) (l.drop (decodeL l).2).length _ (by simp; omega) (Nat.le_refl _)]
theorem rnL_len : ∀ (f : Nat) (l : List UInt8), (rnF f l).length ≤ f
  | 0, l => by simp [rnF]
  | f + 1, l => by
    rw [rnF]
    split
    · simp
    · have := rnL_len f (l.drop (decodeL l).2)
      simp; omega
/-- Where bytes break off is one of them. -/
theorem bkF_range : ∀ (f pos : Nat) (l : List UInt8), l.length ≤ f → bkF f pos l = -1 ∨ ((pos : Int) ≤ bkF f pos l ∧ bkF f pos l < (pos : Int) + l.length)
  | 0, pos, l, _ => .inl rfl
  | f + 1, pos, l, h => by
    rw [bkF]
    by_cases hl : l = []
    · rw [if_pos hl]; exact .inl rfl
    · rw [if_neg hl]
      have hp := dec_pos l
      have hll := List.length_pos_iff.2 hl
      split
      · rcases bkF_range f (pos + (decodeL l).2) (l.drop (decodeL l).2) (by simp; omega) with e | ⟨h1, h2⟩
        · exact .inl e
        · refine .inr ⟨by omega, ?_⟩
          rw [List.length_drop] at h2
          by_cases q : (decodeL l).2 ≤ l.length
          · omega
          · have : l.length - (decodeL l).2 = 0 := by omega
            omega
      · exact .inr ⟨by omega, by omega⟩
end Go.Proofs.YtjophmgpknpboaaDoor
