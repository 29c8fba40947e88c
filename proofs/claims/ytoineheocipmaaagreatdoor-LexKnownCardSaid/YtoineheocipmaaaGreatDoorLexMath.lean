/-
  Plain mathematics of lex: what stands between tokens; literals' ends. No program.
-/
import Derived.Test.YtoineheocipmaaaGreatDoorKeyMath
import Derived.Lib.Strings
import Derived.Lib.Index
import Derived.Lib.IndexMore
import Derived.Lib.Bytealg
namespace Go.Proofs.YtoineheocipmaaaGreatDoor
set_option linter.unusedVariables false
set_option linter.unusedSimpArgs false

def blB (c : UInt8) : Bool := c == 32 || c == 9 || c == 13 || c == 10
theorem bl_index (c : UInt8) : decide (0 ≤ Lib.indexByte [32, 9, 13, 10] c) = blB c := by
  have : (decide (0 ≤ Lib.indexByte [32, 9, 13, 10] c) == blB c) = true := fin8 (p := fun c => decide (0 ≤ Lib.indexByte [32, 9, 13, 10] c) == blB c) (by decide +kernel) c
  simpa using this
/-- How many bytes there are ahead of the first line feed. -/
def lnL : List UInt8 → Nat
  | [] => 0
  | c :: r => if c = 10 then 0 else lnL r + 1
theorem lnL_le : ∀ l : List UInt8, lnL l ≤ l.length
  | [] => Nat.le_refl _
  | c :: r => by have := lnL_le r; rw [lnL]; split <;> simp <;> omega
theorem lnL_index : ∀ l : List UInt8, (if Lib.indexByte l 10 < 0 then (l.length : Int) else Lib.indexByte l 10) = (lnL l : Int)
  | [] => rfl
  | c :: r => by
    have ih := lnL_index r
    have hge := Lib.indexByte_ge r 10
    have hv : Lib.indexByte (c :: r) 10 = if c = 10 then 0 else if Lib.indexByte r 10 = -1 then -1 else Lib.indexByte r 10 + 1 := by
      rw [Lib.indexByte]
      simp only [beq_iff_eq]
    rw [hv, lnL]
    generalize Lib.indexByte r 10 = x at *
    simp only [List.length_cons]
    by_cases h : c = 10
    · simp only [if_pos h]
      rw [if_neg (by omega)]
      rfl
    · simp only [if_neg h]
      by_cases h1 : x = -1
      · rw [if_pos (show x < 0 by omega)] at ih
        rw [if_pos h1, if_pos (by omega)]
        omega
      · rw [if_neg (show ¬ x < 0 by omega)] at ih
        rw [if_neg h1, if_neg (by omega)]
        omega
/-- What stands between tokens, and is it closed. -/
def skF : Nat → List UInt8 → Nat × Bool
  | 0, _ => (0, true)
  | k + 1, [] => (0, true)
  | k + 1, c :: r =>
    if blB c then ((skF k r).1 + 1, (skF k r).2)
    else if Lib.hasPrefix (c :: r) [47, 47] then ((skF k ((c :: r).drop (lnL (c :: r)))).1 + lnL (c :: r), (skF k ((c :: r).drop (lnL (c :: r)))).2)
    else if Lib.hasPrefix (c :: r) [47, 42] then
      (if Lib.index ((c :: r).drop 2) [42, 47] < 0 then (0, false)
       else ((skF k ((c :: r).drop (4 + (Lib.index ((c :: r).drop 2) [42, 47]).toNat))).1 + (4 + (Lib.index ((c :: r).drop 2) [42, 47]).toNat), (skF k ((c :: r).drop (4 + (Lib.index ((c :: r).drop 2) [42, 47]).toNat))).2))
    else (0, true)
theorem pre_head {c : UInt8} {r : List UInt8} {a b : UInt8} (h : Lib.hasPrefix (c :: r) [a, b] = true) : ∃ r', c = a ∧ r = b :: r' := by
  unfold Lib.hasPrefix at h
  rcases r with _ | ⟨d, r'⟩
  · simp [List.isPrefixOf] at h
  · simp [List.isPrefixOf] at h
    exact ⟨r', h.1.symm, by rw [h.2]⟩
theorem lnL_two {c : UInt8} {r : List UInt8} (h : Lib.hasPrefix (c :: r) [47, 47] = true) : 2 ≤ lnL (c :: r) := by
  obtain ⟨r', rfl, rfl⟩ := pre_head h
  rw [lnL, if_neg (by decide), lnL, if_neg (by decide)]
  omega
theorem skF_fuel : ∀ (k k' : Nat) (l : List UInt8), l.length ≤ k → l.length ≤ k' → skF k l = skF k' l
  | 0, k', l, h, _ => by
    obtain rfl : l = [] := List.eq_nil_of_length_eq_zero (by omega)
    cases k' <;> rfl
  | k + 1, 0, l, _, h => by
    obtain rfl : l = [] := List.eq_nil_of_length_eq_zero (by omega)
    rfl
  | k + 1, k' + 1, [], _, _ => rfl
  | k + 1, k' + 1, c :: r, h, h' => by
    have e1 := skF_fuel k k' r (by simp at h; omega) (by simp at h'; omega)
    rw [skF, skF, e1]
    by_cases h1 : blB c = true
    · rw [if_pos h1, if_pos h1]
    · rw [if_neg h1, if_neg h1]
      by_cases h2 : Lib.hasPrefix (c :: r) [47, 47] = true
      · have := lnL_two h2
        rw [if_pos h2, if_pos h2, skF_fuel k k' ((c :: r).drop (lnL (c :: r))) (by simp at h ⊢; omega) (by simp at h' ⊢; omega)]
      · rw [if_neg h2, if_neg h2, skF_fuel k k' ((c :: r).drop (4 + (Lib.index ((c :: r).drop 2) [42, 47]).toNat)) (by simp at h ⊢; omega) (by simp at h' ⊢; omega)]
def skL (l : List UInt8) : Nat × Bool := skF l.length l
theorem skL_nil : skL [] = (0, true) := rfl
theorem skL_blank {c : UInt8} {r : List UInt8} (h : blB c = true) : skL (c :: r) = ((skL r).1 + 1, (skL r).2) := by
  unfold skL
  rw [List.length_cons, skF, if_pos h]
theorem skL_line {c : UInt8} {r : List UInt8} (h0 : blB c = false) (h : Lib.hasPrefix (c :: r) [47, 47] = true) : skL (c :: r) = ((skL ((c :: r).drop (lnL (c :: r)))).1 + lnL (c :: r), (skL ((c :: r).drop (lnL (c :: r)))).2) := by
  have h2 := lnL_two h
  unfold skL
  rw [List.length_cons, skF, if_neg (by simp [h0]), if_pos h, skF_fuel r.length ((c :: r).drop (lnL (c :: r))).length _ (by simp; omega) (Nat.le_refl _)]
theorem skL_open {c : UInt8} {r : List UInt8} (h0 : blB c = false) (h1 : Lib.hasPrefix (c :: r) [47, 47] = false) (h : Lib.hasPrefix (c :: r) [47, 42] = true) (hi : Lib.index ((c :: r).drop 2) [42, 47] < 0) : skL (c :: r) = (0, false) := by
  unfold skL
  rw [List.length_cons, skF, if_neg (by simp [h0]), if_neg (by simp [h1]), if_pos h, if_pos hi]
theorem skL_remark {c : UInt8} {r : List UInt8} {i : Nat} (h0 : blB c = false) (h1 : Lib.hasPrefix (c :: r) [47, 47] = false) (h : Lib.hasPrefix (c :: r) [47, 42] = true) (hi : Lib.index ((c :: r).drop 2) [42, 47] = i) :
    skL (c :: r) = ((skL ((c :: r).drop (4 + i))).1 + (4 + i), (skL ((c :: r).drop (4 + i))).2) := by
  unfold skL
  rw [List.length_cons, skF, if_neg (by simp [h0]), if_neg (by simp [h1]), if_pos h, if_neg (by omega), hi, Int.toNat_natCast, skF_fuel r.length ((c :: r).drop (4 + i)).length _ (by simp; omega) (Nat.le_refl _)]
theorem skL_stop {c : UInt8} {r : List UInt8} (h0 : blB c = false) (h1 : Lib.hasPrefix (c :: r) [47, 47] = false) (h : Lib.hasPrefix (c :: r) [47, 42] = false) : skL (c :: r) = (0, true) := by
  unfold skL
  rw [List.length_cons, skF, if_neg (by simp [h0]), if_neg (by simp [h1]), if_neg (by simp [h])]
theorem remark_room {c : UInt8} {r : List UInt8} {i : Nat} (hi : Lib.index ((c :: r).drop 2) [42, 47] = i) : 4 + i ≤ (c :: r).length := by
  have := Lib.index_room ((c :: r).drop 2) [42, 47] (by omega)
  simp only [List.length_cons, List.length_nil] at this ⊢
  rw [hi] at this
  have h2 : ((c :: r).drop 2).length = r.length + 1 - 2 := by simp
  omega
theorem skL_le : ∀ (k : Nat) (l : List UInt8), (skF k l).1 ≤ l.length
  | 0, _ => by simp [skF]
  | k + 1, [] => by simp [skF]
  | k + 1, c :: r => by
    rw [skF]
    split
    · have := skL_le k r; simp; omega
    · split
      · have := skL_le k ((c :: r).drop (lnL (c :: r)))
        have h2 := lnL_le (c :: r)
        rw [List.length_drop] at this
        simp only; omega
      · split
        · split
          · simp
          · rename_i h3
            obtain ⟨i, hi⟩ := Int.eq_ofNat_of_zero_le (show 0 ≤ Lib.index ((c :: r).drop 2) [42, 47] by omega)
            have h4 := remark_room hi
            have := skL_le k ((c :: r).drop (4 + (Lib.index ((c :: r).drop 2) [42, 47]).toNat))
            rw [hi, Int.toNat_natCast, List.length_drop] at this
            simp only [hi, Int.toNat_natCast]
            omega
        · simp
/-- The end of a literal that begins with q, its places counted from the first quote; 0: it has none. -/
def liF (q : UInt8) : Nat → Nat → List UInt8 → Nat
  | 0, _, _ => 0
  | _ + 1, _, [] => 0
  | k + 1, p, c :: r => if c = 10 then 0 else if c = q then p + 1 else if c = 92 then liF q k (p + 2) (r.drop 1) else liF q k (p + 1) r
theorem liF_fuel (q : UInt8) : ∀ (k k' p : Nat) (l : List UInt8), l.length ≤ k → l.length ≤ k' → liF q k p l = liF q k' p l
  | 0, k', p, l, h, _ => by
    obtain rfl : l = [] := List.eq_nil_of_length_eq_zero (by omega)
    cases k' <;> rfl
  | k + 1, 0, p, l, _, h => by
    obtain rfl : l = [] := List.eq_nil_of_length_eq_zero (by omega)
    rfl
  | k + 1, k' + 1, p, [], _, _ => rfl
  | k + 1, k' + 1, p, c :: r, h, h' => by
    simp only [List.length_cons] at h h'
    rw [liF, liF, liF_fuel q k k' (p + 2) (r.drop 1) (by simp; omega) (by simp; omega), liF_fuel q k k' (p + 1) r (by omega) (by omega)]
def liP (q : UInt8) (p : Nat) (l : List UInt8) : Nat := liF q l.length p l
theorem liP_nil (q : UInt8) (p : Nat) : liP q p [] = 0 := rfl
theorem liP_cons (q : UInt8) (p : Nat) (c : UInt8) (r : List UInt8) : liP q p (c :: r) = if c = 10 then 0 else if c = q then p + 1 else if c = 92 then liP q (p + 2) (r.drop 1) else liP q (p + 1) r := by
  unfold liP
  rw [List.length_cons, liF, liF_fuel q r.length (r.drop 1).length _ _ (by simp) (Nat.le_refl _)]
/-- The length of a literal with which a text begins; 0: it does not end in its line. -/
def liL (l : List UInt8) : Nat := match l with | [] => 0 | q :: r => liP q 1 r
theorem liF_le (q : UInt8) : ∀ (k p : Nat) (l : List UInt8), liF q k p l = 0 ∨ (p + 1 ≤ liF q k p l ∧ liF q k p l ≤ p + l.length)
  | 0, p, l => .inl rfl
  | k + 1, p, [] => .inl rfl
  | k + 1, p, c :: r => by
    rw [liF]
    split
    · exact .inl rfl
    · split
      · right; simp
      · split
        · rcases liF_le q k (p + 2) (r.drop 1) with h | ⟨h1, h2⟩
          · exact .inl h
          · right
            simp only [List.length_drop, List.length_cons] at h2 ⊢
            rcases r with _ | ⟨d, r'⟩
            · simp at h1 h2; omega
            · simp at h1 h2 ⊢; omega
        · rcases liF_le q k (p + 1) r with h | ⟨h1, h2⟩
          · exact .inl h
          · right; simp only [List.length_cons]; omega
end Go.Proofs.YtoineheocipmaaaGreatDoor
