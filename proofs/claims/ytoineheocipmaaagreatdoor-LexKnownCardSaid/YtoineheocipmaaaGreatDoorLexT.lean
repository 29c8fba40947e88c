/-
  lex: what the readers answer, together.
-/
import Derived.Test.YtoineheocipmaaaGreatDoorLexV
import Derived.Test.YtoineheocipmaaaGreatDoorLexD
namespace Go.Proofs.YtoineheocipmaaaGreatDoor
open Go.RowKit
set_option linter.unusedVariables false
set_option linter.unusedSimpArgs false

structure Tk where
  e : Nat
  k : Nat
  t : ByteArray
  n : Int
  z : Nat
def quB (c : UInt8) : Bool := c == 34 || c == 39
/-- The kind of the token that a byte begins: 4: of none. -/
def clN (c : UInt8) : Nat := if ltZ c.toNat then 0 else if dgZ c.toNat then 1 else if quB c then 2 else if sgB c then 3 else 4
theorem cl_apart (c : UInt8) : (decide (clN c = 0) == ltZ c.toNat) = true ∧ (decide (clN c = 1) == dgZ c.toNat) = true ∧ (decide (clN c = 2) == quB c) = true ∧ (decide (clN c = 3) == sgB c) = true :=
  ⟨fin8 (p := fun c => decide (clN c = 0) == ltZ c.toNat) (by decide +kernel) c, fin8 (p := fun c => decide (clN c = 1) == dgZ c.toNat) (by decide +kernel) c,
   fin8 (p := fun c => decide (clN c = 2) == quB c) (by decide +kernel) c, fin8 (p := fun c => decide (clN c = 3) == sgB c) (by decide +kernel) c⟩
/-- The token at a place; its error. -/
def tkR (s : ByteArray) (p : Nat) (c : UInt8) : Tk :=
  let l := s.data.toList.drop p
  let t := s.extract p (p + (runL l).length)
  if clN c = 0 then (if identL (runL l) then ⟨0, 1, t, 0, (runL l).length⟩ else ⟨30, 0, ⟨#[]⟩, 0, 0⟩)
  else if clN c = 1 then (if (vlR t).2 = 0 then ⟨0, 2, t, (vlR t).1, (runL l).length⟩ else ⟨(vlR t).2, 0, ⟨#[]⟩, 0, 0⟩)
  else if clN c = 2 then (if liL l = 0 then ⟨21, 0, ⟨#[]⟩, 0, 0⟩ else match unqL (l.take (liL l)) with | none => ⟨21, 0, ⟨#[]⟩, 0, 0⟩ | some v => ⟨0, 3, ⟨v.toArray⟩, 0, liL l⟩)
  else if clN c = 3 then ⟨0, 4, s.extract p (p + 1), 0, 1⟩
  else ⟨30, 0, ⟨#[]⟩, 0, 0⟩
/-- What reader j answers. -/
def rdA (s : ByteArray) (p : Nat) (c : UInt8) (j : Nat) : Value × Nat × Nat :=
  if clN c = j then (if (tkR s p c).e = 0 then (wv (tkR s p c).k p (tkR s p c).t (tkR s p c).n, (tkR s p c).z, 0) else (wv 0 0 ⟨#[]⟩ 0, 0, (tkR s p c).e)) else (wv 0 0 ⟨#[]⟩ 0, 0, 0)

theorem read0 {w : World} {b p : Nat} {s : ByteArray} (h : Scn w b s p) (hp : p < s.size) (hs : s.size ≤ 1000000) (hE : Env w) :
    Calls Tryz.prog 85 #[.pointer (some ⟨b, 0, none⟩)] w (RdP w (rdA s p s[p] 0).1 (rdA s p s[p] 0).2.1 (rdA s p s[p] 0).2.2) := by
  have ha := (cl_apart s[p]).1
  unfold rdA
  by_cases hc : clN s[p] = 0
  · rw [if_pos hc]
    have hy : ltZ (s[p].toNat : Nat) = true := by rw [hc] at ha; simpa using ha
    have ht : tkR s p s[p] = if identL (runL (s.data.toList.drop p)) then ⟨0, 1, s.extract p (p + (runL (s.data.toList.drop p)).length), 0, (runL (s.data.toList.drop p)).length⟩ else ⟨30, 0, ⟨#[]⟩, 0, 0⟩ := by unfold tkR; rw [if_pos hc]
    cases hi : identL (runL (s.data.toList.drop p))
    · rw [hi] at ht
      rw [ht]
      exact ident_bad h hp hs hy hi
    · rw [hi] at ht
      rw [ht]
      exact ident_ok h hp hs hy hi
  · rw [if_neg hc]
    have hn : ltZ (s[p].toNat : Nat) = false := by rw [decide_eq_false hc] at ha; simpa using ha
    exact ident_no h hp hn
theorem ext_pos {s : ByteArray} {p : Nat} (hp : p < s.size) (h : wdZ (s[p].toNat : Nat) = true) : 0 < (runL (s.data.toList.drop p)).length := by
  rw [drop_at s p hp, runL_cons, if_pos h]
  simp
theorem read1 {w : World} {b p : Nat} {s : ByteArray} (h : Scn w b s p) (hp : p < s.size) (hs : s.size ≤ 1000000) (hE : Env w) :
    Calls Tryz.prog 86 #[.pointer (some ⟨b, 0, none⟩)] w (RdP w (rdA s p s[p] 1).1 (rdA s p s[p] 1).2.1 (rdA s p s[p] 1).2.2) := by
  have ha := (cl_apart s[p]).2.1
  unfold rdA
  by_cases hc : clN s[p] = 1
  · rw [if_pos hc]
    have hy : dgZ (s[p].toNat : Nat) = true := by rw [hc] at ha; simpa using ha
    obtain ⟨t, htt⟩ : ∃ t, s.extract p (p + (runL (s.data.toList.drop p)).length) = t := ⟨_, rfl⟩
    have ht : tkR s p s[p] = if (vlR t).2 = 0 then ⟨0, 2, t, (vlR t).1, (runL (s.data.toList.drop p)).length⟩ else ⟨(vlR t).2, 0, ⟨#[]⟩, 0, 0⟩ := by
      unfold tkR
      rw [if_neg (by omega), if_pos hc, htt]
    have hrl := runL_len (s.data.toList.drop p)
    have hpos := ext_pos hp (show wdZ (s[p].toNat : Nat) = true by unfold wdZ; rw [hy]; simp)
    have hts : t.size = (runL (s.data.toList.drop p)).length := by
      have := ext_run s p
      rw [htt] at this
      rw [← this]; simp
    have hv := fun W (hb : Below w.heap.size w W) => valueOf_any t W (hE.below hb) (by omega) (by simp at hrl; omega)
    cases hz : (vlR t).2 with
    | zero =>
      rw [hz, if_pos rfl] at ht
      rw [ht]
      rw [hz] at hv
      exact number_ok h hp hs hy t htt (vlR t).1 hv
    | succ q =>
      rw [hz, if_neg (by omega)] at ht
      rw [ht]
      rw [hz] at hv
      exact number_bad h hp hs hy t htt (vlR t).1 (q + 1) (by omega) hv
  · rw [if_neg hc]
    have hn : dgZ (s[p].toNat : Nat) = false := by rw [decide_eq_false hc] at ha; simpa using ha
    exact number_no h hp hn
theorem read2 {w : World} {b p : Nat} {s : ByteArray} (h : Scn w b s p) (hp : p < s.size) (hs : s.size ≤ 1000000) (hE : Env w) :
    Calls Tryz.prog 87 #[.pointer (some ⟨b, 0, none⟩)] w (RdP w (rdA s p s[p] 2).1 (rdA s p s[p] 2).2.1 (rdA s p s[p] 2).2.2) := by
  have ha := (cl_apart s[p]).2.2.1
  unfold rdA
  by_cases hc : clN s[p] = 2
  · rw [if_pos hc]
    have hy : quB s[p] = true := by rw [hc] at ha; simpa using ha
    have hq : s[p].toNat = 34 ∨ s[p].toNat = 39 := by
      unfold quB at hy
      simp only [Bool.or_eq_true, beq_iff_eq] at hy
      rcases hy with h | h <;> rw [h] <;> simp
    have ht : tkR s p s[p] = if liL (s.data.toList.drop p) = 0 then ⟨21, 0, ⟨#[]⟩, 0, 0⟩ else match unqL ((s.data.toList.drop p).take (liL (s.data.toList.drop p))) with | none => ⟨21, 0, ⟨#[]⟩, 0, 0⟩ | some v => ⟨0, 3, ⟨v.toArray⟩, 0, liL (s.data.toList.drop p)⟩ := by
      unfold tkR
      rw [if_neg (by omega), if_neg (by omega), if_pos hc]
    have hli : liL (s.data.toList.drop p) ≤ s.size - p := by
      rw [drop_at s p hp]
      show liP s[p] 1 (s.data.toList.drop (p + 1)) ≤ _
      rcases liF_le s[p] (s.data.toList.drop (p + 1)).length 1 (s.data.toList.drop (p + 1)) with h | ⟨_, h⟩
      · unfold liP; omega
      · unfold liP
        have : (s.data.toList.drop (p + 1)).length = s.size - (p + 1) := by simp
        omega
    by_cases h0 : liL (s.data.toList.drop p) = 0
    · rw [if_pos h0] at ht
      rw [ht]
      exact lit_open h hp hs hq h0
    · rw [if_neg h0] at ht
      cases hu : unqL ((s.data.toList.drop p).take (liL (s.data.toList.drop p))) with
      | none =>
        rw [hu] at ht
        rw [ht]
        exact lit_bad h hp hs hq _ rfl (by omega) hli hu
      | some v =>
        rw [hu] at ht
        rw [ht]
        exact lit_ok h hp hs hq _ rfl (by omega) hli v hu
  · rw [if_neg hc]
    have hn : quB s[p] = false := by rw [decide_eq_false hc] at ha; simpa using ha
    have hq : s[p].toNat ≠ 34 ∧ s[p].toNat ≠ 39 := by
      unfold quB at hn
      simp only [Bool.or_eq_false_iff, beq_eq_false_iff_ne, ne_eq] at hn
      exact ⟨fun h => hn.1 (UInt8.toNat_inj.1 h), fun h => hn.2 (UInt8.toNat_inj.1 h)⟩
    exact lit_no h hp hq.1 hq.2
theorem read3 {w : World} {b p : Nat} {s : ByteArray} (h : Scn w b s p) (hp : p < s.size) (hs : s.size ≤ 1000000) (hE : Env w) :
    Calls Tryz.prog 88 #[.pointer (some ⟨b, 0, none⟩)] w (RdP w (rdA s p s[p] 3).1 (rdA s p s[p] 3).2.1 (rdA s p s[p] 3).2.2) := by
  have ha := (cl_apart s[p]).2.2.2
  unfold rdA
  by_cases hc : clN s[p] = 3
  · rw [if_pos hc]
    have hy : sgB s[p] = true := by rw [hc] at ha; simpa using ha
    have ht : tkR s p s[p] = ⟨0, 4, s.extract p (p + 1), 0, 1⟩ := by
      unfold tkR
      rw [if_neg (by omega), if_neg (by omega), if_neg (by omega), if_pos hc]
    rw [ht]
    exact sign_ok h hp hs hy
  · rw [if_neg hc]
    have hn : sgB s[p] = false := by rw [decide_eq_false hc] at ha; simpa using ha
    exact sign_no h hp hn
/-- A token has bytes, and lies in the text. -/
theorem tk_size {s : ByteArray} {p : Nat} (hp : p < s.size) (h : (tkR s p s[p]).e = 0) : 1 ≤ (tkR s p s[p]).z ∧ p + (tkR s p s[p]).z ≤ s.size := by
  have hrl := runL_len (s.data.toList.drop p)
  have ha := cl_apart s[p]
  have hl : (s.data.toList.drop p).length = s.size - p := by simp
  unfold tkR at h ⊢
  by_cases h0 : clN s[p] = 0
  · simp only [if_pos h0] at h ⊢
    have hy : ltZ (s[p].toNat : Nat) = true := by have := ha.1; rw [h0] at this; simpa using this
    have hpos := ext_pos hp (show wdZ (s[p].toNat : Nat) = true by unfold wdZ; rw [hy]; rfl)
    split at h
    · rename_i hi
      rw [if_pos hi]
      exact ⟨hpos, by simp only; omega⟩
    · cases h
  · simp only [if_neg h0] at h ⊢
    by_cases h1 : clN s[p] = 1
    · simp only [if_pos h1] at h ⊢
      have hy : dgZ (s[p].toNat : Nat) = true := by have := ha.2.1; rw [h1] at this; simpa using this
      have hpos := ext_pos hp (show wdZ (s[p].toNat : Nat) = true by unfold wdZ; rw [hy]; simp)
      split at h
      · rename_i hi
        rw [if_pos hi]
        exact ⟨hpos, by simp only; omega⟩
      · rename_i hi
        exact absurd h hi
    · simp only [if_neg h1] at h ⊢
      by_cases h2 : clN s[p] = 2
      · simp only [if_pos h2] at h ⊢
        split at h
        · cases h
        · rename_i hi
          rw [if_neg hi]
          split at h
          · cases h
          · rename_i v hv
            refine ⟨by simp only; omega, ?_⟩
            rw [drop_at s p hp]
            show p + liP s[p] 1 (s.data.toList.drop (p + 1)) ≤ _
            rcases liF_le s[p] (s.data.toList.drop (p + 1)).length 1 (s.data.toList.drop (p + 1)) with h | ⟨_, h⟩
            · unfold liP; omega
            · unfold liP
              have : (s.data.toList.drop (p + 1)).length = s.size - (p + 1) := by simp
              omega
      · simp only [if_neg h2] at h ⊢
        by_cases h3 : clN s[p] = 3
        · simp only [if_pos h3] at h ⊢
          exact ⟨Nat.le_refl _, by omega⟩
        · simp only [if_neg h3] at h
          cases h
end Go.Proofs.YtoineheocipmaaaGreatDoor
