/-
  The document's escape, walked.
-/
import Derived.Test.YtoineheocipmaaaDoorRNum
import Derived.Test.YtoineheocipmaaaDoorEscaped5
import Derived.Test.YtoineheocipmaaaDoorRQuote
import Derived.Test.YtoineheocipmaaaDoorKeyMath
import Derived.Deep.DeepCutAuto
import Derived.Deep.CutBlock
import Derived.Deep.QuietTactic
import Derived.BigQuiet
namespace Go.Proofs.YtoineheocipmaaaDoor
open Go.RowKit
set_option linter.unusedVariables false
set_option linter.unusedSimpArgs false

def tabL : List UInt8 := [97, 98, 102, 110, 114, 116, 118, 92, 39, 34, 63]
def valL : List UInt8 := [7, 8, 12, 10, 13, 9, 11, 92, 39, 34, 63]
theorem tab_get (k : Nat) (h : k < 11) : (⟨#[97, 98, 102, 110, 114, 116, 118, 92, 39, 34, 63]⟩ : ByteArray)[k]'h = tabL.getD k 0 := by
  have : ∀ q : Fin 11, (⟨#[97, 98, 102, 110, 114, 116, 118, 92, 39, 34, 63]⟩ : ByteArray)[q.val]'q.isLt = tabL.getD q.val 0 := by decide
  exact this ⟨k, h⟩
theorem look_tab (k : Nat) (h : k < 11) : lookT escT (tabL.getD k 0).toNat = some ⟨(valL.getD k 0).toNat, 0, 0, 0, 0, false⟩ := by
  have h' : k = 0 ∨ k = 1 ∨ k = 2 ∨ k = 3 ∨ k = 4 ∨ k = 5 ∨ k = 6 ∨ k = 7 ∨ k = 8 ∨ k = 9 ∨ k = 10 := by omega
  rcases h' with rfl | rfl | rfl | rfl | rfl | rfl | rfl | rfl | rfl | rfl | rfl <;> rfl
def clsOk (c : UInt8) : Bool :=
  if tabL.contains c then true
  else if 48 ≤ c.toNat ∧ c.toNat ≤ 55 then (match lookT escT c.toNat with | some s => decide (s.base = 8) && decide (s.skip = 0) && decide (s.least = 1) && decide (s.most = 3) && !s.r | none => false)
  else if c = 120 ∨ c = 88 then (match lookT escT c.toNat with | some s => decide (s.base = 16) && decide (s.skip = 1) && decide (s.least = 1) && decide (s.most = 2) && !s.r | none => false)
  else if c = 117 then (match lookT escT c.toNat with | some s => decide (s.base = 16) && decide (s.skip = 1) && decide (s.least = 4) && decide (s.most = 4) && s.r | none => false)
  else if c = 85 then (match lookT escT c.toNat with | some s => decide (s.base = 16) && decide (s.skip = 1) && decide (s.least = 8) && decide (s.most = 8) && s.r | none => false)
  else (lookT escT c.toNat).isNone
theorem cls_ok (c : UInt8) : clsOk c = true := fin8 (p := clsOk) (by decide +kernel) c

/-- An escape's bytes, and how many bytes it has. -/
def ErP (w : World) (R : List UInt8 × Nat) (e : Ending) (w' : World) : Prop := ∃ v', e = .returned (.tuple #[v', .int .i64 (R.2 : Nat)]) ∧ Own w' w.heap.size v' R.1 ∧ Below w.heap.size w w'
theorem drop_cons (s : ByteArray) (p : Nat) (h : p < s.size) : s.data.toList.drop p = s[p] :: s.data.toList.drop (p + 1) := drop_at s p h

theorem esc_tab {c : UInt8} {r : List UInt8} (k : Nat) (h : k < 11) (hc : c = tabL.getD k 0) : escL (c :: r) = ([valL.getD k 0], 1) := by
  rw [escL, hc, look_tab k h]
  simp [escX]
theorem esc_dig {c : UInt8} {r : List UInt8} (hn : tabL.contains c = false) (h1 : 48 ≤ c.toNat) (h2 : c.toNat ≤ 55) : escL (c :: r) = if (nmF 8 3 0 (c :: r)).2 < 1 then ([], 0) else if (nmF 8 3 0 (c :: r)).1 ≤ 255 then ([UInt8.ofNat (nmF 8 3 0 (c :: r)).1.toNat], (nmF 8 3 0 (c :: r)).2) else ([], 0) := by
  have hk := cls_ok c
  unfold clsOk at hk
  rw [hn, if_neg (by simp), if_pos ⟨h1, h2⟩] at hk
  cases hl : lookT escT c.toNat with
  | none => rw [hl] at hk; simp at hk
  | some s =>
    rw [hl] at hk
    simp only [Bool.and_eq_true, decide_eq_true_eq, Bool.not_eq_true'] at hk
    obtain ⟨⟨⟨⟨e1, e2⟩, e3⟩, e4⟩, e5⟩ := hk
    rw [escL, hl]
    simp only [escX, e1, e2, e4, List.drop_zero]
    rw [if_neg (by omega)]
    unfold escN
    simp [e2, e3, e5]
theorem esc_hex {c : UInt8} {r : List UInt8} (hn : tabL.contains c = false) (h1 : c = 120 ∨ c = 88) : escL (c :: r) = if (nmF 16 2 0 r).2 < 1 then ([], 0) else if (nmF 16 2 0 r).1 ≤ 255 then ([UInt8.ofNat (nmF 16 2 0 r).1.toNat], 1 + (nmF 16 2 0 r).2) else ([], 0) := by
  have hk := cls_ok c
  unfold clsOk at hk
  rw [hn, if_neg (by simp), if_neg (by rcases h1 with rfl | rfl <;> decide), if_pos h1] at hk
  cases hl : lookT escT c.toNat with
  | none => rw [hl] at hk; simp at hk
  | some s =>
    rw [hl] at hk
    simp only [Bool.and_eq_true, decide_eq_true_eq, Bool.not_eq_true'] at hk
    obtain ⟨⟨⟨⟨e1, e2⟩, e3⟩, e4⟩, e5⟩ := hk
    rw [escL, hl]
    simp only [escX, e1, e2, e4, List.drop_succ_cons, List.drop_zero]
    rw [if_neg (by omega)]
    unfold escN
    simp [e2, e3, e5]
theorem esc_uni {c : UInt8} {r : List UInt8} {m : Nat} (hn : tabL.contains c = false) (h1 : (c = 117 ∧ m = 4) ∨ (c = 85 ∧ m = 8)) : escL (c :: r) = if (nmF 16 m 0 r).2 < m then ([], 0) else if rnB (nmF 16 m 0 r).1 then (Lib.encodeRune (nmF 16 m 0 r).1, 1 + (nmF 16 m 0 r).2) else ([], 0) := by
  have hk := cls_ok c
  unfold clsOk at hk
  rw [hn, if_neg (by simp), if_neg (by rcases h1 with ⟨rfl, _⟩ | ⟨rfl, _⟩ <;> decide), if_neg (by rcases h1 with ⟨rfl, _⟩ | ⟨rfl, _⟩ <;> decide)] at hk
  cases hl : lookT escT c.toNat with
  | none => rw [hl] at hk; rcases h1 with ⟨rfl, _⟩ | ⟨rfl, _⟩ <;> simp at hk
  | some s =>
    rw [hl] at hk
    have hk2 : s.base = 16 ∧ s.skip = 1 ∧ s.least = m ∧ s.most = m ∧ s.r = true := by
      rcases h1 with ⟨rfl, rfl⟩ | ⟨rfl, rfl⟩
      · rw [if_pos rfl] at hk
        simp only [Bool.and_eq_true, decide_eq_true_eq] at hk
        obtain ⟨⟨⟨⟨e1, e2⟩, e3⟩, e4⟩, e5⟩ := hk
        exact ⟨e1, e2, e3, e4, e5⟩
      · rw [if_neg (by decide), if_pos rfl] at hk
        simp only [Bool.and_eq_true, decide_eq_true_eq] at hk
        obtain ⟨⟨⟨⟨e1, e2⟩, e3⟩, e4⟩, e5⟩ := hk
        exact ⟨e1, e2, e3, e4, e5⟩
    obtain ⟨e1, e2, e3, e4, e5⟩ := hk2
    rw [escL, hl]
    simp only [escX, e1, e2, e4, List.drop_succ_cons, List.drop_zero]
    rw [if_neg (by omega)]
    unfold escN
    simp [e2, e3, e5]
theorem esc_no {c : UInt8} {r : List UInt8} (hn : tabL.contains c = false) (h1 : ¬ (48 ≤ c.toNat ∧ c.toNat ≤ 55)) (h2 : ¬ (c = 120 ∨ c = 88)) (h3 : ¬ c = 117) (h4 : ¬ c = 85) : escL (c :: r) = ([], 0) := by
  have hk := cls_ok c
  unfold clsOk at hk
  rw [hn, if_neg (by simp), if_neg h1, if_neg h2, if_neg h3, if_neg h4] at hk
  rw [escL]
  cases hl : lookT escT c.toNat with
  | none => rfl
  | some s => rw [hl] at hk; simp at hk

theorem nm_pos {base : Int} {m : Nat} {c : UInt8} {r : List UInt8} (h : dgV c.toNat < base) : 1 ≤ (nmF base (m + 1) 0 (c :: r)).2 := by
  rw [nmF, if_pos h]
  simp
theorem Own.one_ (W : World) (z : Int) (h0 : 0 ≤ z) (h1 : z < 256) (x : UInt8) (hx : UInt8.ofNat z.toNat = x) : Own (W.alloc (.cells #[.int .u8 z] 5)) W.heap.size (.slice (some ⟨W.heap.size, 0, none⟩) 1 1) [x] := by
  rw [← hx]; exact Own.one W z h0 h1
theorem Own.one2 (w : World) (o : Obj) (z : Int) (h0 : 0 ≤ z) (h1 : z < 256) (x : UInt8) (hx : UInt8.ofNat z.toNat = x) : Own ((w.alloc o).alloc (.cells #[.int .u8 z] 5)) w.heap.size (.slice (some ⟨w.heap.size + 1, 0, none⟩) 1 1) [x] := by
  have h := (Own.one_ (w.alloc o) z h0 h1 x hx).base_ (base' := w.heap.size) (by simp)
  rw [World.size_alloc] at h
  exact h
end Go.Proofs.YtoineheocipmaaaDoor
