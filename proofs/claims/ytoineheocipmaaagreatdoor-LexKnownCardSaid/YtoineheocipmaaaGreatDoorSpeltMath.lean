/-
  Plain mathematics of literals: bytes that are spelt are read as they are. No program.
-/
import Derived.Test.YtoineheocipmaaaGreatDoorTidyMath
namespace Go.Proofs.YtoineheocipmaaaGreatDoor
set_option linter.unusedVariables false
set_option linter.unusedSimpArgs false

def hexLo : List UInt8 := [48, 49, 50, 51, 52, 53, 54, 55, 56, 57, 97, 98, 99, 100, 101, 102]
def hexUp : List UInt8 := [48, 49, 50, 51, 52, 53, 54, 55, 56, 57, 65, 66, 67, 68, 69, 70]
def hx1 (c : UInt8) : UInt8 := hexLo.getD (c.toNat / 16) 0
def hx2 (c : UInt8) : UInt8 := hexUp.getD (c.toNat % 16) 0
def octs (c : UInt8) : List UInt8 := [92, UInt8.ofNat (48 + c.toNat / 64), UInt8.ofNat (48 + c.toNat / 8 % 8), UInt8.ofNat (48 + c.toNat % 8)]

/-- Read behind what has been read: p stands for l. -/
def SP (q : Int) (l p : List UInt8) : Prop := ∀ (r : List UInt8) (k : Nat), (p ++ r).length ≤ k → ∃ k', r.length ≤ k' ∧ uqF q k (p ++ r) = (uqF q k' r).map (l ++ ·)
theorem SP.nil (q : Int) : SP q [] [] := fun r k h => ⟨k, by simpa using h, by simp⟩
theorem SP.app {q : Int} {l l' p p' : List UInt8} (h : SP q l p) (h' : SP q l' p') : SP q (l ++ l') (p ++ p') := by
  intro r k hk
  rw [List.append_assoc] at hk ⊢
  obtain ⟨k1, h1, e1⟩ := h (p' ++ r) k hk
  obtain ⟨k2, h2, e2⟩ := h' r k1 h1
  refine ⟨k2, h2, ?_⟩
  rw [e1, e2, Option.map_map]
  congr 1
  funext x
  simp
theorem SP.whole {q : Int} {l p : List UInt8} (h : SP q l p) (k : Nat) (hk : p.length ≤ k) : uqF q k p = some l := by
  obtain ⟨k', _, e⟩ := h [] k (by simpa using hk)
  rw [List.append_nil] at e
  rw [e]
  cases k' <;> simp [uqF]
theorem SP.plain {q : Int} (c : UInt8) (h1 : ¬ (c.toNat : Int) < 32) (h2 : (c.toNat : Int) ≠ 92) (h3 : (c.toNat : Int) ≠ q) : SP q [c] [c] := by
  intro r k hk
  obtain ⟨k', rfl⟩ : ∃ k', k = k' + 1 := ⟨k - 1, by simp at hk; omega⟩
  refine ⟨k', by simp at hk; omega, ?_⟩
  rw [List.cons_append, List.nil_append, uqF, if_neg (by omega), if_pos h2]
  rfl
/-- An escape of three. -/
theorem SP.three {q : Int} (hq : q = 34 ∨ q = 39) (c d e f : UInt8) (h : ∀ r, escL (d :: e :: f :: r) = ([c], 3)) : SP q [c] [92, d, e, f] := by
  intro r k hk
  obtain ⟨k', rfl⟩ : ∃ k', k = k' + 1 := ⟨k - 1, by simp at hk; omega⟩
  refine ⟨k', by simp at hk; omega, ?_⟩
  have h92 : ((92 : UInt8).toNat : Int) = 92 := rfl
  simp only [List.cons_append, List.nil_append]
  rw [uqF, if_neg (by omega), if_neg (by omega), h r]
  simp
def octOk (c : UInt8) : Bool :=
  let d := UInt8.ofNat (48 + c.toNat / 64); let e := UInt8.ofNat (48 + c.toNat / 8 % 8); let f := UInt8.ofNat (48 + c.toNat % 8)
  (match lookT escT d.toNat with | some s => decide (s.base = 8) && decide (s.skip = 0) && decide (s.least = 1) && decide (s.most = 3) && !s.r | none => false) &&
      decide (dgV d.toNat < 8) && decide (dgV e.toNat < 8) && decide (dgV f.toNat < 8) && decide (((0 * 8 + dgV d.toNat) * 8 + dgV e.toNat) * 8 + dgV f.toNat = c.toNat)
theorem oct_ok (c : UInt8) : octOk c = true := fin8 (p := octOk) (by decide +kernel) c
theorem SP.oct {q : Int} (hq : q = 34 ∨ q = 39) (c : UInt8) : SP q [c] (octs c) := by
  refine SP.three hq c _ _ _ fun r => ?_
  have ho := oct_ok c
  unfold octOk at ho
  simp only at ho
  generalize UInt8.ofNat (48 + c.toNat / 64) = d at *
  generalize UInt8.ofNat (48 + c.toNat / 8 % 8) = x at *
  generalize UInt8.ofNat (48 + c.toNat % 8) = f at *
  cases hl : lookT escT d.toNat with
  | none => rw [hl] at ho; simp at ho
  | some s =>
    rw [hl] at ho
    simp only [Bool.and_eq_true, beq_iff_eq, decide_eq_true_eq, Bool.not_eq_true'] at ho
    obtain ⟨⟨⟨⟨⟨⟨⟨⟨h2, h3⟩, h4⟩, h5⟩, h6⟩, g1⟩, g2⟩, g3⟩, g4⟩ := ho
    have hc := c.toNat_lt
    have hnm : nmF (8 : Int) 3 0 (d :: x :: f :: r) = ((c.toNat : Int), 3) := by
      rw [nmF, if_pos g1, nmF, if_pos g2, nmF, if_pos g3, nmF]
      rw [g4]
    rw [escL, hl]
    simp only [escX, h2, h3, h5, List.drop_zero]
    rw [if_neg (by omega)]
    rw [show (((8 : Nat) : Nat) : Int) = 8 from rfl, hnm]
    unfold escN
    simp only [h4, h6, h3]
    rw [if_neg (by omega)]
    simp
    omega
def hexOk (c : UInt8) : Bool := decide (dgV (hx1 c).toNat < 16) && decide (dgV (hx2 c).toNat < 16) && decide ((0 * 16 + dgV (hx1 c).toNat) * 16 + dgV (hx2 c).toNat = c.toNat)
theorem hex_ok (c : UInt8) : hexOk c = true := fin8 (p := hexOk) (by decide +kernel) c
theorem SP.hex {q : Int} (hq : q = 34 ∨ q = 39) (c x : UInt8) (hx : x = 120 ∨ x = 88) : SP q [c] [92, x, hx1 c, hx2 c] := by
  refine SP.three hq c _ _ _ fun r => ?_
  have ho := hex_ok c
  unfold hexOk at ho
  generalize hx1 c = d at *
  generalize hx2 c = f at *
  simp only [Bool.and_eq_true, decide_eq_true_eq] at ho
  obtain ⟨⟨g1, g2⟩, g4⟩ := ho
  have hc := c.toNat_lt
  have hnm : nmF (16 : Int) 2 0 (d :: f :: r) = ((c.toNat : Int), 2) := by
    rw [nmF, if_pos g1, nmF, if_pos g2, nmF]
    rw [g4]
  have hl : lookT escT x.toNat = some ⟨0, 16, 1, 1, 2, false⟩ := by rcases hx with rfl | rfl <;> rfl
  rw [escL, hl]
  simp only [escX, List.drop_succ_cons, List.drop_zero]
  rw [if_neg (by omega)]
  rw [show (((16 : Nat) : Nat) : Int) = 16 from rfl, hnm]
  unfold escN
  simp
  omega
/-- What stands between two quotes, each part in one of its ways, is read. -/
theorem unq_spelt {c : UInt8} (hc : (c.toNat : Int) = 34 ∨ (c.toNat : Int) = 39) {l p : List UInt8} (h : SP (c.toNat : Int) l p) : unqL (c :: p ++ [c]) = some l := by
  have hlen : (c :: p ++ [c]).length = p.length + 2 := by simp
  have hlast : (c :: p ++ [c]).getD ((c :: p ++ [c]).length - 1) 0 = c := by
    rw [hlen, List.getD]
    show ((c :: (p ++ [c]))[p.length + 1]?).getD 0 = c
    simp
  have hh : (c :: p ++ [c]).headD 0 = c := rfl
  have hmid : ((c :: p ++ [c]).drop 1).take ((c :: p ++ [c]).length - 2) = p := by
    rw [hlen]
    show ((p ++ [c]).take p.length) = _
    simp
  unfold unqL
  rw [hlast, hh, hmid, if_neg (by omega), if_neg (by omega), if_neg (by simp)]
  exact h.whole _ (by omega)
end Go.Proofs.YtoineheocipmaaaGreatDoor
