/-
  Plain mathematics of numbers in more bytes than they need, and of the records that are made of rows. No program.
-/
import Derived.Test.YtlckppmggklinaaFacts
namespace Go.Proofs.Ytlckppmggklinaa
open Go.RowKit
set_option linter.unusedVariables false

theorem rv_uvarint : ∀ (f n i acc : Nat), n < 128 ^ f → i ≤ 9 → n * 2 ^ (7 * i) < 2 ^ 64 → rv (Lib.uvarint n) i acc = (0, acc + n * 2 ^ (7 * i), i + (Lib.uvarint n).length)
  | 0, n, i, acc, hf, hi, h => by
    have : n = 0 := by simpa using hf
    subst this
    rw [Lib.uvarint_small (by omega)]
    simp [rv]
  | f + 1, n, i, acc, hf, hi, h => by
    by_cases hn : n < 128
    · rw [Lib.uvarint_small hn]
      have e : (UInt8.ofNat n).toNat = n := by rw [UInt8.toNat_ofNat']; omega
      have h9 : ¬ (i = 9 ∧ 1 < n) := by
        rintro ⟨rfl, h1⟩
        have : 2 * 2 ^ (7 * 9) ≤ n * 2 ^ (7 * 9) := Nat.mul_le_mul_right _ h1
        omega
      simp only [rv, e, if_neg h9, if_pos hn, Nat.mod_eq_of_lt hn, List.length_singleton]
    · rw [Lib.uvarint_big (by omega)]
      have hi8 : i < 9 := by
        rcases Nat.lt_or_ge i 9 with q | q
        · exact q
        · obtain rfl : i = 9 := by omega
          have : 128 * 2 ^ (7 * 9) ≤ n * 2 ^ (7 * 9) := Nat.mul_le_mul_right _ (by omega)
          omega
      have e : (UInt8.ofNat (n % 128 + 128)).toNat = n % 128 + 128 := by rw [UInt8.toNat_ofNat']; omega
      have hsplit : n * 2 ^ (7 * i) = n % 128 * 2 ^ (7 * i) + n / 128 * 2 ^ (7 * (i + 1)) := by
        have : 2 ^ (7 * (i + 1)) = 128 * 2 ^ (7 * i) := by rw [show 7 * (i + 1) = 7 * i + 7 by omega, Nat.pow_add]; omega
        rw [this, ← Nat.mul_assoc, ← Nat.add_mul, show n % 128 + n / 128 * 128 = n by omega]
      have ih := rv_uvarint f (n / 128) (i + 1) (acc + n % 128 * 2 ^ (7 * i)) (by rw [Nat.pow_succ] at hf; exact Nat.div_lt_of_lt_mul (by rw [Nat.mul_comm]; exact hf)) (by omega) (by omega)
      simp only [rv, e, if_neg (show ¬ (i = 9 ∧ 1 < n % 128 + 128) by omega), if_neg (show ¬ n % 128 + 128 < 128 by omega), Nat.add_mod_right, Nat.mod_mod, List.length_cons]
      rw [ih, hsplit]
      simp only [Prod.mk.injEq, true_and]
      omega
theorem rv_uv (n : Nat) (h : n < 2 ^ 64) : rv (Lib.uvarint n) 0 0 = (0, n, (Lib.uvarint n).length) := by
  have := rv_uvarint 10 n 0 0 (Nat.lt_of_lt_of_le h (by decide)) (by omega) (by simpa using h)
  simpa using this

/-- One byte more than needed. -/
def more1 (l : List UInt8) : List UInt8 := l.dropLast ++ [l.getLastD 0 ||| 128, 0]
def lng : Nat → List UInt8 → List UInt8
  | 0, l => l
  | k + 1, l => if l.length < 10 then lng k (more1 l) else l

theorem or128 (c : UInt8) (h : c.toNat < 128) : (c ||| 128).toNat = c.toNat + 128 := by
  have : ∀ x : Fin 128, (x.val ||| 128) = x.val + 128 := by decide +kernel
  rw [UInt8.toNat_or]
  exact this ⟨c.toNat, h⟩
theorem rv_more1 : ∀ (l : List UInt8) (i acc n : Nat), l ≠ [] → rv l i acc = (0, n, i + l.length) → i + l.length < 10 → rv (more1 l) i acc = (0, n, i + l.length + 1)
  | [c], i, acc, n, _, h, hl => by
    simp only [List.length_singleton] at hl
    simp only [rv, if_neg (show ¬ (i = 9 ∧ 1 < c.toNat) by omega), List.length_singleton] at h
    by_cases hc : c.toNat < 128
    · rw [if_pos hc] at h
      simp only [more1, List.dropLast_singleton, List.nil_append, List.getLastD_cons, List.getLastD_nil, rv, or128 c hc, if_neg (show ¬ (i = 9 ∧ 1 < c.toNat + 128) by omega), if_neg (show ¬ c.toNat + 128 < 128 by omega)]
      simp only [Prod.mk.injEq, and_true, true_and] at h
      simp only [Nat.add_mod_right, h]
      simp
    · rw [if_neg hc] at h; simp at h
  | c :: d :: r, i, acc, n, _, h, hl => by
    simp only [List.length_cons] at hl
    rw [rv, if_neg (show ¬ (i = 9 ∧ 1 < c.toNat) by omega)] at h
    by_cases hc : c.toNat < 128
    · rw [if_pos hc] at h
      simp at h
    · rw [if_neg hc] at h
      have ih := rv_more1 (d :: r) (i + 1) _ n (by simp) (by rw [h]; simp only [List.length_cons, Prod.mk.injEq, true_and]; omega) (by simp only [List.length_cons]; omega)
      have e : more1 (c :: d :: r) = c :: more1 (d :: r) := by simp [more1, List.getLastD]
      rw [e, rv, if_neg (show ¬ (i = 9 ∧ 1 < c.toNat) by omega), if_neg hc, ih]
      simp only [List.length_cons, Prod.mk.injEq, true_and]
      omega
theorem more1_length (l : List UInt8) (h : l ≠ []) : (more1 l).length = l.length + 1 := by
  have := List.length_pos_iff.2 h
  simp [more1]; omega
theorem lng_rv : ∀ (k : Nat) (l : List UInt8) (n : Nat), l ≠ [] → l.length ≤ 10 → rv l 0 0 = (0, n, l.length) → rv (lng k l) 0 0 = (0, n, (lng k l).length) ∧ l.length ≤ (lng k l).length ∧ (lng k l).length ≤ 10
  | 0, l, n, _, h10, h => ⟨h, Nat.le_refl _, h10⟩
  | k + 1, l, n, h0, h10, h => by
    rw [lng]
    by_cases hl : l.length < 10
    · rw [if_pos hl]
      have h1 := rv_more1 l 0 0 n h0 (by simpa using h) (by omega)
      have hm := more1_length l h0
      have hne : more1 l ≠ [] := by intro e; rw [e] at hm; simp at hm
      have ih := lng_rv k (more1 l) n hne (by omega) (by rw [h1, hm]; simp)
      exact ⟨ih.1, by omega, ih.2.2⟩
    · rw [if_neg hl]; exact ⟨h, Nat.le_refl _, h10⟩
theorem uvarint_ne (n : Nat) : Lib.uvarint n ≠ [] := by
  by_cases h : n < 128
  · rw [Lib.uvarint_small h]; simp
  · rw [Lib.uvarint_big (by omega)]; simp
theorem lng_uv (k n : Nat) (h : n < 2 ^ 64) : rv (lng k (Lib.uvarint n)) 0 0 = (0, n, (lng k (Lib.uvarint n)).length) ∧ (Lib.uvarint n).length ≤ (lng k (Lib.uvarint n)).length ∧ (lng k (Lib.uvarint n)).length ≤ 10 :=
  lng_rv k _ n (uvarint_ne n) (Lib.uvarint_length64 (by omega)) (rv_uv n h)

theorem leN_fixB : ∀ (k n : Nat), n < 256 ^ k → leN (fixB k n) = n
  | 0, n, h => by
    have : n = 0 := by simpa using h
    subst this; rfl
  | k + 1, n, h => by
    have ih := leN_fixB k (n / 256) (by rw [Nat.pow_succ] at h; exact Nat.div_lt_of_lt_mul (by rw [Nat.mul_comm]; exact h))
    show (UInt8.ofNat (n % 256)).toNat + 256 * leN (fixB k (n / 256)) = n
    rw [ih, UInt8.toNat_ofNat']
    omega

/-- A row: what a record is made of. -/
structure Rw where
  num : Int
  wire : Int
  n : Nat
  b : List UInt8
  more : Int

def kindN (k : Int) : Int := if k = 0 then 0 else if k = 1 then 1 else if k = 2 then 2 else 5
/-- What stands behind the first number. -/
def bodyB (m : Nat) (kind : Int) (n : Nat) (b : List UInt8) : List UInt8 :=
  if kind = 0 then lng m (Lib.uvarint n) else if kind = 1 then fixB 8 n else if kind = 5 then fixB 4 n else Lib.uvarint b.length ++ b
def mdR (num kind : Int) (n : Nat) (b : List UInt8) (m : Nat) : Rc :=
  ⟨num, kind, if kind = 2 then 0 else n, if kind = 2 then b else [], lng m (Lib.uvarint (8 * num + kind).toNat) ++ bodyB m kind n b⟩

theorem bdR_body {m n : Nat} {kind : Int} {b : List UInt8} (hk : kind = 0 ∨ kind = 1 ∨ kind = 2 ∨ kind = 5) (hn : n < 2 ^ 64) (h5 : kind = 5 → n < 4294967296) (hb : b.length ≤ 1048576) :
    bdR kind.toNat (bodyB m kind n b) = (0, if kind = 2 then 0 else n, if kind = 2 then b else [], (bodyB m kind n b).length) := by
  rcases hk with rfl | rfl | rfl | rfl
  · have h := (lng_uv m n hn).1
    simp [bdR, bodyB, h]
  · simp [bdR, bodyB, fxR, fixB_length]
    rw [List.take_of_length_le (by rw [fixB_length]; omega), leN_fixB 8 n (by omega)]
  · have h := rv_uv b.length (by omega)
    have ha := rv_append (Lib.uvarint b.length) b 0 0 (by rw [h])
    simp only [bdR, bodyB]
    rw [if_neg (by decide), if_neg (by decide), if_pos (by decide), if_neg (by decide), if_neg (by decide), if_neg (by decide)]
    simp only [if_true]
    unfold ctR
    simp only [ha, h]
    rw [if_neg (by simp), if_neg (by omega), if_neg (by simp)]
    simp
  · simp [bdR, bodyB, fxR, fixB_length]
    rw [List.take_of_length_le (by rw [fixB_length]; omega), leN_fixB 4 n (by have := h5 rfl; omega)]

theorem mdR_good {num kind : Int} {m n : Nat} {b : List UInt8} (h1 : 1 ≤ num) (h2 : num ≤ 536870911) (hk : kind = 0 ∨ kind = 1 ∨ kind = 2 ∨ kind = 5) (hn : n < 2 ^ 64) (h5 : kind = 5 → n < 4294967296) (hb : b.length ≤ 1048576) : Good (mdR num kind n b m) := by
  have hT := lng_uv m (8 * num + kind).toNat (by omega)
  have hB := bdR_body (m := m) (n := n) (b := b) hk hn h5 hb
  generalize hTT : lng m (Lib.uvarint (8 * num + kind).toNat) = T at *
  generalize hBB : bodyB m kind n b = Bd at *
  have ha := rv_append T Bd 0 0 (by rw [hT.1])
  rw [hT.1] at ha
  have e1 : (8 * num + kind).toNat / 8 = num.toNat := by omega
  have e2 : (8 * num + kind).toNat % 8 = kind.toNat := by omega
  unfold Good
  have := nxR_mk (T ++ Bd) (by rw [ha]) (by rw [ha]; simp only [e1]; omega) (by rw [ha]; simp only [e2, List.drop_left]; rw [hB])
  simp only [mdR, hTT, hBB]
  rw [this, ha]
  simp only [e1, e2, List.drop_left, hB]
  have e3 : ((num.toNat : Nat) : Int) = num := by omega
  have e4 : ((kind.toNat : Nat) : Int) = kind := by omega
  simp only [e3, e4, Prod.mk.injEq, true_and, Rc.mk.injEq, List.length_append, and_true]
  exact List.take_of_length_le (by simp)
end Go.Proofs.Ytlckppmggklinaa
