/-
  Plain mathematics of literals: what is quoted is read back. No program.
-/
import Derived.Test.YtoineheocipmaaaGreatDoorUnq2
import Derived.Test.YtoineheocipmaaaGreatDoorQuote
import Derived.Test.YtoineheocipmaaaGreatDoorKeyMath
namespace Go.Proofs.YtoineheocipmaaaGreatDoor
set_option linter.unusedVariables false
set_option linter.unusedSimpArgs false

/-- The parts of a quoted byte are these: itself, a letter behind a backslash, or three digits behind one. -/
def qpOk (c : UInt8) : Bool :=
  match qp c with
  | [a] => a == c && decide (32 ≤ a.toNat) && !(a.toNat == 34) && !(a.toNat == 92) && decide (a.toNat ≤ 126)
  | [a, x] => a.toNat == 92 && !(x.toNat == 92 && false) && (match lookT escT x.toNat with | some e => decide (e.base = 0) && UInt8.ofNat e.v == c | none => false) && decide (32 ≤ x.toNat) && decide (x.toNat ≤ 126)
  | [a, d, e, f] => a.toNat == 92 && (match lookT escT d.toNat with | some s => decide (s.base = 8) && decide (s.skip = 0) && decide (s.least = 1) && decide (s.most = 3) && !s.r | none => false) &&
      decide (dgV d.toNat < 8) && decide (dgV e.toNat < 8) && decide (dgV f.toNat < 8) && decide (((0 * 8 + dgV d.toNat) * 8 + dgV e.toNat) * 8 + dgV f.toNat = c.toNat) && decide (32 ≤ d.toNat ∧ d.toNat ≤ 126 ∧ 32 ≤ e.toNat ∧ e.toNat ≤ 126 ∧ 32 ≤ f.toNat ∧ f.toNat ≤ 126)
  | _ => false
theorem qp_ok (c : UInt8) : qpOk c = true := fin8 (p := qpOk) (by decide +kernel) c

theorem uqF_qp (c : UInt8) (r : List UInt8) (k : Nat) (h : (qp c ++ r).length ≤ k) : ∃ k', r.length ≤ k' ∧ uqF 34 k (qp c ++ r) = (uqF 34 k' r).map (c :: ·) := by
  have hq := qp_ok c
  unfold qpOk at hq
  split at hq
  · rename_i a e
    rw [e] at h ⊢
    simp only [Bool.and_eq_true, beq_iff_eq, decide_eq_true_eq, Bool.not_eq_true', beq_eq_false_iff_ne, ne_eq] at hq
    obtain ⟨⟨⟨⟨rfl, h1⟩, h2⟩, h3⟩, h4⟩ := hq
    obtain ⟨k', rfl⟩ : ∃ k', k = k' + 1 := ⟨k - 1, by simp at h; omega⟩
    refine ⟨k', by simp at h; omega, ?_⟩
    rw [List.cons_append, List.nil_append, uqF, if_neg (by omega), if_pos (by omega)]
  · rename_i a x e
    rw [e] at h ⊢
    cases hl : lookT escT x.toNat with
    | none => rw [hl] at hq; simp at hq
    | some s =>
      rw [hl] at hq
      simp only [Bool.and_eq_true, beq_iff_eq, decide_eq_true_eq] at hq
      obtain ⟨⟨⟨⟨h1, _⟩, h2, h3⟩, _⟩, _⟩ := hq
      obtain ⟨k', rfl⟩ : ∃ k', k = k' + 1 := ⟨k - 1, by simp at h; omega⟩
      have he : escL (x :: r) = ([c], 1) := by
        rw [escL, hl]
        simp only [escX, if_pos h2, h3]
      refine ⟨k', by simp at h; omega, ?_⟩
      rw [List.cons_append, List.cons_append, List.nil_append, uqF, if_neg (by omega), if_neg (by omega), he]
      simp
  · rename_i a d x f e
    rw [e] at h ⊢
    cases hl : lookT escT d.toNat with
    | none => rw [hl] at hq; simp at hq
    | some s =>
      rw [hl] at hq
      simp only [Bool.and_eq_true, beq_iff_eq, decide_eq_true_eq, Bool.not_eq_true'] at hq
      obtain ⟨⟨⟨⟨⟨⟨h1, ⟨⟨⟨h2, h3⟩, h4⟩, h5⟩, h6⟩, g1⟩, g2⟩, g3⟩, g4⟩, _⟩ := hq
      obtain ⟨k', rfl⟩ : ∃ k', k = k' + 1 := ⟨k - 1, by simp at h; omega⟩
      have hc := c.toNat_lt
      have hnm : nmF (8 : Int) 3 0 (d :: x :: f :: r) = ((c.toNat : Int), 3) := by
        rw [nmF, if_pos g1, nmF, if_pos g2, nmF, if_pos g3, nmF]
        rw [g4]
      have he : escL (d :: x :: f :: r) = ([c], 3) := by
        rw [escL, hl]
        simp only [escX, h2, h3, h5, List.drop_zero]
        rw [if_neg (by omega)]
        rw [show (((8 : Nat) : Nat) : Int) = 8 from rfl, hnm]
        unfold escN
        simp only [h4, h6, h3]
        rw [if_neg (by omega)]
        simp
        omega
      refine ⟨k', by simp at h; omega, ?_⟩
      rw [List.cons_append, List.cons_append, List.cons_append, List.cons_append, List.nil_append, uqF, if_neg (by omega), if_neg (by omega), he]
      simp
  · cases hq
theorem uqF_qin : ∀ (l : List UInt8) (k : Nat), (qin l).length ≤ k → uqF 34 k (qin l) = some l
  | [], k, _ => by cases k <;> rfl
  | c :: l, k, h => by
    have e : qin (c :: l) = qp c ++ qin l := rfl
    rw [e] at h ⊢
    obtain ⟨k', h1, h2⟩ := uqF_qp c (qin l) k h
    rw [h2, uqF_qin l k' h1]
    rfl
/-- A tidy literal is read as the bytes of which it was made. -/
theorem unq_qt (l : List UInt8) : unqL (qtL l) = some l := by
  have hlen : (qtL l).length = (qin l).length + 2 := by simp [qtL]
  have hlast : (qtL l).getD ((qtL l).length - 1) 0 = 34 := by
    rw [hlen, List.getD]
    show ((34 :: (qin l ++ [34]))[(qin l).length + 1]?).getD 0 = 34
    simp
  have hh : (qtL l).headD 0 = 34 := rfl
  have hmid : ((qtL l).drop 1).take ((qtL l).length - 2) = qin l := by
    rw [hlen]
    show ((qin l ++ [34]).take (qin l).length) = _
    simp
  unfold unqL
  rw [hlast, hh, hmid, if_neg (by omega), if_neg (by decide), if_neg (by simp)]
  exact uqF_qin l _ (by omega)
theorem qt_plain (l : List UInt8) : ∀ x ∈ qtL l, 32 ≤ x.toNat ∧ x.toNat ≤ 126 := by
  intro x hx
  simp only [qtL, List.mem_cons, List.mem_append, List.mem_nil_iff, or_false] at hx
  rcases hx with rfl | hx | rfl
  · decide
  · simp only [qin, List.mem_flatMap] at hx
    obtain ⟨c, _, hc⟩ := hx
    have := fin8 (p := fun c => (qp c).all fun x => decide (32 ≤ x.toNat) && decide (x.toNat ≤ 126)) (by decide +kernel) c
    rw [List.all_eq_true] at this
    have := this x hc
    simpa using this
  · decide
theorem qin_append (a b : List UInt8) : qin (a ++ b) = qin a ++ qin b := by simp [qin]
theorem qt_append (a b : List UInt8) : qtL (a ++ b) = (qtL a).take ((qtL a).length - 1) ++ (qtL b).drop 1 := by
  have h1 : (qtL a).take ((qtL a).length - 1) = 34 :: qin a := by
    have hlen : (qtL a).length = (qin a).length + 2 := by simp [qtL]
    rw [hlen]
    show (34 :: (qin a ++ [34])).take ((qin a).length + 1) = _
    simp
  rw [h1]
  show 34 :: (qin (a ++ b) ++ [34]) = (34 :: qin a) ++ (qin b ++ [34])
  rw [qin_append]
  simp
theorem qt_len (l : List UInt8) : 2 ≤ (qtL l).length ∧ (qtL l).length ≤ 4 * l.length + 2 := by
  have := qin_len l
  have hlen : (qtL l).length = (qin l).length + 2 := by simp [qtL]
  omega
end Go.Proofs.YtoineheocipmaaaGreatDoor
