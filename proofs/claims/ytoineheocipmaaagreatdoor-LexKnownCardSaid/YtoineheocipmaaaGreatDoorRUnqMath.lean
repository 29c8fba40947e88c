/-
  Plain mathematics of literals: the document's way of reading one, and that it is the same. No program.
-/
import Derived.Test.YtoineheocipmaaaGreatDoorSpeltMath
import Derived.Test.YtoineheocipmaaaGreatDoorREsc
namespace Go.Proofs.YtoineheocipmaaaGreatDoor
set_option linter.unusedVariables false
set_option linter.unusedSimpArgs false

def rqF (q : UInt8) : Nat → List UInt8 → Option (List UInt8)
  | 0, _ => none
  | k + 1, [] => none
  | k + 1, c :: r => if c = q then (if r = [] then some [] else none) else if c.toNat < 32 then none else if c.toNat ≠ 92 then (rqF q k r).map (c :: ·)
    else if r = [] then none else if (escL r).2 = 0 then none else (rqF q k (r.drop (escL r).2)).map ((escL r).1 ++ ·)
theorem rqF_fuel (q : UInt8) : ∀ (k k' : Nat) (l : List UInt8), l.length < k → l.length < k' → rqF q k l = rqF q k' l
  | 0, _, _, h, _ => by omega
  | _ + 1, 0, _, _, h => by omega
  | k + 1, k' + 1, [], _, _ => rfl
  | k + 1, k' + 1, c :: r, h, h' => by
    simp only [List.length_cons] at h h'
    rw [rqF, rqF, rqF_fuel q k k' r (by omega) (by omega), rqF_fuel q k k' (r.drop (escL r).2) (by simp; omega) (by simp; omega)]
/-- What the document reads behind the first quote. -/
def rqG (q : UInt8) (l : List UInt8) : Option (List UInt8) := rqF q (l.length + 1) l
theorem rqG_nil (q : UInt8) : rqG q [] = none := rfl
theorem rqG_cons (q c : UInt8) (r : List UInt8) : rqG q (c :: r) = if c = q then (if r = [] then some [] else none) else if c.toNat < 32 then none else if c.toNat ≠ 92 then (rqG q r).map (c :: ·)
    else if r = [] then none else if (escL r).2 = 0 then none else (rqG q (r.drop (escL r).2)).map ((escL r).1 ++ ·) := by
  unfold rqG
  rw [List.length_cons, rqF, rqF_fuel q (r.length + 1) ((r.drop (escL r).2).length + 1) (r.drop (escL r).2) (by simp; omega) (by omega)]
theorem rqF_odd (q : UInt8) : ∀ (k : Nat) (l : List UInt8), l.getLast? ≠ some q → rqF q k l = none
  | 0, _, _ => rfl
  | k + 1, [], _ => rfl
  | k + 1, c :: r, h => by
    rw [rqF]
    by_cases h1 : c = q
    · rw [if_pos h1, if_neg]
      intro hr
      subst hr
      exact h (by rw [h1]; rfl)
    · rw [if_neg h1]
      by_cases h2 : c.toNat < 32
      · rw [if_pos h2]
      · rw [if_neg h2]
        have hr : ∀ r', r' <:+ r → r'.getLast? ≠ some q := by
          intro r' ⟨t, ht⟩ e
          refine h ?_
          rw [List.getLast?_cons, ← ht, List.getLast?_append, e]
          rfl
        by_cases h3 : c.toNat ≠ 92
        · rw [if_pos h3, rqF_odd q k r (hr r (List.suffix_refl r))]; rfl
        · rw [if_neg h3, rqF_odd q k (r.drop (escL r).2) (hr _ (List.drop_suffix _ _))]
          split
          · rfl
          · split <;> rfl
theorem nmF_quote {base : Int} {q : UInt8} (hq : dgV q.toNat = 16) (hb : base ≤ 16) : ∀ (k : Nat) (n : Int) (l : List UInt8), nmF base k n (l ++ [q]) = nmF base k n l
  | 0, n, l => by cases l <;> rfl
  | k + 1, n, [] => by
    show nmF base (k + 1) n [q] = _
    rw [nmF, nmF, if_neg (by omega)]
  | k + 1, n, c :: r => by
    rw [List.cons_append, nmF, nmF, nmF_quote hq hb k _ r]
theorem escL_quote {q : UInt8} (hq : dgV q.toNat = 16) {c : UInt8} {r : List UInt8} : escL (c :: r ++ [q]) = escL (c :: r) := by
  rw [List.cons_append, escL, escL]
  cases hl : lookT escT c.toNat with
  | none => rfl
  | some x =>
    simp only
    obtain ⟨f1, f2, f3, f4⟩ := esc_fine _ _ hl
    unfold escX
    have hs : x.skip = 0 ∨ x.skip = 1 := by omega
    have hb : (x.base : Int) ≤ 16 := by omega
    rcases hs with h | h
    · rw [h, List.drop_zero, List.drop_zero, ← List.cons_append, nmF_quote hq hb]
    · rw [h]
      show (if x.base = 0 then _ else escN x (nmF x.base x.most 0 (r ++ [q]))) = (if x.base = 0 then _ else escN x (nmF x.base x.most 0 r))
      rw [nmF_quote hq hb]
theorem rqF_even {q : UInt8} (hq : q = 34 ∨ q = 39) : ∀ (k : Nat) (l : List UInt8), l.length ≤ k → rqF q (k + 1) (l ++ [q]) = uqF (q.toNat : Nat) k l
  | k, [], _ => by
    show rqF q (k + 1) [q] = _
    rw [rqF, if_pos rfl, if_pos rfl]
    cases k <;> rfl
  | 0, c :: r, h => by simp at h
  | k + 1, c :: r, h => by
    simp only [List.length_cons] at h
    have hq16 : dgV q.toNat = 16 := by rcases hq with rfl | rfl <;> decide
    rw [List.cons_append, rqF, uqF]
    by_cases h1 : c = q
    · rw [if_pos h1, if_neg (by simp), if_pos (.inr (by rw [h1]))]
    · have h1' : ¬ (c.toNat : Int) = ((q.toNat : Nat) : Int) := fun e => h1 (UInt8.toNat_inj.1 (by omega))
      rw [if_neg h1]
      by_cases h2 : c.toNat < 32
      · rw [if_pos h2, if_pos (.inl (by omega))]
      · rw [if_neg h2, if_neg (show ¬ ((c.toNat : Int) < 32 ∨ (c.toNat : Int) = ((q.toNat : Nat) : Int)) by omega)]
        by_cases h3 : c.toNat ≠ 92
        · rw [if_pos h3, if_pos (show (c.toNat : Int) ≠ 92 by omega), rqF_even hq k r (by omega)]
        · rw [if_neg h3, if_neg (show ¬ (c.toNat : Int) ≠ 92 by omega), if_neg (show ¬ (r ++ [q] = []) by simp)]
          cases r with
          | nil =>
            have : (escL []).2 = 0 := rfl
            rw [if_pos this]
            have he : escL ([] ++ [q]) = ([q], 1) := by rcases hq with rfl | rfl <;> rfl
            rw [he]
            simp only [List.nil_append, List.drop_succ_cons, List.drop_zero]
            rw [if_neg (by omega)]
            rfl
          | cons d r =>
            rw [escL_quote hq16]
            have hle := escL_le (d :: r)
            by_cases h4 : (escL (d :: r)).2 = 0
            · rw [if_pos h4, if_pos h4]
            · rw [if_neg h4, if_neg h4, List.drop_append_of_le_length hle, rqF_even hq k ((d :: r).drop (escL (d :: r)).2) (by simp only [List.length_drop]; omega)]
/-- The document's value of a literal. -/
def rqL (l : List UInt8) : Option (List UInt8) :=
  if l.length < 2 then none else if (l.headD 0).toNat ≠ 34 ∧ (l.headD 0).toNat ≠ 39 then none else rqG (l.headD 0) (l.drop 1)
theorem rq_unq (l : List UInt8) : rqL l = unqL l := by
  unfold rqL unqL
  by_cases h1 : l.length < 2
  · rw [if_pos h1, if_pos h1]
  · rw [if_neg h1, if_neg h1]
    by_cases h2 : (l.headD 0).toNat ≠ 34 ∧ (l.headD 0).toNat ≠ 39
    · rw [if_pos h2, if_pos h2]
    · rw [if_neg h2, if_neg h2]
      have hq : l.headD 0 = 34 ∨ l.headD 0 = 39 := by
        have : (l.headD 0).toNat = 34 ∨ (l.headD 0).toNat = 39 := by omega
        rcases this with h | h
        · exact .inl (UInt8.toNat_inj.1 h)
        · exact .inr (UInt8.toNat_inj.1 h)
      generalize l.headD 0 = q at *
      match l, h1 with
      | a :: r, h1 =>
        simp only [List.length_cons, List.drop_succ_cons, List.drop_zero] at h1 ⊢
        have hr : r ≠ [] := by intro e; subst e; simp at h1
        have hg : (a :: r).getD (r.length + 1 - 1) 0 = r.getLast hr := by
          rw [List.getD_eq_getElem?_getD, List.getLast_eq_getElem]
          have : r.length + 1 - 1 = (r.length - 1) + 1 := by omega
          rw [this, List.getElem?_cons_succ, List.getElem?_eq_getElem (by omega)]
          rfl
        rw [hg]
        by_cases h3 : r.getLast hr = q
        · rw [if_neg (by simpa using h3)]
          have he : r = r.dropLast ++ [q] := by rw [← h3]; exact (List.dropLast_concat_getLast hr).symm
          have hm : r.take (r.length + 1 - 2) = r.dropLast := by
            rw [List.dropLast_eq_take]; congr 1
          rw [hm]
          unfold rqG
          have hl : r.dropLast.length = r.length - 1 := by simp
          generalize r.dropLast = d at *
          have hlen : r.length = d.length + 1 := by rw [he]; simp
          rw [he, rqF_fuel q _ (r.length + 1 + 1) _ (by omega) (by rw [← he]; omega), rqF_even hq _ _ (by omega), ← he]
        · rw [if_pos (by simpa using h3)]
          exact rqF_odd q _ r (by rw [List.getLast?_eq_some_getLast hr]; simpa using h3)
end Go.Proofs.YtoineheocipmaaaGreatDoor
