/-
  Plain mathematics of lex: the document's answer and the program's find the same token at a place. No program.
-/
import Derived.Test.YtoineheocipmaaaDoorLexRN
import Derived.Test.YtoineheocipmaaaDoorLexRB
import Derived.Test.YtoineheocipmaaaDoorRUnqMath
namespace Go.Proofs.YtoineheocipmaaaDoor
set_option linter.unusedVariables false
set_option linter.unusedSimpArgs false

theorem dgV_32 {c : UInt8} (h : dgV c.toNat < 16) : 32 ≤ c.toNat := by
  unfold dgV at h
  split at h
  · omega
  · split at h
    · omega
    · split at h <;> omega
theorem nmF_bytes {base : Int} (hb : base ≤ 16) : ∀ (k : Nat) (n : Int) (l : List UInt8), ∀ x ∈ l.take (nmF base k n l).2, 32 ≤ x.toNat
  | 0, n, l, x, h => by simp [nmF] at h
  | k + 1, n, [], x, h => by simp at h
  | k + 1, n, c :: r, x, h => by
    rw [nmF] at h
    by_cases hd : dgV c.toNat < base
    · rw [if_pos hd] at h
      simp only [List.take_succ_cons, List.mem_cons] at h
      rcases h with rfl | h
      · exact dgV_32 (by omega)
      · exact nmF_bytes hb k _ r x h
    · rw [if_neg hd] at h
      simp at h
theorem look_32 {c : UInt8} {x : Esc} (h : lookT escT c.toNat = some x) : 32 ≤ c.toNat := by
  have hk : (decide ((lookT escT c.toNat).isSome = true → 32 ≤ c.toNat)) = true := fin8 (p := fun c => decide ((lookT escT c.toNat).isSome = true → 32 ≤ c.toNat)) (by decide +kernel) c
  exact of_decide_eq_true hk (by rw [h]; rfl)
theorem escL_bytes (l : List UInt8) : ∀ y ∈ l.take (escL l).2, 32 ≤ y.toNat := by
  intro y hy
  cases l with
  | nil => simp at hy
  | cons c r =>
    rw [escL] at hy
    cases hl : lookT escT c.toNat with
    | none => rw [hl] at hy; simp at hy
    | some x =>
      rw [hl] at hy
      have h32 := look_32 hl
      obtain ⟨f1, f2, f3, f4⟩ := esc_fine _ _ hl
      simp only [escX] at hy
      by_cases hb : x.base = 0
      · rw [if_pos hb] at hy
        simp at hy
        rw [hy]; exact h32
      · rw [if_neg hb] at hy
        have hn := nmF_bytes (base := x.base) (by omega) x.most 0 ((c :: r).drop x.skip)
        generalize nmF x.base x.most 0 ((c :: r).drop x.skip) = q at *
        have h2 : (escN x q).2 = 0 ∨ (escN x q).2 = x.skip + q.2 := by
          unfold escN
          repeat' split
          all_goals first | exact .inl rfl | exact .inr rfl
        rcases h2 with h2 | h2
        · rw [h2] at hy; simp at hy
        · rw [h2, List.take_add] at hy
          rcases List.mem_append.1 hy with hy | hy
          · have : x.skip = 0 ∨ x.skip = 1 := by omega
            rcases this with h | h
            · rw [h] at hy; simp at hy
            · rw [h] at hy; simp at hy; rw [hy]; exact h32
          · exact hn y hy
theorem rqF_plain (q : UInt8) (hq : q = 34 ∨ q = 39) : ∀ (k : Nat) (l v : List UInt8), rqF q k l = some v → ∀ x ∈ l, 32 ≤ x.toNat
  | 0, l, v, h, _, _ => by simp [rqF] at h
  | k + 1, [], v, h, x, hx => by simp at hx
  | k + 1, c :: r, v, h, x, hx => by
    rw [rqF] at h
    by_cases h1 : c = q
    · rw [if_pos h1] at h
      by_cases h2 : r = []
      · subst h2
        simp at hx
        rw [hx, h1]
        rcases hq with rfl | rfl <;> decide
      · rw [if_neg h2] at h; cases h
    · rw [if_neg h1] at h
      by_cases h2 : c.toNat < 32
      · rw [if_pos h2] at h; cases h
      · rw [if_neg h2] at h
        rcases List.mem_cons.1 hx with rfl | hx
        · omega
        by_cases h3 : c.toNat ≠ 92
        · rw [if_pos h3] at h
          obtain ⟨v', hv, _⟩ := Option.map_eq_some_iff.1 h
          exact rqF_plain q hq k r v' hv x hx
        · rw [if_neg h3] at h
          by_cases h4 : r = []
          · subst h4; simp at hx
          · rw [if_neg h4] at h
            by_cases h5 : (escL r).2 = 0
            · rw [if_pos h5] at h; cases h
            · rw [if_neg h5] at h
              obtain ⟨v', hv, _⟩ := Option.map_eq_some_iff.1 h
              rw [← List.take_append_drop (escL r).2 r] at hx
              rcases List.mem_append.1 hx with hx | hx
              · exact escL_bytes r x hx
              · exact rqF_plain q hq k _ v' hv x hx
/-- A literal that is one has plain bytes alone. -/
theorem unq_plain {l v : List UInt8} (h : unqL l = some v) : ∀ x ∈ l, 32 ≤ x.toNat := by
  rw [← rq_unq] at h
  unfold rqL at h
  by_cases h1 : l.length < 2
  · rw [if_pos h1] at h; cases h
  · rw [if_neg h1] at h
    by_cases h2 : (l.headD 0).toNat ≠ 34 ∧ (l.headD 0).toNat ≠ 39
    · rw [if_pos h2] at h; cases h
    · rw [if_neg h2] at h
      cases l with
      | nil => simp at h1
      | cons c r =>
        have hq : c = 34 ∨ c = 39 := by
          have : c.toNat = 34 ∨ c.toNat = 39 := by simp at h2; omega
          rcases this with h | h
          · exact .inl (UInt8.toNat_inj.1 h)
          · exact .inr (UInt8.toNat_inj.1 h)
        intro x hx
        rcases List.mem_cons.1 hx with rfl | hx
        · rcases hq with rfl | rfl <;> decide
        · exact rqF_plain c hq _ r v h x hx
theorem li_lr (q : UInt8) : ∀ (k p : Nat) (l : List UInt8), lrF q k p l = liF q k p l ∨ (lrF q k p l = 0 ∧ (liF q k p l = 0 ∨ (10 : UInt8) ∈ l.take (liF q k p l - p)))
  | 0, p, l => .inl rfl
  | k + 1, p, [] => .inl rfl
  | k + 1, p, c :: r => by
    rw [lrF, liF]
    by_cases h1 : c = 10
    · rw [if_pos h1, if_pos h1]; exact .inl rfl
    · rw [if_neg h1, if_neg h1]
      by_cases h2 : c = q
      · rw [if_pos h2, if_pos h2]; exact .inl rfl
      · rw [if_neg h2, if_neg h2]
        by_cases h3 : c = 92
        · rw [if_pos h3, if_pos h3]
          by_cases h4 : r.head? = some 10
          · rw [if_pos h4]
            right
            refine ⟨rfl, ?_⟩
            rcases liF_le q k (p + 2) (r.drop 1) with h | ⟨h5, h6⟩
            · exact .inl h
            · right
              cases r with
              | nil => simp at h4
              | cons d r =>
                simp at h4
                subst h4
                generalize liF q k (p + 2) (List.drop 1 (10 :: r)) = N at *
                obtain ⟨m, hm⟩ : ∃ m, N - p = m + 2 := ⟨N - p - 2, by omega⟩
                rw [hm]
                simp
          · rw [if_neg h4]
            rcases li_lr q k (p + 2) (r.drop 1) with h | ⟨h5, h6⟩
            · exact .inl h
            · right
              refine ⟨h5, h6.imp id fun h => ?_⟩
              generalize liF q k (p + 2) (r.drop 1) = N at *
              rcases Nat.lt_or_ge (p + 2) N with h7 | h7
              · cases r with
                | nil => simp at h
                | cons d r =>
                  obtain ⟨m, hm⟩ : ∃ m, N - p = m + 2 := ⟨N - p - 2, by omega⟩
                  have hm2 : N - (p + 2) = m := by omega
                  rw [hm2] at h
                  rw [hm]
                  simp at h ⊢
                  exact .inr (.inr h)
              · have : N - (p + 2) = 0 := by omega
                rw [this] at h
                simp at h
        · rw [if_neg h3, if_neg h3]
          rcases li_lr q k (p + 1) r with h | ⟨h5, h6⟩
          · exact .inl h
          · right
            refine ⟨h5, h6.imp id fun h => ?_⟩
            generalize liF q k (p + 1) r = N at *
            rcases Nat.lt_or_ge (p + 1) N with h7 | h7
            · obtain ⟨m, hm⟩ : ∃ m, N - p = m + 1 := ⟨N - p - 1, by omega⟩
              have hm2 : N - (p + 1) = m := by omega
              rw [hm2] at h
              rw [hm]
              simp at h ⊢
              exact .inr h
            · have : N - (p + 1) = 0 := by omega
              rw [this] at h
              simp at h
/-- What the document's answer says of a literal at a place: its end is the program's, or both tell a fault. -/
theorem lit_agree (q : UInt8) (r : List UInt8) : (lrP q 1 r = liL (q :: r)) ∨ (lrP q 1 r = 0 ∧ (liL (q :: r) = 0 ∨ unqL ((q :: r).take (liL (q :: r))) = none)) := by
  have h := li_lr q r.length 1 r
  show lrF q r.length 1 r = liF q r.length 1 r ∨ (lrF q r.length 1 r = 0 ∧ (liF q r.length 1 r = 0 ∨ unqL ((q :: r).take (liF q r.length 1 r)) = none))
  rcases h with h | ⟨h1, h2 | h2⟩
  · exact .inl h
  · exact .inr ⟨h1, .inl h2⟩
  · refine .inr ⟨h1, ?_⟩
    generalize liF q r.length 1 r = N at *
    rcases Nat.eq_zero_or_pos N with h0 | h0
    · exact .inl h0
    · right
      cases hu : unqL ((q :: r).take N) with
      | none => rfl
      | some v =>
        have := unq_plain hu 10 (by
          obtain ⟨m, rfl⟩ : ∃ m, N = m + 1 := ⟨N - 1, by omega⟩
          simp at h2 ⊢
          exact .inr h2)
        exact absurd this (by decide)
theorem lrF_shift (q : UInt8) : ∀ (k p d : Nat) (l : List UInt8), lrF q k (p + d) l = if lrF q k p l = 0 then 0 else lrF q k p l + d
  | 0, p, d, l => by simp [lrF]
  | k + 1, p, d, [] => by simp [lrF]
  | k + 1, p, d, c :: r => by
    have i1 := lrF_shift q k (p + 2) d (r.drop 1)
    have i2 := lrF_shift q k (p + 1) d r
    rw [lrF, lrF]
    by_cases h1 : c = 10
    · rw [if_pos h1, if_pos h1]; rfl
    · rw [if_neg h1, if_neg h1]
      by_cases h2 : c = q
      · rw [if_pos h2, if_pos h2, if_neg (by omega)]; omega
      · rw [if_neg h2, if_neg h2]
        by_cases h3 : c = 92
        · rw [if_pos h3, if_pos h3]
          by_cases h4 : r.head? = some 10
          · rw [if_pos h4, if_pos h4]; rfl
          · rw [if_neg h4, if_neg h4, show p + d + 2 = p + 2 + d by omega, i1]
        · rw [if_neg h3, if_neg h3, show p + d + 1 = p + 1 + d by omega, i2]
/-- The document's end of a literal at a place p. -/
theorem lrP_at (q : UInt8) (p : Nat) (r : List UInt8) : lrP q (p + 1) r = if lrP q 1 r = 0 then 0 else lrP q 1 r + p := by
  have := lrF_shift q r.length 1 p r
  rw [show 1 + p = p + 1 by omega] at this
  exact this
/-- The number of a word, in both ways to tell it. -/
theorem num_agree (s : ByteArray) : (rvR (ntB s) (ntD s).data.toList < 0 ∧ vlR s = (0, 30)) ∨ (2147483648 < rvR (ntB s) (ntD s).data.toList ∧ vlR s = (0, 9)) ∨
    (0 ≤ rvR (ntB s) (ntD s).data.toList ∧ rvR (ntB s) (ntD s).data.toList ≤ 2147483648 ∧ vlR s = (rvR (ntB s) (ntD s).data.toList, 0)) := by
  have h0 : (ntD s).data.toList = [] ↔ (ntD s).size = 0 := by
    constructor
    · intro h; have := congrArg List.length h; simpa using this
    · intro h; exact List.eq_nil_of_length_eq_zero (by simpa using h)
  have hb := ntB_is s
  have hp := pv_nonneg (ntB s) (by omega) (ntD s).data.toList
  unfold vlR rvR
  by_cases h1 : (ntD s).data.toList = [] ∨ (ntD s).data.toList.all (fun x => decide (dgV x.toNat < ntB s)) = false
  · left
    rw [if_pos h1, if_pos (by rwa [h0] at h1)]
    exact ⟨by omega, rfl⟩
  · rw [if_neg h1, if_neg (by rwa [h0] at h1)]
    generalize pv (ntB s) (ntD s).data.toList = P at *
    by_cases h2 : 2147483648 < P
    · right; left
      rw [if_pos h2]
      exact ⟨by omega, rfl⟩
    · right; right
      rw [if_neg h2, Int.min_eq_left (by omega)]
      exact ⟨hp, by omega, rfl⟩
end Go.Proofs.YtoineheocipmaaaDoor
