/-
  tree: what a text's words are like.
-/
import Derived.Test.YthmdaejlopjjoaaGreatDoorLexW
import Derived.Test.YthmdaejlopjjoaaGreatDoorPaA
namespace Go.Proofs.YthmdaejlopjjoaaGreatDoor
open Go.RowKit
set_option linter.unusedVariables false
set_option linter.unusedSimpArgs false

theorem esc_row (z : Int) (x : Esc) (h : lookT escT z = some x) : (x.base ≠ 0 → 1 ≤ x.least) ∧ (x.r = true → 4 ≤ x.least) := by
  obtain ⟨k, hk⟩ := lookT_mem escT z x h
  simp only [escT, List.mem_cons, List.mem_nil_iff, or_false, Prod.mk.injEq] at hk
  rcases hk with ⟨_, rfl⟩ | ⟨_, rfl⟩ | ⟨_, rfl⟩ | ⟨_, rfl⟩ | ⟨_, rfl⟩ | ⟨_, rfl⟩ | ⟨_, rfl⟩ | ⟨_, rfl⟩ | ⟨_, rfl⟩ | ⟨_, rfl⟩ | ⟨_, rfl⟩ | ⟨_, rfl⟩ | ⟨_, rfl⟩ | ⟨_, rfl⟩ | ⟨_, rfl⟩ | ⟨_, rfl⟩ | ⟨_, rfl⟩ | ⟨_, rfl⟩ | ⟨_, rfl⟩ | ⟨_, rfl⟩ | ⟨_, rfl⟩ | ⟨_, rfl⟩ | ⟨_, rfl⟩ <;> simp
theorem escL_short (l : List UInt8) : (escL l).1.length ≤ (escL l).2 := by
  have h4 := escL_len l
  cases l with
  | nil => simp [escL]
  | cons c r =>
    rw [escL] at h4 ⊢
    cases hx : lookT escT c.toNat with
    | none => simp
    | some x =>
      rw [hx] at h4
      simp only at h4 ⊢
      have hf := esc_row _ _ hx
      unfold escX at h4 ⊢
      by_cases hb : x.base = 0
      · rw [if_pos hb]; simp
      · rw [if_neg hb] at h4 ⊢
        generalize nmF x.base x.most 0 (List.drop x.skip (c :: r)) = q at *
        unfold escN at h4 ⊢
        by_cases h1 : q.2 < x.least
        · rw [if_pos h1]; simp
        · rw [if_neg h1] at h4 ⊢
          have := hf.1 hb
          by_cases h2 : (x.r && rnB q.1) = true
          · rw [if_pos h2] at h4 ⊢
            have h3 : x.r = true := by
              cases hr : x.r
              · rw [hr] at h2; simp at h2
              · rfl
            have := hf.2 h3
            simp only at h4 ⊢
            omega
          · rw [if_neg h2]
            split
            · simp; omega
            · simp
theorem uq_len (q : Int) : ∀ (n : Nat) (l r : List UInt8), uqF q n l = some r → r.length ≤ l.length
  | n, [], r, h => by
    have : uqF q n [] = some [] := by cases n <;> rfl
    rw [this] at h; injection h with h; subst h; simp
  | 0, c :: l, r, h => by cases h
  | n + 1, c :: l, r, h => by
    rw [uqF] at h
    split at h
    · cases h
    · split at h
      · obtain ⟨r', h1, h2⟩ := Option.map_eq_some_iff.1 h
        have := uq_len q n l r' h1
        subst h2
        simp; omega
      · split at h
        · cases h
        · obtain ⟨r', h1, h2⟩ := Option.map_eq_some_iff.1 h
          have h3 := uq_len q n _ r' h1
          have h4 := escL_short l
          have h5 := escL_le l
          subst h2
          rw [List.length_drop] at h3
          simp; omega
theorem unq_len {l r : List UInt8} (h : unqL l = some r) : r.length ≤ l.length := by
  unfold unqL at h
  split at h
  · cases h
  · split at h
    · cases h
    · split at h
      · cases h
      · have := uq_len _ _ _ _ h
        simp at this
        omega
theorem vl_range {s : ByteArray} (h : (vlR s).2 = 0) : 0 ≤ (vlR s).1 ∧ (vlR s).1 ≤ 2147483648 := by
  unfold vlR at h ⊢
  split at h
  · cases h
  · rename_i h1
    rw [if_neg h1]
    split at h
    · cases h
    · rename_i h2
      rw [if_neg h2]
      have hb : (1 : Int) ≤ ntB s := by rcases ntB_is s with e | e | e <;> rw [e] <;> decide
      exact ⟨pv_nonneg _ hb _, by simp only; omega⟩
theorem tk_wdb {s : ByteArray} {p : Nat} (hp : p < s.size) (hs : s.size ≤ 65536) (h : (tkR s p s[p]).e = 0) : WdB ⟨(tkR s p s[p]).k, p, (tkR s p s[p]).t, (tkR s p s[p]).n⟩ ∧ (tkR s p s[p]).k ≠ 0 := by
  have hext : ∀ a b, (s.extract a b).size ≤ 65536 := by
    intro a b
    rw [ByteArray.size_extract]
    omega
  have hl : (s.data.toList.drop p).length ≤ 65536 := by simp; have : s.data.size = s.size := rfl; omega
  unfold tkR at h ⊢
  by_cases h0 : clN s[p] = 0
  · simp only [if_pos h0] at h ⊢
    split at h
    · rename_i hi
      rw [if_pos hi]
      exact ⟨⟨hext _ _, by simp, by simp, by simp only; omega, by simp⟩, by simp⟩
    · cases h
  · simp only [if_neg h0] at h ⊢
    by_cases h1 : clN s[p] = 1
    · simp only [if_pos h1] at h ⊢
      split at h
      · rename_i hi
        rw [if_pos hi]
        have := vl_range hi
        exact ⟨⟨hext _ _, this.1, this.2, by simp only; omega, by simp⟩, by simp⟩
      · rename_i hi
        simp only at h
        exact absurd h hi
    · simp only [if_neg h1] at h ⊢
      by_cases h2 : clN s[p] = 2
      · simp only [if_pos h2] at h ⊢
        split at h
        · cases h
        · rename_i hi
          rw [if_neg hi]
          split at h
          · cases h
          · rename_i v hv
            have := unq_len hv
            refine ⟨⟨?_, by simp, by simp, by simp only; omega, by simp⟩, by simp⟩
            show v.toArray.size ≤ 65536
            simp at this ⊢
            simp at hl
            omega
      · simp only [if_neg h2] at h ⊢
        by_cases h3 : clN s[p] = 3
        · simp only [if_pos h3] at h ⊢
          exact ⟨⟨hext _ _, by simp, by simp, by simp only; omega, by simp⟩, by simp⟩
        · simp only [if_neg h3] at h
          cases h
theorem wdF_gd (s : ByteArray) (hs : s.size ≤ 65536) : ∀ (k p : Nat), p ≤ s.size → s.size - p < k → (wdF s k p).e = 0 → Gd (wdF s k p).l ∧ (wdF s k p).l.length ≤ s.size - p + 1
  | 0, p, _, h, _ => by omega
  | k + 1, p, hp, hk, h => by
    rw [wdF] at h ⊢
    have hle := skL_le (s.data.toList.drop p).length (s.data.toList.drop p)
    have hdl : (s.data.toList.drop p).length = s.size - p := by simp
    have hq : p + (skL (s.data.toList.drop p)).1 ≤ s.size := by unfold skL; omega
    have hpq : p ≤ p + (skL (s.data.toList.drop p)).1 := Nat.le_add_right _ _
    generalize p + (skL (s.data.toList.drop p)).1 = q at *
    by_cases h1 : (skL (s.data.toList.drop p)).2 = false
    · rw [if_pos h1] at h; cases h
    rw [if_neg h1] at h ⊢
    by_cases h2 : q = s.size
    · rw [if_pos h2]
      exact ⟨⟨⟨show (0 : Nat) ≤ 65536 by omega, by simp, by simp, by simp only; omega, by simp⟩, rfl, rfl⟩, by simp⟩
    rw [if_neg h2] at h ⊢
    have hqs : q < s.size := by omega
    have hgd : s.data.toList.getD q 0 = s[q] := by
      rw [List.getD_eq_getElem?_getD, List.getElem?_eq_getElem (by simpa using hqs)]; rfl
    rw [hgd] at h ⊢
    by_cases h3 : (tkR s q s[q]).e ≠ 0
    · rw [if_pos h3] at h; exact absurd h h3
    rw [if_neg h3] at h ⊢
    have h3' : (tkR s q s[q]).e = 0 := by simpa using h3
    obtain ⟨z1, z2⟩ := tk_size hqs h3'
    obtain ⟨w1, w2⟩ := tk_wdb hqs hs h3'
    by_cases h4 : (wdF s k (q + (tkR s q s[q]).z)).e ≠ 0
    · rw [if_pos h4] at h; exact absurd h h4
    rw [if_neg h4]
    have h4' : (wdF s k (q + (tkR s q s[q]).z)).e = 0 := by simpa using h4
    obtain ⟨g1, g2⟩ := wdF_gd s hs k _ z2 (by omega) h4'
    generalize (wdF s k (q + (tkR s q s[q]).z)).l = l at *
    cases l with
    | nil => exact g1.elim
    | cons y l => exact ⟨⟨w1, w2, g1⟩, by simp at g2 ⊢; omega⟩
theorem words_gd {s : ByteArray} (h : (wordsR s).e = 0) : Gd (wordsR s).l ∧ (wordsR s).l.length ≤ 65537 := by
  unfold wordsR at h ⊢
  by_cases hs : 65536 < s.size
  · rw [if_pos hs] at h; cases h
  · rw [if_neg hs] at h ⊢
    obtain ⟨h1, h2⟩ := wdF_gd s (by omega) (s.size + 1) 0 (by omega) (by omega) h
    exact ⟨h1, by omega⟩
end Go.Proofs.YthmdaejlopjjoaaGreatDoor
