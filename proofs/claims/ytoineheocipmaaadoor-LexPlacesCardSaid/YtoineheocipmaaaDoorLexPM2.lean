/-
  Plain mathematics of lex: the words of a text, as LexPlaces asks about them. No program.
-/
import Derived.Test.YtoineheocipmaaaDoorLexPM
namespace Go.Proofs.YtoineheocipmaaaDoor
set_option linter.unusedVariables false
set_option linter.unusedSimpArgs false

theorem wd_bad (s : ByteArray) : ∀ (k p : Nat), p ≤ s.size → (wdF s k p).e ≠ 0 → (wdF s k p).l = [] ∧ (wdF s k p).at_ ≤ s.size
  | 0, p, _, h => absurd rfl h
  | k + 1, p, hp, h => by
    have hle : p + (skL (s.data.toList.drop p)).1 ≤ s.size := by
      have := skL_le (s.data.toList.drop p).length (s.data.toList.drop p)
      have h2 : (s.data.toList.drop p).length = s.size - p := by simp
      unfold skL
      omega
    rw [wdF] at h ⊢
    generalize hn : (skL (s.data.toList.drop p)).1 = n at *
    by_cases h1 : (skL (s.data.toList.drop p)).2 = false
    · rw [if_pos h1]; exact ⟨rfl, hle⟩
    · rw [if_neg h1] at h ⊢
      by_cases h2 : p + n = s.size
      · rw [if_pos h2] at h; exact absurd rfl h
      · rw [if_neg h2] at h ⊢
        have hlt : p + n < s.size := by omega
        have hg : s.data.toList.getD (p + n) 0 = s[p + n] := by
          rw [List.getD_eq_getElem?_getD, List.getElem?_eq_getElem (by simpa using hlt)]; rfl
        rw [hg] at h ⊢
        by_cases h3 : (tkR s (p + n) s[p + n]).e ≠ 0
        · rw [if_pos h3]; exact ⟨rfl, hle⟩
        · rw [if_neg h3] at h ⊢
          have hz := (tk_size hlt (show (tkR s (p + n) s[p + n]).e = 0 by omega)).2
          by_cases h4 : (wdF s k (p + n + (tkR s (p + n) s[p + n]).z)).e ≠ 0
          · rw [if_pos h4]
            exact wd_bad s k _ hz h4
          · rw [if_neg h4] at h; exact absurd rfl h
theorem words_split (s : ByteArray) (hs : s.size ≤ 65536) : ((wordsR s).e ≠ 0 ∧ (wordsR s).l = [] ∧ (wordsR s).at_ ≤ s.size) ∨ (wordsR s = ⟨0, 0, (wordsR s).l⟩ ∧ WdsOk s 0 (wordsR s).l) := by
  unfold wordsR
  rw [if_neg (by omega)]
  by_cases h : (wdF s (s.size + 1) 0).e = 0
  · exact .inr ⟨wd_at0 s _ _ h, wds_ok s _ 0 (by omega) (by omega) h⟩
  · exact .inl ⟨h, wd_bad s _ 0 (by omega) h⟩
theorem words_cut {s : ByteArray} {l : List Wd} (hs : s.size ≤ 65536) (h : WdsOk s 0 l) (i : Nat) (hi : i < l.length) : wordsR (s.extract 0 l[i].p) = ⟨0, 0, l.take i ++ [⟨0, l[i].p, ⟨#[]⟩, 0⟩]⟩ := by
  have hup := (h.up i hi).2
  have hsz : (s.extract 0 l[i].p).size = l[i].p := by simp [ByteArray.size_extract]; omega
  unfold wordsR
  rw [if_neg (by omega), hsz]
  exact h.cut i hi _ (by omega)
/-- What the law asks of a word and the next one. -/
structure WdPl (s : ByteArray) (y : Wd) (q : Nat) : Prop where
  lt : y.p < q
  lt2 : y.p < s.size
  k0 : y.k ≠ 0
  lit : y.k = 3 → True
  t : y.k ≠ 3 → 0 < y.t.size ∧ y.p + y.t.size ≤ s.size ∧ s.extract y.p (y.p + y.t.size) = y.t
theorem WdsOk.at {s : ByteArray} {l : List Wd} (h : WdsOk s 0 l) (i : Nat) (hi : i + 1 < l.length) : WdPl s l[i] l[i + 1].p := by
  obtain ⟨l', hl, hall⟩ := h.last
  have hr := h.ris i hi
  have hm : l[i] ∈ l' := by
    have h2 : i < l'.length := by have := congrArg List.length hl; simp at this; omega
    have : l[i] = l'[i] := by
      have e : l[i]? = l'[i]? := by rw [hl, List.getElem?_append_left h2]
      rw [List.getElem?_eq_getElem (by omega), List.getElem?_eq_getElem h2] at e
      exact Option.some.inj e
    rw [this]; exact List.getElem_mem h2
  have ho := hall _ hm
  refine ⟨hr, ho.lt, ?_, fun _ => trivial, ho.t⟩
  rcases ho.k0 with h | h | h | h <;> omega
theorem WdsOk.end_ {s : ByteArray} {l : List Wd} (h : WdsOk s 0 l) : 0 < l.length ∧ l[l.length - 1]? = some ⟨0, s.size, ⟨#[]⟩, 0⟩ := by
  obtain ⟨l', hl, _⟩ := h.last
  have : l.length = l'.length + 1 := by rw [hl]; simp
  refine ⟨by omega, ?_⟩
  rw [this, hl, Nat.add_sub_cancel, List.getElem?_append_right (by omega)]
  simp
end Go.Proofs.YtoineheocipmaaaDoor
