/-
  Plain mathematics of UTF-8: what is valid is just the bytes of its runes. No program.
-/
import Derived.Test.YtjophmgpknpboaaDoorUtfBack
import Derived.Test.YtjophmgpknpboaaDoorLBack
namespace Go.Proofs.YtjophmgpknpboaaDoor
open Go.Lib
set_option linter.unusedVariables false
set_option linter.unusedSimpArgs false

theorem u8_eq {x : UInt8} {n : Nat} (h : x.toNat = n) : n.toUInt8 = x := by
  subst h
  show UInt8.ofNat x.toNat = x
  simp
theorem list_one (l : List UInt8) (h : 1 ≤ l.length) : l = l.getD 0 0 :: l.drop 1 := by
  match l, h with | a :: t, _ => simp
theorem list_two (l : List UInt8) (h : 2 ≤ l.length) : l = l.getD 0 0 :: l.getD 1 0 :: l.drop 2 := by
  match l, h with | a :: b :: t, _ => simp
theorem list_three (l : List UInt8) (h : 3 ≤ l.length) : l = l.getD 0 0 :: l.getD 1 0 :: l.getD 2 0 :: l.drop 3 := by
  match l, h with | a :: b :: c :: t, _ => simp
theorem list_four (l : List UInt8) (h : 4 ≤ l.length) : l = l.getD 0 0 :: l.getD 1 0 :: l.getD 2 0 :: l.getD 3 0 :: l.drop 4 := by
  match l, h with | a :: b :: c :: d :: t, _ => simp

/-- Where a rune begins, the bytes are its encoding, and then the rest. -/
theorem ok_dec (l : List UInt8) (hne : l ≠ []) (h : okL l = true) : ∃ n : Nat, rnB n = true ∧ l = encodeRune n ++ l.drop (encodeRune n).length := by
  have hl := List.length_pos_iff.2 hne
  have hfff : (decodeL l).1 = 65533 → (decodeL l).2 = 1 → ∃ n : Nat, rnB n = true ∧ l = encodeRune n ++ l.drop (encodeRune n).length := by
    intro e1 _
    unfold okL at h
    rw [e1] at h
    have hp : hasPrefix l [239, 191, 189] = true := by simpa using h
    refine ⟨65533, by decide, ?_⟩
    have e : encodeRune ((65533 : Nat) : Int) = [239, 191, 189] := by decide +kernel
    rw [e]
    unfold hasPrefix at hp
    obtain ⟨t, ht⟩ := List.isPrefixOf_iff_prefix.1 hp
    rw [← ht]
    simp
  have hb0 := (l.getD 0 0).toNat_lt
  have hb1 := (l.getD 1 0).toNat_lt
  have hb2 := (l.getD 2 0).toNat_lt
  have hb3 := (l.getD 3 0).toNat_lt
  rw [decodeL_N] at hfff
  unfold decodeN at hfff
  by_cases c1 : (l.getD 0 0).toNat < 128
  · refine ⟨(l.getD 0 0).toNat, by unfold rnB; rw [decide_eq_true_eq]; omega, ?_⟩
    have e : encodeRune (((l.getD 0 0).toNat : Nat) : Int) = [l.getD 0 0] := by
      unfold encodeRune
      rw [encodeRuneZ_one (by omega) (by omega)]
      simp only [List.map_cons, List.map_nil, Int.toNat_natCast]
      rw [u8_eq rfl]
    rw [e]
    exact list_one l (by omega)
  rw [if_neg c1] at hfff
  by_cases c2 : (l.getD 0 0).toNat / 32 = 6 ∧ (1 < l.length ∧ (l.getD 1 0).toNat / 64 = 2)
  · rw [if_pos c2] at hfff
    obtain ⟨a, b, c⟩ := c2
    by_cases d : (l.getD 0 0).toNat % 32 * 64 + (l.getD 1 0).toNat % 64 ≥ 128
    · refine ⟨(l.getD 0 0).toNat % 32 * 64 + (l.getD 1 0).toNat % 64, by unfold rnB; rw [decide_eq_true_eq]; omega, ?_⟩
      generalize hn : (l.getD 0 0).toNat % 32 * 64 + (l.getD 1 0).toNat % 64 = n at *
      have e : encodeRune ((n : Nat) : Int) = [l.getD 0 0, l.getD 1 0] := by
        unfold encodeRune
        rw [encodeRuneZ_two (by omega) (by omega)]
        simp only [List.map_cons, List.map_nil]
        rw [u8_eq (x := l.getD 0 0) (by omega), u8_eq (x := l.getD 1 0) (by omega)]
      rw [e]
      exact list_two l (by omega)
    · rw [if_neg d] at hfff
      exact hfff rfl rfl
  rw [if_neg c2] at hfff
  by_cases c3 : (l.getD 0 0).toNat / 16 = 14 ∧ (1 < l.length ∧ (l.getD 1 0).toNat / 64 = 2) ∧ (2 < l.length ∧ (l.getD 2 0).toNat / 64 = 2)
  · rw [if_pos c3] at hfff
    obtain ⟨a, ⟨b, c⟩, f, g⟩ := c3
    generalize hn : (l.getD 0 0).toNat % 16 * 4096 + (l.getD 1 0).toNat % 64 * 64 + (l.getD 2 0).toNat % 64 = n at *
    by_cases d : n ≥ 2048 ∧ (n < 55296 ∨ (57344 ≤ n ∧ n ≤ 1114111))
    · refine ⟨n, by unfold rnB; rw [decide_eq_true_eq]; omega, ?_⟩
      have e : encodeRune ((n : Nat) : Int) = [l.getD 0 0, l.getD 1 0, l.getD 2 0] := by
        unfold encodeRune
        rw [encodeRuneZ_three (by omega)]
        simp only [List.map_cons, List.map_nil]
        rw [u8_eq (x := l.getD 0 0) (by omega), u8_eq (x := l.getD 1 0) (by omega), u8_eq (x := l.getD 2 0) (by omega)]
      rw [e]
      exact list_three l (by omega)
    · rw [if_neg d] at hfff
      exact hfff rfl rfl
  rw [if_neg c3] at hfff
  by_cases c4 : (l.getD 0 0).toNat / 8 = 30 ∧ (1 < l.length ∧ (l.getD 1 0).toNat / 64 = 2) ∧ (2 < l.length ∧ (l.getD 2 0).toNat / 64 = 2) ∧ (3 < l.length ∧ (l.getD 3 0).toNat / 64 = 2)
  · rw [if_pos c4] at hfff
    obtain ⟨a, ⟨b, c⟩, ⟨f, g⟩, i, j⟩ := c4
    generalize hn : (l.getD 0 0).toNat % 8 * 262144 + (l.getD 1 0).toNat % 64 * 4096 + (l.getD 2 0).toNat % 64 * 64 + (l.getD 3 0).toNat % 64 = n at *
    by_cases d : n ≥ 65536 ∧ (n < 55296 ∨ (57344 ≤ n ∧ n ≤ 1114111))
    · refine ⟨n, by unfold rnB; rw [decide_eq_true_eq]; omega, ?_⟩
      have e : encodeRune ((n : Nat) : Int) = [l.getD 0 0, l.getD 1 0, l.getD 2 0, l.getD 3 0] := by
        unfold encodeRune
        rw [encodeRuneZ_four (by omega) (by omega)]
        simp only [List.map_cons, List.map_nil]
        rw [u8_eq (x := l.getD 0 0) (by omega), u8_eq (x := l.getD 1 0) (by omega), u8_eq (x := l.getD 2 0) (by omega), u8_eq (x := l.getD 3 0) (by omega)]
      rw [e]
      exact list_four l (by omega)
    · rw [if_neg d] at hfff
      exact hfff rfl rfl
  rw [if_neg c4] at hfff
  exact hfff rfl rfl

/-- What is valid is just the bytes of its runes. -/
theorem encs_rn : ∀ (k : Nat) (l : List UInt8) (pos : Nat), l.length ≤ k → bkL pos l < 0 → encs (rnL l) = l ∧ ∀ r ∈ rnL l, rnB r = true
  | 0, l, pos, hk, _ => by
    obtain rfl : l = [] := List.eq_nil_of_length_eq_zero (by omega)
    rw [rnL_nil]; exact ⟨rfl, by simp⟩
  | k + 1, l, pos, hk, h => by
    by_cases hl : l = []
    · subst hl; rw [rnL_nil]; exact ⟨rfl, by simp⟩
    · have hok : okL l = true := by
        rw [bkL_step _ _ hl] at h
        cases q : okL l
        · rw [q] at h; simp at h; omega
        · rfl
      obtain ⟨n, hn, he⟩ := ok_dec l hl hok
      generalize hr : l.drop (encodeRune n).length = r at he
      subst he
      rw [bk_enc n hn] at h
      have hlen := enc_len n
      obtain ⟨h1, h2⟩ := encs_rn k r _ (by simp at hk; omega) h
      rw [rn_enc n hn]
      refine ⟨?_, fun x hx => ?_⟩
      · show encodeRune n ++ encs (rnL r) = _
        rw [h1]
      · rcases List.mem_cons.1 hx with rfl | hx
        · exact hn
        · exact h2 x hx
/-- Up to where bytes break off they are valid, and no rune begins there. -/
theorem bk_cut : ∀ (k : Nat) (l : List UInt8) (pos : Nat) (z : Int), l.length ≤ k → bkL pos l = z → 0 ≤ z → ∃ j : Nat, z = (pos : Int) + j ∧ j < l.length ∧ bkL pos (l.take j) = -1 ∧ okL (l.drop j) = false
  | 0, l, pos, z, hk, h, hz => by
    obtain rfl : l = [] := List.eq_nil_of_length_eq_zero (by omega)
    rw [bkL_nil] at h; omega
  | k + 1, l, pos, z, hk, h, hz => by
    by_cases hl : l = []
    · subst hl; rw [bkL_nil] at h; omega
    · have hlp := List.length_pos_iff.2 hl
      cases q : okL l
      · rw [bkL_step _ _ hl, q] at h
        refine ⟨0, by simpa using h.symm, hlp, rfl, by simpa using q⟩
      · obtain ⟨n, hn, he⟩ := ok_dec l hl q
        generalize hr : l.drop (encodeRune n).length = r at he
        subst he
        rw [bk_enc n hn] at h
        have hlen := enc_len n
        obtain ⟨j, h1, h2, h3, h4⟩ := bk_cut k r _ z (by simp at hk; omega) h hz
        refine ⟨(encodeRune n).length + j, by omega, by simp; omega, ?_, ?_⟩
        · rw [List.take_length_add_append, bk_enc n hn]
          exact h3
        · rw [List.drop_length_add_append]
          exact h4
/-- Where no rune begins, none begins in fewer bytes. -/
theorem not_ok_take (l : List UInt8) (h : okL l = false) (n : Nat) (hn : 1 ≤ n) (hl : n ≤ l.length) : 0 ≤ bkL 0 (l.take n) := by
  have hne : l.take n ≠ [] := by
    intro e
    have : (l.take n).length = 0 := by rw [e]; rfl
    rw [List.length_take] at this; omega
  have hok : okL (l.take n) = false := by
    cases q : okL (l.take n)
    · rfl
    · obtain ⟨r, hr, he⟩ := ok_dec _ hne q
      have := List.take_append_drop n l
      rw [he, List.append_assoc] at this
      rw [← this, ok_enc r hr] at h
      cases h
  rw [bkL_step _ _ hne, hok]
  simp
end Go.Proofs.YtjophmgpknpboaaDoor
