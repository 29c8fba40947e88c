/-
  Plain mathematics: a record is read of its own bytes alone, whatever stands behind them.
-/
import Derived.Test.YtlckppmggklinaaBytes
namespace Go.Proofs.Ytlckppmggklinaa
set_option linter.unusedVariables false

theorem rv_pos : ∀ (l : List UInt8) (i acc : Nat), (rv l i acc).1 = 0 → i < (rv l i acc).2.2
  | [], i, acc, h => by simp [rv] at h
  | c :: r, i, acc, h => by
    rw [rv] at h ⊢
    by_cases h1 : i = 9 ∧ 1 < c.toNat
    · rw [if_pos h1] at h; simp at h
    rw [if_neg h1] at h ⊢
    by_cases h2 : c.toNat < 128
    · rw [if_pos h2]; simp
    rw [if_neg h2] at h ⊢
    have := rv_pos r (i + 1) _ h
    omega
theorem rv_append : ∀ (l m : List UInt8) (i acc : Nat), (rv l i acc).1 = 0 → rv (l ++ m) i acc = rv l i acc
  | [], m, i, acc, h => by simp [rv] at h
  | c :: r, m, i, acc, h => by
    rw [List.cons_append, rv, rv]
    rw [rv] at h
    by_cases h1 : i = 9 ∧ 1 < c.toNat
    · rw [if_pos h1, if_pos h1]
    rw [if_neg h1] at h
    rw [if_neg h1, if_neg h1]
    by_cases h2 : c.toNat < 128
    · rw [if_pos h2, if_pos h2]
    rw [if_neg h2] at h
    rw [if_neg h2, if_neg h2]
    exact rv_append r m (i + 1) _ h
theorem rv_take : ∀ (l : List UInt8) (n i acc : Nat), (rv l i acc).1 = 0 → (rv l i acc).2.2 ≤ i + n → rv (l.take n) i acc = rv l i acc
  | [], n, i, acc, h, _ => by simp [rv] at h
  | c :: r, 0, i, acc, h, h' => by have := rv_pos _ _ _ h; omega
  | c :: r, n + 1, i, acc, h, h' => by
    rw [List.take_succ_cons, rv, rv]
    rw [rv] at h h'
    by_cases h1 : i = 9 ∧ 1 < c.toNat
    · rw [if_pos h1, if_pos h1]
    rw [if_neg h1] at h h'
    rw [if_neg h1, if_neg h1]
    by_cases h2 : c.toNat < 128
    · rw [if_pos h2, if_pos h2]
    rw [if_neg h2] at h h'
    rw [if_neg h2, if_neg h2]
    exact rv_take r n (i + 1) _ h (by omega)

theorem fxR_append (k : Nat) (l m : List UInt8) (h : (fxR k l).1 = 0) : fxR k (l ++ m) = fxR k l := by
  unfold fxR at h ⊢
  by_cases hl : l.length < k
  · rw [if_pos hl] at h; simp at h
  · rw [if_neg hl, if_neg (by simp; omega), List.take_append_of_le_length (by omega)]
theorem fxR_take (k n : Nat) (l : List UInt8) (h : (fxR k l).1 = 0) (hn : k ≤ n) : fxR k (l.take n) = fxR k l := by
  unfold fxR at h ⊢
  by_cases hl : l.length < k
  · rw [if_pos hl] at h; simp at h
  · rw [if_neg hl, if_neg (by simp; omega), List.take_take, Nat.min_eq_left hn]
theorem ctR_parts (l : List UInt8) (h : (ctR l).1 = 0) : (rv l 0 0).1 = 0 ∧ (rv l 0 0).2.1 ≤ 1048576 ∧ (rv l 0 0).2.2 + (rv l 0 0).2.1 ≤ l.length ∧ ctR l = (0, 0, (l.drop (rv l 0 0).2.2).take (rv l 0 0).2.1, (rv l 0 0).2.2 + (rv l 0 0).2.1) := by
  unfold ctR at h ⊢
  simp only at h ⊢
  by_cases a1 : (rv l 0 0).1 ≠ 0
  · rw [if_pos a1] at h; exact absurd h a1
  rw [if_neg a1] at h ⊢
  by_cases a2 : 1048576 < (rv l 0 0).2.1
  · rw [if_pos a2] at h; simp at h
  rw [if_neg a2] at h ⊢
  by_cases a3 : l.length < (rv l 0 0).2.2 + (rv l 0 0).2.1
  · rw [if_pos a3] at h; simp at h
  rw [if_neg a3]
  exact ⟨by simpa using a1, by omega, by omega, rfl⟩
theorem ctR_mk (l : List UInt8) (h1 : (rv l 0 0).1 = 0) (h2 : (rv l 0 0).2.1 ≤ 1048576) (h3 : (rv l 0 0).2.2 + (rv l 0 0).2.1 ≤ l.length) :
    ctR l = (0, 0, (l.drop (rv l 0 0).2.2).take (rv l 0 0).2.1, (rv l 0 0).2.2 + (rv l 0 0).2.1) := by
  unfold ctR
  simp only
  rw [if_neg (by simpa using h1), if_neg (by omega), if_neg (by omega)]
theorem ctR_append (l m : List UInt8) (h : (ctR l).1 = 0) : ctR (l ++ m) = ctR l := by
  obtain ⟨h1, h2, h3, h4⟩ := ctR_parts l h
  have e := rv_append l m 0 0 h1
  rw [ctR_mk (l ++ m) (by rw [e]; exact h1) (by rw [e]; exact h2) (by rw [e, List.length_append]; omega), e, h4]
  rw [List.drop_append_of_le_length (by omega), List.take_append_of_le_length (by simp; omega)]
theorem ctR_take (n : Nat) (l : List UInt8) (h : (ctR l).1 = 0) (hn : (ctR l).2.2.2 ≤ n) : ctR (l.take n) = ctR l := by
  obtain ⟨h1, h2, h3, h4⟩ := ctR_parts l h
  rw [h4] at hn
  simp only at hn
  have e := rv_take l n 0 0 h1 (by omega)
  rw [ctR_mk (l.take n) (by rw [e]; exact h1) (by rw [e]; exact h2) (by rw [e, List.length_take]; omega), e, h4, List.drop_take, List.take_take, Nat.min_eq_left (by omega)]
theorem bdR_append (x : Nat) (l m : List UInt8) (h : (bdR x l).1 = 0) : bdR x (l ++ m) = bdR x l := by
  unfold bdR at h ⊢
  by_cases h0 : x = 0
  · rw [if_pos h0] at h; rw [if_pos h0, if_pos h0, rv_append l m 0 0 h]
  rw [if_neg h0] at h; rw [if_neg h0, if_neg h0]
  by_cases h1 : x = 1
  · rw [if_pos h1] at h; rw [if_pos h1, if_pos h1, fxR_append 8 l m h]
  rw [if_neg h1] at h; rw [if_neg h1, if_neg h1]
  by_cases h2 : x = 2
  · rw [if_pos h2] at h; rw [if_pos h2, if_pos h2, ctR_append l m h]
  rw [if_neg h2] at h; rw [if_neg h2, if_neg h2]
  by_cases h5 : x = 5
  · rw [if_pos h5] at h; rw [if_pos h5, if_pos h5, fxR_append 4 l m h]
  rw [if_neg h5] at h; simp at h
theorem bdR_take (x n : Nat) (l : List UInt8) (h : (bdR x l).1 = 0) (hn : (bdR x l).2.2.2 ≤ n) : bdR x (l.take n) = bdR x l := by
  unfold bdR at h hn ⊢
  by_cases h0 : x = 0
  · rw [if_pos h0] at h hn; rw [if_pos h0, if_pos h0, rv_take l n 0 0 h (by simpa using hn)]
  rw [if_neg h0] at h hn; rw [if_neg h0, if_neg h0]
  by_cases h1 : x = 1
  · rw [if_pos h1] at h hn; rw [if_pos h1, if_pos h1, fxR_take 8 n l h]
    unfold fxR at h hn
    by_cases hl : l.length < 8
    · rw [if_pos hl] at h; simp at h
    · rw [if_neg hl] at hn; exact hn
  rw [if_neg h1] at h hn; rw [if_neg h1, if_neg h1]
  by_cases h2 : x = 2
  · rw [if_pos h2] at h hn; rw [if_pos h2, if_pos h2, ctR_take n l h hn]
  rw [if_neg h2] at h hn; rw [if_neg h2, if_neg h2]
  by_cases h5 : x = 5
  · rw [if_pos h5] at h hn; rw [if_pos h5, if_pos h5, fxR_take 4 n l h]
    unfold fxR at h hn
    by_cases hl : l.length < 4
    · rw [if_pos hl] at h; simp at h
    · rw [if_neg hl] at hn; exact hn
  rw [if_neg h5] at h; simp at h

theorem nxR_parts (l : List UInt8) (h : (nxR l).1 = 0) : (rv l 0 0).1 = 0 ∧ ¬ ((rv l 0 0).2.1 / 8 = 0 ∨ 536870911 < (rv l 0 0).2.1 / 8) ∧ (bdR ((rv l 0 0).2.1 % 8) (l.drop (rv l 0 0).2.2)).1 = 0 ∧
    nxR l = (0, ⟨((rv l 0 0).2.1 / 8 : Nat), ((rv l 0 0).2.1 % 8 : Nat), (bdR ((rv l 0 0).2.1 % 8) (l.drop (rv l 0 0).2.2)).2.1, (bdR ((rv l 0 0).2.1 % 8) (l.drop (rv l 0 0).2.2)).2.2.1,
      l.take ((rv l 0 0).2.2 + (bdR ((rv l 0 0).2.1 % 8) (l.drop (rv l 0 0).2.2)).2.2.2)⟩, (rv l 0 0).2.2 + (bdR ((rv l 0 0).2.1 % 8) (l.drop (rv l 0 0).2.2)).2.2.2) := by
  unfold nxR at h ⊢
  by_cases a1 : (rv l 0 0).1 ≠ 0
  · rw [if_pos a1] at h; exact absurd h a1
  rw [if_neg a1] at h ⊢
  by_cases a2 : (rv l 0 0).2.1 / 8 = 0 ∨ 536870911 < (rv l 0 0).2.1 / 8
  · rw [if_pos a2] at h; simp at h
  rw [if_neg a2] at h ⊢
  by_cases a3 : (bdR ((rv l 0 0).2.1 % 8) (l.drop (rv l 0 0).2.2)).1 ≠ 0
  · rw [if_pos a3] at h; exact absurd h a3
  rw [if_neg a3]
  exact ⟨by simpa using a1, a2, by simpa using a3, rfl⟩
theorem nxR_mk (l : List UInt8) (h1 : (rv l 0 0).1 = 0) (h2 : ¬ ((rv l 0 0).2.1 / 8 = 0 ∨ 536870911 < (rv l 0 0).2.1 / 8)) (h3 : (bdR ((rv l 0 0).2.1 % 8) (l.drop (rv l 0 0).2.2)).1 = 0) :
    nxR l = (0, ⟨((rv l 0 0).2.1 / 8 : Nat), ((rv l 0 0).2.1 % 8 : Nat), (bdR ((rv l 0 0).2.1 % 8) (l.drop (rv l 0 0).2.2)).2.1, (bdR ((rv l 0 0).2.1 % 8) (l.drop (rv l 0 0).2.2)).2.2.1,
      l.take ((rv l 0 0).2.2 + (bdR ((rv l 0 0).2.1 % 8) (l.drop (rv l 0 0).2.2)).2.2.2)⟩, (rv l 0 0).2.2 + (bdR ((rv l 0 0).2.1 % 8) (l.drop (rv l 0 0).2.2)).2.2.2) := by
  unfold nxR
  rw [if_neg (by simpa using h1), if_neg h2, if_neg (by simpa using h3)]
theorem nxR_append (l m : List UInt8) (h : (nxR l).1 = 0) : nxR (l ++ m) = nxR l := by
  obtain ⟨h1, h2, h3, h4⟩ := nxR_parts l h
  have hb := (rv_bound l 0 0 (by omega) (by decide)).2 h1
  have hc := bdR_bound _ _ h3
  simp only [List.length_drop] at hc
  have e := rv_append l m 0 0 h1
  have e2 : (l ++ m).drop (rv l 0 0).2.2 = l.drop (rv l 0 0).2.2 ++ m := List.drop_append_of_le_length (by omega)
  have e3 := bdR_append ((rv l 0 0).2.1 % 8) (l.drop (rv l 0 0).2.2) m h3
  rw [nxR_mk (l ++ m) (by rw [e]; exact h1) (by rw [e]; exact h2) (by rw [e, e2, e3]; exact h3), e, e2, e3, h4, List.take_append_of_le_length (by omega)]
theorem nxR_take (l : List UInt8) (h : (nxR l).1 = 0) : nxR (l.take (nxR l).2.2) = nxR l := by
  obtain ⟨h1, h2, h3, h4⟩ := nxR_parts l h
  have hb := (rv_bound l 0 0 (by omega) (by decide)).2 h1
  have hc := bdR_bound _ _ h3
  simp only [List.length_drop] at hc
  have hk : (nxR l).2.2 = (rv l 0 0).2.2 + (bdR ((rv l 0 0).2.1 % 8) (l.drop (rv l 0 0).2.2)).2.2.2 := by rw [h4]
  rw [hk]
  generalize hK : (rv l 0 0).2.2 + (bdR ((rv l 0 0).2.1 % 8) (l.drop (rv l 0 0).2.2)).2.2.2 = K at *
  have e := rv_take l K 0 0 h1 (by omega)
  have e2 : (l.take K).drop (rv l 0 0).2.2 = (l.drop (rv l 0 0).2.2).take (K - (rv l 0 0).2.2) := List.drop_take
  have e3 := bdR_take ((rv l 0 0).2.1 % 8) (K - (rv l 0 0).2.2) (l.drop (rv l 0 0).2.2) h3 (by omega)
  rw [nxR_mk (l.take K) (by rw [e]; exact h1) (by rw [e]; exact h2) (by rw [e, e2, e3]; exact h3), e, e2, e3, h4, hK, List.take_take, Nat.min_self]

/-- A record that was read: it is read of its own bytes as it is. -/
def Good (r : Rc) : Prop := nxR r.raw = (0, r, r.raw.length)
theorem good_of (l : List UInt8) (h : (nxR l).1 = 0) : Good (nxR l).2.1 := by
  have hp := nxR_pos l h
  unfold Good
  rw [hp.2.2, nxR_take l h, List.length_take, Nat.min_eq_left hp.2.1]
  have e : nxR l = ((nxR l).1, (nxR l).2.1, (nxR l).2.2) := rfl
  rw [h] at e; exact e
theorem rcEq_refl (r : Rc) : rcEq r r = true := by simp [rcEq]
theorem rcEq_eq {r s : Rc} (h : rcEq r s = true) : r = s := by
  obtain ⟨a, b, c, d, e⟩ := r
  obtain ⟨a', b', c', d', e'⟩ := s
  simp [rcEq] at h
  obtain ⟨⟨⟨⟨rfl, rfl⟩, rfl⟩, rfl⟩, rfl⟩ := h
  rfl
theorem Good.chk {r : Rc} (h : Good r) : chkE r = 0 := by
  unfold chkE; rw [show nxR r.raw = _ from h]; simp [rcEq_refl]
theorem good_of_chk {r : Rc} (h : chkE r = 0) : Good r := by
  unfold chkE at h
  by_cases h1 : (nxR r.raw).1 = 0
  · rw [if_pos h1] at h
    by_cases h2 : rcEq (nxR r.raw).2.1 r = true
    · have e := rcEq_eq h2
      have hg := good_of r.raw h1
      rw [e] at hg; exact hg
    · rw [if_neg h2] at h; simp at h
  · rw [if_neg h1] at h; simp at h
/-- What a record's kind leaves empty. -/
theorem Good.form {r : Rc} (h : Good r) : (r.wire = 2 ∨ r.b = []) ∧ (r.wire = 2 → r.n = 0) := by
  have h0 : (nxR r.raw).1 = 0 := by rw [show nxR r.raw = _ from h]
  obtain ⟨_, _, h3, h4⟩ := nxR_parts r.raw h0
  have e : (nxR r.raw).2.1 = r := by rw [show nxR r.raw = _ from h]
  rw [h4] at e
  generalize (rv r.raw 0 0).2.1 % 8 = x at *
  generalize r.raw.drop (rv r.raw 0 0).2.2 = l at *
  have hw : r.wire = (x : Nat) := by rw [← e]
  have hb : r.b = (bdR x l).2.2.1 := by rw [← e]
  have hn : r.n = (bdR x l).2.1 := by rw [← e]
  rw [hw, hb, hn]
  unfold bdR
  by_cases h0 : x = 0
  · subst h0; simp
  rw [if_neg h0]
  by_cases h1 : x = 1
  · subst h1; rw [if_pos rfl]; unfold fxR; split <;> simp
  rw [if_neg h1]
  by_cases h2 : x = 2
  · subst h2; rw [if_pos rfl]
    refine ⟨.inl rfl, fun _ => ?_⟩
    unfold ctR; simp only
    split
    · rfl
    · split
      · rfl
      · split <;> rfl
  rw [if_neg h2]
  by_cases h5 : x = 5
  · subst h5; rw [if_pos rfl]; unfold fxR; split <;> simp
  rw [if_neg h5]
  refine ⟨.inr rfl, fun h => by omega⟩

theorem spL_good : ∀ (k : Nat) (l : List UInt8), l.length ≤ k → (spL l).1 = 0 → (∀ r ∈ (spL l).2, Good r) ∧ rawCat (spL l).2 = l
  | 0, l, hk, _ => by
    have hl : l = [] := List.eq_nil_of_length_eq_zero (by omega)
    subst hl; rw [spL_nil]; simp [rawCat]
  | k + 1, l, hk, h => by
    by_cases hl : l = []
    · subst hl; rw [spL_nil]; simp [rawCat]
    by_cases he : (nxR l).1 = 0
    · have hp := nxR_pos l he
      rw [spL_ok l hl he] at h ⊢
      by_cases h2 : (spL (l.drop (nxR l).2.2)).1 ≠ 0
      · rw [if_pos h2] at h; exact absurd h h2
      rw [if_neg h2]
      obtain ⟨g1, g2⟩ := spL_good k (l.drop (nxR l).2.2) (by simp; omega) (by simpa using h2)
      refine ⟨?_, ?_⟩
      · intro r hr
        simp only [List.mem_cons] at hr
        rcases hr with rfl | hr
        · exact good_of l he
        · exact g1 r hr
      · show (nxR l).2.1.raw ++ rawCat (spL (l.drop (nxR l).2.2)).2 = l
        rw [g2, hp.2.2, List.take_append_drop]
    · rw [spL_bad l hl he] at h; exact absurd h he
theorem spL_cat : ∀ (rs : List Rc), (∀ r ∈ rs, Good r) → spL (rawCat rs) = (0, rs)
  | [], _ => by simp [rawCat, spL_nil]
  | r :: rs, h => by
    have hg := h r (by simp)
    have h0 : (nxR r.raw).1 = 0 := by rw [show nxR r.raw = _ from hg]
    have hap := nxR_append r.raw (rawCat rs) h0
    have hp := nxR_pos r.raw h0
    have hne : r.raw ++ rawCat rs ≠ [] := by
      intro e; have := congrArg List.length e; simp at this
      have h3 : (nxR r.raw).2.2 = r.raw.length := by rw [show nxR r.raw = _ from hg]
      rw [this.1] at hp h3; simp at hp h3; omega
    have ih := spL_cat rs (fun x hx => h x (by simp [hx]))
    have e1 : nxR (r.raw ++ rawCat rs) = (0, r, r.raw.length) := by rw [hap]; exact hg
    show spL (r.raw ++ rawCat rs) = _
    rw [spL_ok _ hne (by rw [e1]), e1]
    simp only [List.drop_left]
    rw [ih]; simp
theorem good_pos {r : Rc} (h : Good r) : 0 < r.raw.length := by
  have h0 : (nxR r.raw).1 = 0 := by rw [show nxR r.raw = _ from h]
  have := (nxR_pos r.raw h0).1
  rwa [show nxR r.raw = _ from h] at this
theorem rawCat_mem_le : ∀ (rs : List Rc) (r : Rc), r ∈ rs → r.raw.length ≤ (rawCat rs).length
  | x :: rs, r, h => by
    show _ ≤ (x.raw ++ rawCat rs).length
    rw [List.length_append]
    simp only [List.mem_cons] at h
    rcases h with rfl | h
    · omega
    · have := rawCat_mem_le rs r h; omega
theorem rawCat_len : ∀ (rs : List Rc), (∀ r ∈ rs, 0 < r.raw.length) → rs.length ≤ (rawCat rs).length
  | [], _ => by simp
  | x :: rs, h => by
    show _ ≤ (x.raw ++ rawCat rs).length
    have h1 := h x (by simp)
    have h2 := rawCat_len rs (fun r hr => h r (by simp [hr]))
    rw [List.length_append, List.length_cons]; omega
theorem byR_good {rs : List Rc} (h : ∀ r ∈ rs, Good r) : byR rs = if 1048576 < (rawCat rs).length then (5, []) else (0, rawCat rs) := by
  unfold byR; rw [if_pos (fun r hr => (h r hr).chk)]
end Go.Proofs.Ytlckppmggklinaa
