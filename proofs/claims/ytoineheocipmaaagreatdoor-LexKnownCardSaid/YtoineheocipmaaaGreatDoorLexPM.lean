/-
  Plain mathematics of lex: what is cut off at a word's place has the words ahead of it. No program.
-/
import Derived.Test.YtoineheocipmaaaGreatDoorLexW
namespace Go.Proofs.YtoineheocipmaaaGreatDoor
set_option linter.unusedVariables false
set_option linter.unusedSimpArgs false

theorem runL_take : ∀ (l : List UInt8) (j : Nat), (runL l).length ≤ j → runL (l.take j) = runL l
  | [], j, _ => by simp
  | c :: r, j, h => by
    rw [runL_cons] at h ⊢
    cases hw : wdZ c.toNat
    · rw [hw] at h
      cases j with
      | zero => rfl
      | succ j => rw [List.take_succ_cons, runL_cons, hw]; simp
    · rw [hw, if_pos rfl] at h
      simp only [List.length_cons] at h
      obtain ⟨j, rfl⟩ : ∃ j', j = j' + 1 := ⟨j - 1, by omega⟩
      rw [List.take_succ_cons, runL_cons, hw, if_pos rfl, if_pos rfl, runL_take r j (by omega)]
theorem liF_take (q : UInt8) : ∀ (k p j : Nat) (l : List UInt8), liF q k p l ≠ 0 → liF q k p l ≤ p + j → liF q k p (l.take j) = liF q k p l
  | 0, p, j, l, h, _ => by simp [liF] at h
  | k + 1, p, j, [], h, _ => by simp [liF] at h
  | k + 1, p, j, c :: r, h, hj => by
    have hle := liF_le q (k + 1) p (c :: r)
    obtain ⟨j, rfl⟩ : ∃ j', j = j' + 1 := ⟨j - 1, by rcases hle with h1 | ⟨h1, _⟩ <;> omega⟩
    rw [List.take_succ_cons, liF, liF]
    rw [liF] at h hj
    by_cases h1 : c = 10
    · rw [if_pos h1, if_pos h1]
    · rw [if_neg h1] at h hj ⊢
      rw [if_neg h1]
      by_cases h2 : c = q
      · rw [if_pos h2, if_pos h2]
      · rw [if_neg h2] at h hj ⊢
        rw [if_neg h2]
        by_cases h3 : c = 92
        · rw [if_pos h3] at h hj ⊢
          rw [if_pos h3]
          have hle2 := liF_le q k (p + 2) (r.drop 1)
          obtain ⟨j, rfl⟩ : ∃ j', j = j' + 1 := ⟨j - 1, by rcases hle2 with h1 | ⟨h1, _⟩ <;> omega⟩
          have : (r.take (j + 1)).drop 1 = (r.drop 1).take j := by rw [List.drop_take]; rfl
          rw [this]
          exact liF_take q k (p + 2) j _ h (by omega)
        · rw [if_neg h3] at h hj ⊢
          rw [if_neg h3]
          exact liF_take q k (p + 1) j r h (by omega)
theorem liL_take (l : List UInt8) (j : Nat) (h : liL l ≠ 0) (hj : liL l ≤ j) : liL (l.take j) = liL l := by
  cases l with
  | nil => exact absurd rfl h
  | cons q r =>
    have h1 : 2 ≤ liL (q :: r) := by
      rcases liF_le q r.length 1 r with h1 | ⟨h1, _⟩
      · exact absurd h1 h
      · exact h1
    obtain ⟨j, rfl⟩ : ∃ j', j = j' + 1 := ⟨j - 1, by omega⟩
    rw [List.take_succ_cons]
    show liF q (r.take j).length 1 (r.take j) = liF q r.length 1 r
    have h' : liF q r.length 1 r ≠ 0 := h
    have hj' : liF q r.length 1 r ≤ j + 1 := hj
    rw [liF_fuel q (r.take j).length r.length 1 (r.take j) (Nat.le_refl _) (by simp; omega)]
    exact liF_take q r.length 1 j r h' (by omega)
theorem lnL_take : ∀ (l : List UInt8) (j : Nat), lnL (l.take j) = min (lnL l) j
  | [], j => by simp [lnL]
  | c :: r, 0 => by simp [lnL]
  | c :: r, j + 1 => by
    rw [List.take_succ_cons, lnL, lnL, lnL_take r j]
    split <;> omega
theorem pre_take (l : List UInt8) (a b : UInt8) (j : Nat) (h : Lib.hasPrefix l [a, b] = false) : Lib.hasPrefix (l.take j) [a, b] = false := by
  cases hh : Lib.hasPrefix (l.take j) [a, b]
  · rfl
  · unfold Lib.hasPrefix at h hh
    have := List.isPrefixOf_iff_prefix.1 hh
    have h2 := this.trans (List.take_prefix j l)
    rw [List.isPrefixOf_iff_prefix.2 h2] at h
    cases h
theorem pre_take' (l : List UInt8) (a b : UInt8) (j : Nat) (hj : 2 ≤ j) (h : Lib.hasPrefix l [a, b] = true) : Lib.hasPrefix (l.take j) [a, b] = true := by
  unfold Lib.hasPrefix at h ⊢
  have := List.isPrefixOf_iff_prefix.1 h
  rw [List.isPrefixOf_iff_prefix]
  rw [List.prefix_take_iff]
  exact ⟨this, hj⟩
/-- What is found is found in a text that is cut behind it. -/
theorem index_cut (l : List UInt8) (i j : Nat) (hj : i + 2 ≤ j) (h : Lib.index l [42, 47] = i) : Lib.index (l.take j) [42, 47] = i := by
  rcases Lib.index_spec l [42, 47] with ⟨h1, _⟩ | ⟨i', h1, h2, h3, h4⟩
  · omega
  · obtain rfl : i' = i := by omega
    refine Lib.index_first (by have := Lib.index_room l [42, 47] (by omega); simp at this; simp; omega) ?_ ?_
    · unfold Lib.occAt at h3 ⊢
      rw [List.drop_take]
      exact pre_take' (l.drop i') 42 47 (j - i') (by omega) h3
    · intro k hk
      have := h4 k hk
      unfold Lib.occAt at this ⊢
      rw [List.drop_take]
      exact pre_take (l.drop k) 42 47 (j - k) this
theorem sk_cut : ∀ (k : Nat) (l : List UInt8) (n j : Nat), l.length ≤ k → skF k l = (n, true) → n ≤ j → skF k (l.take j) = (n, true)
  | 0, l, n, j, hk, h, _ => by
    rw [skF] at h ⊢
    exact h
  | k + 1, [], n, j, hk, h, _ => by simpa using h
  | k + 1, c :: r, n, j, hk, h, hj => by
    simp only [List.length_cons] at hk
    rw [skF] at h
    cases h1 : blB c
    · rw [h1, if_neg (by simp)] at h
      cases h2 : Lib.hasPrefix (c :: r) [47, 47]
      · rw [h2, if_neg (by simp)] at h
        cases h3 : Lib.hasPrefix (c :: r) [47, 42]
        · rw [h3, if_neg (by simp)] at h
          obtain rfl : 0 = n := congrArg Prod.fst h
          cases j with
          | zero => rfl
          | succ j =>
            rw [List.take_succ_cons, skF, h1, if_neg (by simp)]
            have e2 := pre_take (c :: r) 47 47 (j + 1) h2
            have e3 := pre_take (c :: r) 47 42 (j + 1) h3
            rw [List.take_succ_cons] at e2 e3
            rw [e2, if_neg (by simp), e3, if_neg (by simp)]
        · rw [h3, if_pos rfl] at h
          by_cases h4 : Lib.index ((c :: r).drop 2) [42, 47] < 0
          · rw [if_pos h4] at h; simp at h
          · rw [if_neg h4] at h
            obtain ⟨i, hi⟩ := Int.eq_ofNat_of_zero_le (show 0 ≤ Lib.index ((c :: r).drop 2) [42, 47] by omega)
            have hrm := remark_room hi
            rw [hi, Int.toNat_natCast] at h
            obtain ⟨e1, e2⟩ := Prod.mk.inj h
            have e1 : (skF k ((c :: r).drop (4 + i))).1 + (4 + i) = n := e1
            have e2 : (skF k ((c :: r).drop (4 + i))).2 = true := e2
            obtain ⟨j, rfl⟩ : ∃ j', j = j' + (4 + i) := ⟨j - (4 + i), by omega⟩
            have ih := sk_cut k ((c :: r).drop (4 + i)) (n - (4 + i)) j (by simp; omega) (Prod.ext (by simp only; omega) e2) (by omega)
            have p2 := pre_take (c :: r) 47 47 (j + (4 + i)) h2
            have p3 := pre_take' (c :: r) 47 42 (j + (4 + i)) (by omega) h3
            have hdr : ((c :: r).take (j + (4 + i))).drop (4 + i) = ((c :: r).drop (4 + i)).take j := by rw [List.drop_take]; congr 1; omega
            have hix : Lib.index (((c :: r).take (j + (4 + i))).drop 2) [42, 47] = (i : Int) := by
              have hd2 : ((c :: r).take (j + (4 + i))).drop 2 = ((c :: r).drop 2).take (j + (2 + i)) := by rw [List.drop_take]; congr 1; omega
              rw [hd2]
              exact index_cut _ i (j + (2 + i)) (by omega) hi
            rw [show j + (4 + i) = (j + (3 + i)) + 1 by omega, List.take_succ_cons] at p2 p3 hix hdr ⊢
            rw [skF, h1, if_neg (by simp), p2, if_neg (by simp), p3, if_pos rfl, hix, if_neg (by omega), Int.toNat_natCast, hdr, ih]
            simp only [Prod.mk.injEq, and_true]
            omega
      · rw [h2, if_pos rfl] at h
        have hl2 := lnL_two h2
        have hll := lnL_le (c :: r)
        obtain ⟨e1, e2⟩ := Prod.mk.inj h
        have e1 : (skF k ((c :: r).drop (lnL (c :: r)))).1 + lnL (c :: r) = n := e1
        have e2 : (skF k ((c :: r).drop (lnL (c :: r)))).2 = true := e2
        have hlt := lnL_take (c :: r) j
        rw [Nat.min_eq_left (by omega)] at hlt
        have p2 := pre_take' (c :: r) 47 47 j (by omega) h2
        obtain ⟨N, hN⟩ : ∃ N, lnL (c :: r) = N := ⟨_, rfl⟩
        rw [hN] at e1 e2 hlt hl2 hll
        have ih := sk_cut k ((c :: r).drop N) (n - N) (j - N) (by simp; omega) (Prod.ext (by simp only; omega) e2) (by omega)
        have hdr : ((c :: r).take j).drop N = ((c :: r).drop N).take (j - N) := by rw [List.drop_take]
        obtain ⟨j, rfl⟩ : ∃ j', j = j' + 1 := ⟨j - 1, by omega⟩
        rw [List.take_succ_cons] at p2 hlt hdr ⊢
        rw [skF, h1, if_neg (by simp), p2, if_pos rfl, hlt, hdr, ih]
        simp only [Prod.mk.injEq, and_true]
        omega
    · rw [h1, if_pos rfl] at h
      obtain ⟨e1, e2⟩ := Prod.mk.inj h
      have e1 : (skF k r).1 + 1 = n := e1
      have e2 : (skF k r).2 = true := e2
      obtain ⟨j, rfl⟩ : ∃ j', j = j' + 1 := ⟨j - 1, by omega⟩
      have ih := sk_cut k r (n - 1) j (by omega) (Prod.ext (by simp only; omega) e2) (by omega)
      rw [List.take_succ_cons, skF, h1, if_pos rfl, ih]
      simp only [Prod.mk.injEq, and_true]
      omega
theorem skL_cut {l : List UInt8} {n j : Nat} (h : skL l = (n, true)) (hj : n ≤ j) : skL (l.take j) = (n, true) := by
  unfold skL at h ⊢
  rw [skF_fuel (l.take j).length l.length _ (Nat.le_refl _) (by simp; omega)]
  exact sk_cut l.length l n j (Nat.le_refl _) h hj
theorem bytes_injP {a b : ByteArray} (h : a.data.toList = b.data.toList) : a = b := by
  cases a; cases b
  simp only [ByteArray.mk.injEq]
  exact Array.toList_inj.1 h
theorem ext0_list (s : ByteArray) (m : Nat) : (s.extract 0 m).data.toList = s.data.toList.take m := by simp
theorem ext_list (s : ByteArray) (a b : Nat) : (s.extract a b).data.toList = (s.data.toList.take b).drop a := by
  rw [extract_mid, List.drop_take]
theorem ext_cut (s : ByteArray) (m a b : Nat) (h : b ≤ m) : (s.extract 0 m).extract a b = s.extract a b := by
  apply bytes_injP
  rw [ext_list, ext0_list, ext_list, List.take_take, Nat.min_eq_left h]
theorem tk_cut {s : ByteArray} {m p : Nat} {c : UInt8} (h0 : (tkR s p c).e = 0) (hz : p + (tkR s p c).z ≤ m) : tkR (s.extract 0 m) p c = tkR s p c := by
  have hd : (s.extract 0 m).data.toList.drop p = (s.data.toList.drop p).take (m - p) := by rw [ext0_list, List.drop_take]
  unfold tkR at h0 hz ⊢
  simp only [hd] at h0 hz ⊢
  by_cases c0 : clN c = 0
  · simp only [if_pos c0] at h0 hz ⊢
    split at h0
    · rename_i hi
      rw [if_pos hi] at hz
      simp only at hz
      rw [runL_take _ _ (by omega), ext_cut _ _ _ _ (by omega)]
    · cases h0
  · simp only [if_neg c0] at h0 hz ⊢
    by_cases c1 : clN c = 1
    · simp only [if_pos c1] at h0 hz ⊢
      split at h0
      · rename_i hi
        rw [if_pos hi] at hz
        simp only at hz
        rw [runL_take _ _ (by omega), ext_cut _ _ _ _ (by omega)]
      · rename_i hi; exact absurd h0 hi
    · simp only [if_neg c1] at h0 hz ⊢
      by_cases c2 : clN c = 2
      · simp only [if_pos c2] at h0 hz ⊢
        split at h0
        · cases h0
        · rename_i hi
          rw [if_neg hi] at hz
          cases hu : unqL ((s.data.toList.drop p).take (liL (s.data.toList.drop p))) with
          | none => rw [hu] at h0; cases h0
          | some v =>
            rw [hu] at hz
            simp only at hz
            rw [liL_take _ _ hi (by omega), List.take_take, Nat.min_eq_left (by omega), hu]
      · simp only [if_neg c2] at h0 hz ⊢
        by_cases c3 : clN c = 3
        · simp only [if_pos c3] at h0 hz ⊢
          rw [ext_cut _ _ _ _ hz]
        · simp only [if_neg c3] at h0; cases h0
theorem getD_cut (s : ByteArray) (m q : Nat) (h : q < m) : (s.extract 0 m).data.toList.getD q 0 = s.data.toList.getD q 0 := by
  rw [ext0_list, List.getD_eq_getElem?_getD, List.getD_eq_getElem?_getD, List.getElem?_take_of_lt h]
/-- Where a word stands, and what it has there. -/
structure WdOk (s : ByteArray) (y : Wd) : Prop where
  lt : y.p < s.size
  k0 : y.k = 1 ∨ y.k = 2 ∨ y.k = 3 ∨ y.k = 4
  t : y.k ≠ 3 → 0 < y.t.size ∧ y.p + y.t.size ≤ s.size ∧ s.extract y.p (y.p + y.t.size) = y.t
/-- What holds of the words from a place on. -/
structure WdsOk (s : ByteArray) (p : Nat) (l : List Wd) : Prop where
  last : ∃ l', l = l' ++ [⟨0, s.size, ⟨#[]⟩, 0⟩] ∧ ∀ y ∈ l', WdOk s y
  up : ∀ i (h : i < l.length), p ≤ l[i].p ∧ l[i].p ≤ s.size
  ris : ∀ i (h : i + 1 < l.length), l[i].p < l[i + 1].p
  cut : ∀ i (h : i < l.length) (k : Nat), l[i].p - p < k → wdF (s.extract 0 l[i].p) k p = ⟨0, 0, l.take i ++ [⟨0, l[i].p, ⟨#[]⟩, 0⟩]⟩
theorem tk_ok {s : ByteArray} {p : Nat} (hp : p < s.size) (h : (tkR s p s[p]).e = 0) : WdOk s ⟨(tkR s p s[p]).k, p, (tkR s p s[p]).t, (tkR s p s[p]).n⟩ := by
  have hz := tk_size hp h
  have hrl := runL_len (s.data.toList.drop p)
  have hll : (s.data.toList.drop p).length = s.size - p := by simp
  have ha := cl_apart s[p]
  refine ⟨hp, ?_, ?_⟩
  · unfold tkR at h ⊢
    by_cases c0 : clN s[p] = 0
    · simp only [if_pos c0] at h ⊢
      split at h
      · rename_i hi; rw [if_pos hi]; exact .inl rfl
      · cases h
    · simp only [if_neg c0] at h ⊢
      by_cases c1 : clN s[p] = 1
      · simp only [if_pos c1] at h ⊢
        split at h
        · rename_i hi; rw [if_pos hi]; exact .inr (.inl rfl)
        · rename_i hi; exact absurd h hi
      · simp only [if_neg c1] at h ⊢
        by_cases c2 : clN s[p] = 2
        · simp only [if_pos c2] at h ⊢
          split at h
          · cases h
          · rename_i hi
            rw [if_neg hi]
            split at h
            · cases h
            · exact .inr (.inr (.inl rfl))
        · simp only [if_neg c2] at h ⊢
          by_cases c3 : clN s[p] = 3
          · simp [if_pos c3]
          · simp only [if_neg c3] at h; cases h
  · intro hk
    have key : ∀ n, 0 < n → p + n ≤ s.size → 0 < (s.extract p (p + n)).size ∧ p + (s.extract p (p + n)).size ≤ s.size ∧ s.extract p (p + (s.extract p (p + n)).size) = s.extract p (p + n) := by
      intro n h1 h2
      have e : (s.extract p (p + n)).size = n := by simp [ByteArray.size_extract]; omega
      rw [e]
      exact ⟨h1, h2, rfl⟩
    unfold tkR at h hk ⊢
    by_cases c0 : clN s[p] = 0
    · have hy : ltZ (s[p].toNat : Nat) = true := by have := ha.1; rw [c0] at this; simpa using this
      have hpos := ext_pos hp (show wdZ (s[p].toNat : Nat) = true by unfold wdZ; rw [hy]; rfl)
      simp only [if_pos c0] at h hk ⊢
      split at h
      · rename_i hi; rw [if_pos hi]; exact key _ hpos (by omega)
      · cases h
    · simp only [if_neg c0] at h hk ⊢
      by_cases c1 : clN s[p] = 1
      · have hy : dgZ (s[p].toNat : Nat) = true := by have := ha.2.1; rw [c1] at this; simpa using this
        have hpos := ext_pos hp (show wdZ (s[p].toNat : Nat) = true by unfold wdZ; rw [hy]; simp)
        simp only [if_pos c1] at h hk ⊢
        split at h
        · rename_i hi; rw [if_pos hi]; exact key _ hpos (by omega)
        · rename_i hi; exact absurd h hi
      · simp only [if_neg c1] at h hk ⊢
        by_cases c2 : clN s[p] = 2
        · simp only [if_pos c2] at h hk ⊢
          split at h
          · cases h
          · rename_i hi
            rw [if_neg hi] at hk
            split at h
            · cases h
            · rename_i v hv; rw [hv] at hk; exact absurd rfl hk
        · simp only [if_neg c2] at h hk ⊢
          by_cases c3 : clN s[p] = 3
          · simp only [if_pos c3]; exact key 1 (by omega) (by omega)
          · simp only [if_neg c3] at h; cases h
theorem ext_self (s : ByteArray) : s.extract 0 s.size = s := by
  apply bytes_injP
  rw [ext0_list]
  exact List.take_of_length_le (by simp)
theorem wds_ok (s : ByteArray) : ∀ (k p : Nat), p ≤ s.size → s.size - p < k → (wdF s k p).e = 0 → WdsOk s p (wdF s k p).l
  | 0, p, _, h, _ => by omega
  | k + 1, p, hp, hk, h0 => by
    obtain ⟨n, hn⟩ : ∃ n, n = (skL (s.data.toList.drop p)).1 := ⟨_, rfl⟩
    have hle : p + n ≤ s.size := by
      have := skL_le (s.data.toList.drop p).length (s.data.toList.drop p)
      have h2 : (s.data.toList.drop p).length = s.size - p := by simp
      unfold skL at hn
      omega
    rw [wdF] at h0 ⊢
    cases hO : (skL (s.data.toList.drop p)).2
    · simp [hO] at h0
    · have hsk : skL (s.data.toList.drop p) = (n, true) := Prod.ext hn.symm hO
      simp only [hsk, if_neg (show ¬ (true = false) by simp)] at h0 ⊢
      have hcut0 : ∀ m, p + n ≤ m → skL ((s.extract 0 m).data.toList.drop p) = (n, true) := by
        intro m hm
        rw [ext0_list, List.drop_take]
        exact skL_cut hsk (by omega)
      have hend : ∀ k', p + n - p < k' → wdF (s.extract 0 (p + n)) k' p = ⟨0, 0, [⟨0, p + n, ⟨#[]⟩, 0⟩]⟩ := by
        intro k' hk'
        obtain ⟨k', rfl⟩ : ∃ j, k' = j + 1 := ⟨k' - 1, by omega⟩
        have hsz : (s.extract 0 (p + n)).size = p + n := by simp [ByteArray.size_extract]; omega
        rw [wdF]
        simp only [hcut0 (p + n) (Nat.le_refl _), hsz]
        rfl
      by_cases hq : p + n = s.size
      · rw [if_pos hq]
        refine ⟨⟨[], by rw [hq]; rfl, by simp⟩, ?_, ?_, ?_⟩
        · intro i hi
          have : i = 0 := by simp at hi; omega
          subst this
          exact ⟨by simp, by simp; omega⟩
        · intro i hi; simp at hi
        · intro i hi k' hk'
          have : i = 0 := by simp at hi; omega
          subst this
          exact hend k' hk'
      · rw [if_neg hq] at h0 ⊢
        have hlt : p + n < s.size := by omega
        have hgd : s.data.toList.getD (p + n) 0 = s[p + n] := by
          rw [List.getD_eq_getElem?_getD, List.getElem?_eq_getElem (by simpa using hlt)]; rfl
        rw [hgd] at h0 ⊢
        by_cases ht : (tkR s (p + n) s[p + n]).e ≠ 0
        · rw [if_pos ht] at h0; exact absurd h0 ht
        · rw [if_neg ht] at h0 ⊢
          have ht0 : (tkR s (p + n) s[p + n]).e = 0 := by omega
          obtain ⟨z1, z2⟩ := tk_size hlt ht0
          have hok := tk_ok hlt ht0
          have hcutt := fun m (hm : p + n + (tkR s (p + n) s[p + n]).z ≤ m) => tk_cut (c := s[p + n]) ht0 hm
          generalize hT : tkR s (p + n) s[p + n] = T at *
          by_cases hr : (wdF s k (p + n + T.z)).e ≠ 0
          · rw [if_pos hr] at h0; exact absurd h0 hr
          · rw [if_neg hr] at h0 ⊢
            have ih := wds_ok s k (p + n + T.z) (by omega) (by omega) (by omega)
            generalize hL : (wdF s k (p + n + T.z)).l = L at *
            obtain ⟨l', hl', hall⟩ := ih.last
            refine ⟨⟨⟨T.k, p + n, T.t, T.n⟩ :: l', by rw [hl']; rfl, ?_⟩, ?_, ?_, ?_⟩
            · intro y hy
              rcases List.mem_cons.1 hy with rfl | hy
              · exact hok
              · exact hall y hy
            · intro i hi
              cases i with
              | zero => exact ⟨by simp, by simp; omega⟩
              | succ i =>
                have := ih.up i (by simpa using hi)
                simp only [List.getElem_cons_succ]
                omega
            · intro i hi
              cases i with
              | zero =>
                have := ih.up 0 (by simpa using hi)
                simp only [List.getElem_cons_succ, List.getElem_cons_zero]
                omega
              | succ i =>
                have := ih.ris i (by simpa using hi)
                simpa using this
            · intro i hi k' hk'
              cases i with
              | zero => exact hend k' hk'
              | succ i =>
                have hi' : i < L.length := by simpa using hi
                have hup := ih.up i hi'
                simp only [List.getElem_cons_succ] at hk' ⊢
                obtain ⟨k', rfl⟩ : ∃ j, k' = j + 1 := ⟨k' - 1, by omega⟩
                have hc := ih.cut i hi' k' (by omega)
                generalize L[i].p = m at *
                have hsz : (s.extract 0 m).size = m := by simp [ByteArray.size_extract]; omega
                rw [wdF]
                simp only [hcut0 m (by omega), hsz, if_neg (show ¬ (true = false) by simp), if_neg (show ¬ (p + n = m) by omega), getD_cut s m (p + n) (by omega), hgd, hcutt m (by omega)]
                rw [if_neg (by omega), hc]
                simp
end Go.Proofs.YtoineheocipmaaaGreatDoor
