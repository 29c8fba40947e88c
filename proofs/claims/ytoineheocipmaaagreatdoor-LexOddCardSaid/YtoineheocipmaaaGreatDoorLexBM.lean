/-
  Plain mathematics of lex: a text of tokens with something between them is cut into these tokens. No program.
-/
import Derived.Test.YtoineheocipmaaaGreatDoorLexPM
import Derived.Test.YtoineheocipmaaaGreatDoorTidyMath
namespace Go.Proofs.YtoineheocipmaaaGreatDoor
set_option linter.unusedVariables false
set_option linter.unusedSimpArgs false

/-- No word goes on there. -/
def StopB (r : List UInt8) : Prop := ∀ c r', r = c :: r' → wdZ c.toNat = false
theorem StopB.nil : StopB [] := fun _ _ h => by cases h
theorem StopB.cons {c : UInt8} (r : List UInt8) (h : wdZ c.toNat = false) : StopB (c :: r) := fun _ _ e => by injection e with e1 e2; rw [← e1]; exact h
/-- Bytes that stand between tokens. -/
def SepOk (pad : List UInt8) : Prop := ∀ r, skL (pad ++ r) = (pad.length + (skL r).1, (skL r).2)
theorem SepOk.nil : SepOk [] := fun r => by simp
theorem SepOk.app {a b : List UInt8} (ha : SepOk a) (hb : SepOk b) : SepOk (a ++ b) := fun r => by
  rw [List.append_assoc, ha, hb, List.length_append]
  simp only [Prod.mk.injEq, and_true]
  omega
theorem SepOk.blank {c : UInt8} (h : blB c = true) : SepOk [c] := fun r => by
  rw [List.cons_append, List.nil_append, skL_blank h]
  simp only [List.length_cons, List.length_nil, Prod.mk.injEq, and_true]
  omega
theorem lnL_app : ∀ (a r : List UInt8), (∀ x ∈ a, x ≠ 10) → lnL (a ++ 10 :: r) = a.length
  | [], r, _ => by rw [List.nil_append, lnL, if_pos rfl]; rfl
  | c :: a, r, h => by
    rw [List.cons_append, lnL, if_neg (h c (by simp)), lnL_app a r (fun x hx => h x (by simp [hx]))]
    rfl
theorem SepOk.line {a : List UInt8} (h : ∀ x ∈ a, x ≠ 10) : SepOk (47 :: 47 :: a ++ [10]) := fun r => by
  have e : 47 :: 47 :: a ++ [10] ++ r = 47 :: 47 :: (a ++ 10 :: r) := by simp
  have hl : lnL (47 :: 47 :: (a ++ 10 :: r)) = a.length + 2 := by
    rw [lnL, if_neg (by decide), lnL, if_neg (by decide), lnL_app a r h]
  have hd : (47 :: 47 :: (a ++ 10 :: r)).drop (a.length + 2) = 10 :: r := by simp
  rw [e, skL_line (by decide) (by simp [Lib.hasPrefix, List.isPrefixOf]), hl, hd, skL_blank (by decide)]
  simp only [List.length_append, List.length_cons, List.length_nil, Prod.mk.injEq, and_true]
  omega
theorem SepOk.remark {a : List UInt8} (h : ∀ r, Lib.index (a ++ 42 :: 47 :: r) [42, 47] = (a.length : Int)) : SepOk (47 :: 42 :: a ++ [42, 47]) := fun r => by
  have e : 47 :: 42 :: a ++ [42, 47] ++ r = 47 :: 42 :: (a ++ 42 :: 47 :: r) := by simp
  have hd : (47 :: 42 :: (a ++ 42 :: 47 :: r)).drop (4 + a.length) = r := by
    rw [show 4 + a.length = a.length + 2 + 1 + 1 by omega, List.drop_succ_cons, List.drop_succ_cons, show a.length + 2 = a.length + 2 by omega, List.drop_append]
    simp
  rw [e, skL_remark (c := 47) (r := 42 :: (a ++ 42 :: 47 :: r)) (i := a.length) (by decide) (by simp [Lib.hasPrefix, List.isPrefixOf]) (by simp [Lib.hasPrefix, List.isPrefixOf]) (h r), hd]
  simp only [List.length_append, List.length_cons, List.length_nil, Prod.mk.injEq, and_true]
  omega
theorem skL_head {c : UInt8} {r : List UInt8} (h0 : blB c = false) (h : c ≠ 47) : skL (c :: r) = (0, true) := by
  refine skL_stop h0 ?_ ?_
  all_goals
    unfold Lib.hasPrefix
    rw [List.isPrefixOf]
    have : (47 == c) = false := by simpa using fun e => h (Eq.symm e)
    simp [this]
/-- Bytes that are a token. -/
structure TokOk (t : List UInt8) (k : Nat) (x : ByteArray) (n : Int) : Prop where
  ne : t ≠ []
  hd : blB (t.headD 0) = false ∧ t.headD 0 ≠ 47
  tk : ∀ (s : ByteArray) (p : Nat) (r : List UInt8), StopB r → s.data.toList.drop p = t ++ r → tkR s p (t.headD 0) = ⟨0, k, x, n, t.length⟩
theorem TokOk.sk {t : List UInt8} {k : Nat} {x : ByteArray} {n : Int} (h : TokOk t k x n) (r : List UInt8) : skL (t ++ r) = (0, true) := by
  cases t with
  | nil => exact absurd rfl h.ne
  | cons c t => exact skL_head h.hd.1 h.hd.2
theorem drop_size {s : ByteArray} {p : Nat} {l : List UInt8} (h : s.data.toList.drop p = l) (hl : l ≠ []) : p + l.length = s.size := by
  have h2 : (s.data.toList.drop p).length = s.size - p := by simp
  rw [h] at h2
  have : l.length ≠ 0 := fun e => hl (List.eq_nil_of_length_eq_zero e)
  omega
theorem drop_more {s : ByteArray} {p : Nat} {a b : List UInt8} (h : s.data.toList.drop p = a ++ b) : s.data.toList.drop (p + a.length) = b := by
  rw [← List.drop_drop, h]
  simp
theorem drop_head {s : ByteArray} {p : Nat} {c : UInt8} {r : List UInt8} (h : s.data.toList.drop p = c :: r) : s.data.toList.getD p 0 = c := by
  rw [List.getD_eq_getElem?_getD]
  have : (s.data.toList.drop p)[0]? = some c := by rw [h]; rfl
  rw [List.getElem?_drop] at this
  rw [show p + 0 = p by omega] at this
  rw [this]; rfl
theorem wd_step {s : ByteArray} {k p : Nat} {pad t r : List UInt8} {kd : Nat} {x : ByteArray} {n : Int} (hp : SepOk pad) (ht : TokOk t kd x n) (hr : StopB r) (hd : s.data.toList.drop p = pad ++ (t ++ r)) :
    wdF s (k + 1) p = if (wdF s k (p + pad.length + t.length)).e ≠ 0 then wdF s k (p + pad.length + t.length) else ⟨0, 0, ⟨kd, p + pad.length, x, n⟩ :: (wdF s k (p + pad.length + t.length)).l⟩ := by
  have hsk : skL (s.data.toList.drop p) = (pad.length, true) := by
    rw [hd, hp, ht.sk]
    rfl
  have hd2 := drop_more hd
  have htne := ht.ne
  have hsz := drop_size hd2 (by simp [htne])
  have htl : 0 < t.length := List.length_pos_iff.2 htne
  rw [List.length_append] at hsz
  have hg : s.data.toList.getD (p + pad.length) 0 = t.headD 0 := by
    cases t with
    | nil => exact absurd rfl htne
    | cons c t => exact drop_head hd2
  have htk := ht.tk s (p + pad.length) r hr hd2
  rw [wdF]
  simp only [hsk, hg, htk, if_neg (show ¬ (true = false) by simp), if_neg (show ¬ p + pad.length = s.size by omega)]
  rw [if_neg (by simp)]
theorem wd_last {s : ByteArray} {k p : Nat} {tail : List UInt8} (hp : p ≤ s.size) (ht : skL tail = (tail.length, true)) (hd : s.data.toList.drop p = tail) : wdF s (k + 1) p = ⟨0, 0, [⟨0, s.size, ⟨#[]⟩, 0⟩]⟩ := by
  have h2 : (s.data.toList.drop p).length = s.size - p := by simp
  have hsz : p + tail.length = s.size := by rw [hd] at h2; omega
  rw [wdF]
  simp only [hd, ht, if_neg (show ¬ (true = false) by simp), hsz, if_pos]
/-- A token, and what stands ahead of it. -/
structure It where
  pad : List UInt8
  t : List UInt8
  k : Nat
  x : ByteArray
  n : Int
def flatI (l : List It) : List UInt8 := l.flatMap fun i => i.pad ++ i.t
def placesI : List It → Nat → List Wd
  | [], _ => []
  | i :: l, p => ⟨i.k, p + i.pad.length, i.x, i.n⟩ :: placesI l (p + i.pad.length + i.t.length)
theorem placesI_len : ∀ (l : List It) (p : Nat), (placesI l p).length = l.length
  | [], _ => rfl
  | i :: l, p => by rw [placesI, List.length_cons, List.length_cons, placesI_len l]
theorem placesI_at : ∀ (l : List It) (p i : Nat) (h : i < l.length), (placesI l p)[i]? = some ⟨l[i].k, ((placesI l p)[i]'(by rw [placesI_len]; exact h)).p, l[i].x, l[i].n⟩
  | j :: l, p, 0, _ => rfl
  | j :: l, p, i + 1, h => by
    have := placesI_at l (p + j.pad.length + j.t.length) i (by simpa using h)
    simpa [placesI] using this
def ItsOk : List It → List UInt8 → Prop
  | [], _ => True
  | i :: l, r => SepOk i.pad ∧ TokOk i.t i.k i.x i.n ∧ StopB (flatI l ++ r) ∧ ItsOk l r
theorem wd_items : ∀ (l : List It) (r : List UInt8) (s : ByteArray) (k p : Nat), ItsOk l r → s.data.toList.drop p = flatI l ++ r →
    wdF s (k + l.length) p = if (wdF s k (p + (flatI l).length)).e ≠ 0 then wdF s k (p + (flatI l).length) else ⟨0, 0, placesI l p ++ (wdF s k (p + (flatI l).length)).l⟩
  | [], r, s, k, p, _, hd => by
    show wdF s k p = if (wdF s k p).e ≠ 0 then wdF s k p else ⟨0, 0, [] ++ (wdF s k p).l⟩
    by_cases h : (wdF s k p).e ≠ 0
    · rw [if_pos h]
    · rw [if_neg h]
      exact wd_at0 s k p (by omega)
  | i :: l, r, s, k, p, h, hd => by
    obtain ⟨h1, h2, h3, h4⟩ := h
    have e : flatI (i :: l) = i.pad ++ (i.t ++ flatI l) := by simp [flatI]
    have hd' : s.data.toList.drop p = i.pad ++ (i.t ++ (flatI l ++ r)) := by rw [hd, e]; simp
    have hd2 : s.data.toList.drop (p + i.pad.length + i.t.length) = flatI l ++ r := drop_more (drop_more hd')
    have ih := wd_items l r s k (p + i.pad.length + i.t.length) h4 hd2
    have hl : p + i.pad.length + i.t.length + (flatI l).length = p + (flatI (i :: l)).length := by rw [e]; simp; omega
    rw [List.length_cons, ← Nat.add_assoc, wd_step h1 h2 h3 hd', ih, hl, placesI]
    by_cases hE : (wdF s k (p + (flatI (i :: l)).length)).e ≠ 0
    · rw [if_pos hE, if_pos hE, if_pos hE]
    · rw [if_neg hE, if_neg hE, if_neg (by simp)]
      rfl
/-- A text of tokens is cut into these. -/
theorem words_of {s : ByteArray} {l : List It} {tail : List UInt8} (hs : s.size ≤ 65536) (h : ItsOk l tail) (ht : skL tail = (tail.length, true)) (hd : s.data.toList = flatI l ++ tail) :
    wordsR s = ⟨0, 0, placesI l 0 ++ [⟨0, s.size, ⟨#[]⟩, 0⟩]⟩ := by
  have hlen : (flatI l).length + tail.length = s.size := by
    have := congrArg List.length hd
    simpa using this.symm
  have hfew : l.length ≤ (flatI l).length := by
    clear hd ht hlen
    induction l with
    | nil => simp
    | cons i l ih =>
      have := ih h.2.2.2
      have h2 : 0 < i.t.length := List.length_pos_iff.2 h.2.1.ne
      have e : flatI (i :: l) = i.pad ++ (i.t ++ flatI l) := by simp [flatI]
      rw [e]
      simp only [List.length_cons, List.length_append]
      omega
  unfold wordsR
  rw [if_neg (by omega)]
  obtain ⟨k, hk⟩ : ∃ k, s.size + 1 = k + 1 + l.length := ⟨s.size - l.length, by omega⟩
  have hd0 : s.data.toList.drop 0 = flatI l ++ tail := by rw [List.drop_zero]; exact hd
  have hlast : wdF s (k + 1) (0 + (flatI l).length) = ⟨0, 0, [⟨0, s.size, ⟨#[]⟩, 0⟩]⟩ := wd_last (by omega) ht (drop_more hd0)
  rw [hk, wd_items l tail s (k + 1) 0 h hd0, hlast, if_neg (by simp)]
/-- Of a text that begins with tokens, and then has a fault, the fault is told. -/
theorem words_bad {s : ByteArray} {l : List It} {r pad t : List UInt8} {E : Nat} (hs : s.size ≤ 65536) (h : ItsOk l (pad ++ r)) (hp : SepOk pad) (hr : r ≠ []) (h0 : skL r = (0, true)) (hE : E ≠ 0)
    (ht : ∀ p, s.data.toList.drop p = r → (tkR s p (r.headD 0)).e = E) (hd : s.data.toList = flatI l ++ (pad ++ r)) :
    wordsR s = ⟨E, (flatI l).length + pad.length, []⟩ := by
  have hlen : (flatI l).length + (pad.length + r.length) = s.size := by
    have := congrArg List.length hd
    simpa using this.symm
  have hrl : 0 < r.length := List.length_pos_iff.2 hr
  have hfew : l.length ≤ (flatI l).length := by
    clear hd hlen
    induction l with
    | nil => simp
    | cons i l ih =>
      have := ih h.2.2.2
      have h2 : 0 < i.t.length := List.length_pos_iff.2 h.2.1.ne
      have e : flatI (i :: l) = i.pad ++ (i.t ++ flatI l) := by simp [flatI]
      rw [e]
      simp only [List.length_cons, List.length_append]
      omega
  unfold wordsR
  rw [if_neg (by omega)]
  obtain ⟨k, hk⟩ : ∃ k, s.size + 1 = k + 1 + l.length := ⟨s.size - l.length, by omega⟩
  have hd0 : s.data.toList.drop 0 = flatI l ++ (pad ++ r) := by rw [List.drop_zero]; exact hd
  have hd1 := drop_more hd0
  have hd2 := drop_more hd1
  have hlast : wdF s (k + 1) (0 + (flatI l).length) = ⟨E, (flatI l).length + pad.length, []⟩ := by
    have hsk : skL (s.data.toList.drop (0 + (flatI l).length)) = (pad.length, true) := by
      rw [hd1, hp, h0]
      rfl
    have hg : s.data.toList.getD (0 + (flatI l).length + pad.length) 0 = r.headD 0 := by
      cases r with
      | nil => exact absurd rfl hr
      | cons c r => exact drop_head hd2
    have hte := ht _ hd2
    rw [wdF]
    simp only [hsk, hg, hte, if_neg (show ¬ (true = false) by simp), if_neg (show ¬ 0 + (flatI l).length + pad.length = s.size by omega), if_pos hE]
    rw [Nat.zero_add]
  rw [hk, wd_items l (pad ++ r) s (k + 1) 0 h hd0, hlast, if_pos hE]
theorem runL_app : ∀ (t r : List UInt8), (∀ x ∈ t, wdZ x.toNat = true) → StopB r → runL (t ++ r) = t
  | [], r, _, h => by
    rw [List.nil_append]
    cases r with
    | nil => rfl
    | cons c r => rw [runL_cons, h c r rfl]; rfl
  | c :: t, r, ha, h => by
    rw [List.cons_append, runL_cons, ha c (by simp), if_pos rfl, runL_app t r (fun x hx => ha x (by simp [hx])) h]
theorem wd_id (c : UInt8) : wdZ c.toNat = idZ c.toNat := by
  have : (wdZ c.toNat == idZ c.toNat) = true := fin8 (p := fun c => wdZ c.toNat == idZ c.toNat) (by decide +kernel) c
  simpa using this
theorem lt_head (c : UInt8) (h : ltZ c.toNat = true) : blB c = false ∧ c ≠ 47 ∧ dgZ c.toNat = false ∧ clN c = 0 ∧ wdZ c.toNat = true := by
  have : decide (ltZ c.toNat = true → blB c = false ∧ c ≠ 47 ∧ dgZ c.toNat = false ∧ clN c = 0 ∧ wdZ c.toNat = true) = true := fin8 (p := fun c => decide (ltZ c.toNat = true → blB c = false ∧ c ≠ 47 ∧ dgZ c.toNat = false ∧ clN c = 0 ∧ wdZ c.toNat = true)) (by decide +kernel) c
  exact of_decide_eq_true this h
theorem dg_head (c : UInt8) (h : dgZ c.toNat = true) : blB c = false ∧ c ≠ 47 ∧ clN c = 1 ∧ wdZ c.toNat = true := by
  have : decide (dgZ c.toNat = true → blB c = false ∧ c ≠ 47 ∧ clN c = 1 ∧ wdZ c.toNat = true) = true := fin8 (p := fun c => decide (dgZ c.toNat = true → blB c = false ∧ c ≠ 47 ∧ clN c = 1 ∧ wdZ c.toNat = true)) (by decide +kernel) c
  exact of_decide_eq_true this h
theorem sg_head (c : UInt8) (h : sgB c = true) : blB c = false ∧ c ≠ 47 ∧ clN c = 3 := by
  have : decide (sgB c = true → blB c = false ∧ c ≠ 47 ∧ clN c = 3) = true := fin8 (p := fun c => decide (sgB c = true → blB c = false ∧ c ≠ 47 ∧ clN c = 3)) (by decide +kernel) c
  exact of_decide_eq_true this h
theorem ext_app {s : ByteArray} {p : Nat} {t r : List UInt8} (h : s.data.toList.drop p = t ++ r) : s.extract p (p + t.length) = ⟨t.toArray⟩ := by
  apply bytes_injP
  rw [ext_list, List.drop_take, h, show p + t.length - p = t.length by omega]
  simp
theorem TokOk.ident {c : UInt8} {t : List UInt8} (h : ltZ c.toNat = true) (ha : ∀ x ∈ t, wdZ x.toNat = true) (hl : t.length < 32) : TokOk (c :: t) 1 ⟨(c :: t).toArray⟩ 0 := by
  obtain ⟨h1, h2, h3, h4, h5⟩ := lt_head c h
  have ha' : ∀ x ∈ c :: t, wdZ x.toNat = true := by
    intro x hx
    rcases List.mem_cons.1 hx with rfl | hx
    · exact h5
    · exact ha x hx
  have hid : identL (c :: t) = true := by
    unfold identL
    simp only [List.isEmpty_cons, Bool.not_false, Bool.true_and, List.headD_cons, h3, Bool.and_true, Bool.and_eq_true, decide_eq_true_eq, List.all_eq_true]
    exact ⟨by simp; omega, fun x hx => by rw [← wd_id]; exact ha' x hx⟩
  refine ⟨by simp, ⟨h1, h2⟩, fun s p r hr hd => ?_⟩
  show tkR s p c = _
  unfold tkR
  simp only [hd, runL_app _ r ha' hr, if_pos h4, hid, if_true, ext_app hd]
theorem TokOk.num {c : UInt8} {t : List UInt8} {n : Int} (h : dgZ c.toNat = true) (ha : ∀ x ∈ t, wdZ x.toNat = true) (hv : vlR ⟨(c :: t).toArray⟩ = (n, 0)) : TokOk (c :: t) 2 ⟨(c :: t).toArray⟩ n := by
  obtain ⟨h1, h2, h4, h5⟩ := dg_head c h
  have ha' : ∀ x ∈ c :: t, wdZ x.toNat = true := by
    intro x hx
    rcases List.mem_cons.1 hx with rfl | hx
    · exact h5
    · exact ha x hx
  refine ⟨by simp, ⟨h1, h2⟩, fun s p r hr hd => ?_⟩
  show tkR s p c = _
  unfold tkR
  simp only [hd, runL_app _ r ha' hr, if_neg (show ¬ clN c = 0 by omega), if_pos h4, ext_app hd, hv, if_true]
theorem TokOk.sign {c : UInt8} (h : sgB c = true) : TokOk [c] 4 ⟨#[c]⟩ 0 := by
  obtain ⟨h1, h2, h4⟩ := sg_head c h
  refine ⟨by simp, ⟨h1, h2⟩, fun s p r hr hd => ?_⟩
  show tkR s p c = _
  unfold tkR
  simp only [if_neg (show ¬ clN c = 0 by omega), if_neg (show ¬ clN c = 1 by omega), if_neg (show ¬ clN c = 2 by omega), if_pos h4]
  have := ext_app hd
  rw [show [c].length = 1 from rfl] at this
  rw [this]
  rfl
/-- The parts of a quoted byte are gone through. -/
theorem liF_qp (c : UInt8) : ∀ (p : Nat) (r : List UInt8) (k : Nat), (qp c ++ r).length ≤ k → liF 34 k p (qp c ++ r) = liF 34 r.length (p + (qp c).length) r := by
  intro p r k hk
  have hq := qp_ok c
  unfold qpOk at hq
  have fu : ∀ k p, r.length ≤ k → liF 34 k p r = liF 34 r.length p r := fun k p h => liF_fuel 34 k r.length p r h (Nat.le_refl _)
  split at hq
  · rename_i a e
    rw [e] at hk ⊢
    simp only [Bool.and_eq_true, beq_iff_eq, decide_eq_true_eq, Bool.not_eq_true', beq_eq_false_iff_ne, ne_eq] at hq
    obtain ⟨⟨⟨⟨rfl, h1⟩, h2⟩, h3⟩, h4⟩ := hq
    obtain ⟨k, rfl⟩ : ∃ k', k = k' + 1 := ⟨k - 1, by simp at hk; omega⟩
    rw [List.cons_append, List.nil_append, liF, if_neg (by intro e; rw [e] at h1; exact absurd h1 (by decide)), if_neg (by intro e; rw [e] at h2; exact absurd rfl h2), if_neg (by intro e; rw [e] at h3; exact absurd rfl h3)]
    exact fu k _ (by simp at hk; omega)
  · rename_i a x e
    rw [e] at hk ⊢
    simp only [Bool.and_eq_true, beq_iff_eq, decide_eq_true_eq] at hq
    obtain ⟨⟨⟨⟨h1, _⟩, _⟩, _⟩, _⟩ := hq
    have ha : a = 92 := UInt8.toNat_inj.1 h1
    subst ha
    obtain ⟨k, rfl⟩ : ∃ k', k = k' + 1 := ⟨k - 1, by simp at hk; omega⟩
    rw [List.cons_append, List.cons_append, List.nil_append, liF, if_neg (by decide), if_neg (by decide), if_pos rfl]
    exact fu k _ (by simp at hk; omega)
  · rename_i a d x f e
    rw [e] at hk ⊢
    simp only [Bool.and_eq_true, beq_iff_eq, decide_eq_true_eq] at hq
    obtain ⟨⟨⟨⟨⟨⟨h1, _⟩, g1⟩, g2⟩, g3⟩, _⟩, _⟩ := hq
    have ha : a = 92 := UInt8.toNat_inj.1 h1
    subst ha
    have dg : ∀ y : UInt8, dgV y.toNat < 8 → y ≠ 10 ∧ y ≠ 34 ∧ y ≠ 92 := by
      intro y hy
      have hk : decide (dgV y.toNat < 8 → y ≠ 10 ∧ y ≠ 34 ∧ y ≠ 92) = true := fin8 (p := fun y => decide (dgV y.toNat < 8 → y ≠ 10 ∧ y ≠ 34 ∧ y ≠ 92)) (by decide +kernel) y
      exact of_decide_eq_true hk hy
    obtain ⟨k, rfl⟩ : ∃ k', k = k' + 3 := ⟨k - 3, by simp at hk; omega⟩
    have x2 := dg x g2
    have x3 := dg f g3
    show liF 34 (k + 2 + 1) p (92 :: d :: x :: f :: r) = _
    rw [liF, if_neg (by decide), if_neg (by decide), if_pos rfl, List.drop_succ_cons, List.drop_zero]
    show liF 34 (k + 1 + 1) (p + 2) (x :: f :: r) = _
    rw [liF, if_neg x2.1, if_neg x2.2.1, if_neg x2.2.2, liF, if_neg x3.1, if_neg x3.2.1, if_neg x3.2.2]
    exact fu k _ (by simp at hk; omega)
  · cases hq
theorem liF_qin : ∀ (l : List UInt8) (p : Nat) (r : List UInt8) (k : Nat), (qin l ++ 34 :: r).length ≤ k → liF 34 k p (qin l ++ 34 :: r) = p + (qin l).length + 1
  | [], p, r, k, h => by
    obtain ⟨k, rfl⟩ : ∃ k', k = k' + 1 := ⟨k - 1, by simp [qin] at h; omega⟩
    show liF 34 (k + 1) p (34 :: r) = p + 0 + 1
    rw [liF, if_neg (by decide), if_pos rfl]
  | c :: l, p, r, k, h => by
    have e : qin (c :: l) = qp c ++ qin l := rfl
    rw [e, List.append_assoc] at h
    rw [e, List.append_assoc, liF_qp c p _ k h, liF_qin l _ r _ (Nat.le_refl _), List.length_append]
    omega
theorem TokOk.lit (b : List UInt8) : TokOk (qtL b) 3 ⟨b.toArray⟩ 0 := by
  refine ⟨by simp [qtL], ⟨by show blB 34 = false; decide, by show (34 : UInt8) ≠ 47; decide⟩, fun s p r hr hd => ?_⟩
  have hlen : (qtL b).length = (qin b).length + 2 := by simp [qtL]
  have hli : liL (qtL b ++ r) = (qtL b).length := by
    have e : qtL b ++ r = 34 :: (qin b ++ 34 :: r) := by simp [qtL]
    rw [e]
    show liF 34 (qin b ++ 34 :: r).length 1 (qin b ++ 34 :: r) = _
    rw [liF_qin b 1 r _ (Nat.le_refl _), hlen]
    omega
  have ht : (qtL b ++ r).take (qtL b).length = qtL b := by simp
  show tkR s p 34 = _
  unfold tkR
  simp only [hd, hli, ht, unq_qt, if_neg (show ¬ clN 34 = 0 by decide), if_neg (show ¬ clN 34 = 1 by decide), if_pos (show clN 34 = 2 by decide)]
  rw [if_neg (by omega)]
end Go.Proofs.YtoineheocipmaaaGreatDoor
