/-
  Plain mathematics of lex: a text of tokens with something between them is cut into these tokens; the law's words. No program.
-/
import Derived.Test.YthmdaejlopjjoaaGreatDoorLexW
import Derived.Test.YthmdaejlopjjoaaGreatDoorQmA
namespace Go.Proofs.YthmdaejlopjjoaaGreatDoor
set_option linter.unusedVariables false
set_option linter.unusedSimpArgs false

theorem bytes_injP {a b : ByteArray} (h : a.data.toList = b.data.toList) : a = b := by
  cases a; cases b
  simp only [ByteArray.mk.injEq]
  exact Array.toList_inj.1 h
theorem ext_list (s : ByteArray) (a b : Nat) : (s.extract a b).data.toList = (s.data.toList.take b).drop a := by
  rw [extract_mid, List.drop_take]
/-- No word goes on there. -/
def StopB (r : List UInt8) : Prop := ∀ c r', r = c :: r' → wdZ c.toNat = false
theorem StopB.nil : StopB [] := fun _ _ h => by cases h
theorem StopB.cons {c : UInt8} (r : List UInt8) (h : wdZ c.toNat = false) : StopB (c :: r) := fun _ _ e => by injection e with e1 e2; rw [← e1]; exact h
/-- Bytes that stand between tokens. -/
def SepOk (pad : List UInt8) : Prop := ∀ r, skL (pad ++ r) = (pad.length + (skL r).1, (skL r).2)
theorem SepOk.nil : SepOk [] := fun r => by simp
theorem SepOk.app {a b : List UInt8} (ha : SepOk a) (hb : SepOk b) : SepOk (a ++ b) := fun r => by
  rw [List.append_assoc, ha, hb, List.length_append]
  simp only [Prod.mk.injEq, and_true]
  omega
theorem SepOk.blank {c : UInt8} (h : blB c = true) : SepOk [c] := fun r => by
  rw [List.cons_append, List.nil_append, skL_blank h]
  simp only [List.length_cons, List.length_nil, Prod.mk.injEq, and_true]
  omega
theorem lnL_app : ∀ (a r : List UInt8), (∀ x ∈ a, x ≠ 10) → lnL (a ++ 10 :: r) = a.length
  | [], r, _ => by rw [List.nil_append, lnL, if_pos rfl]; rfl
  | c :: a, r, h => by
    rw [List.cons_append, lnL, if_neg (h c (by simp)), lnL_app a r (fun x hx => h x (by simp [hx]))]
    rfl
theorem SepOk.line {a : List UInt8} (h : ∀ x ∈ a, x ≠ 10) : SepOk (47 :: 47 :: a ++ [10]) := fun r => by
  have e : 47 :: 47 :: a ++ [10] ++ r = 47 :: 47 :: (a ++ 10 :: r) := by simp
  have hl : lnL (47 :: 47 :: (a ++ 10 :: r)) = a.length + 2 := by
    rw [lnL, if_neg (by decide), lnL, if_neg (by decide), lnL_app a r h]
  have hd : (47 :: 47 :: (a ++ 10 :: r)).drop (a.length + 2) = 10 :: r := by simp
  rw [e, skL_line (by decide) (by simp [Lib.hasPrefix, List.isPrefixOf]), hl, hd, skL_blank (by decide)]
  simp only [List.length_append, List.length_cons, List.length_nil, Prod.mk.injEq, and_true]
  omega
theorem SepOk.remark {a : List UInt8} (h : ∀ r, Lib.index (a ++ 42 :: 47 :: r) [42, 47] = (a.length : Int)) : SepOk (47 :: 42 :: a ++ [42, 47]) := fun r => by
  have e : 47 :: 42 :: a ++ [42, 47] ++ r = 47 :: 42 :: (a ++ 42 :: 47 :: r) := by simp
  have hd : (47 :: 42 :: (a ++ 42 :: 47 :: r)).drop (4 + a.length) = r := by
    rw [show 4 + a.length = a.length + 2 + 1 + 1 by omega, List.drop_succ_cons, List.drop_succ_cons, show a.length + 2 = a.length + 2 by omega, List.drop_append]
    simp
  rw [e, skL_remark (c := 47) (r := 42 :: (a ++ 42 :: 47 :: r)) (i := a.length) (by decide) (by simp [Lib.hasPrefix, List.isPrefixOf]) (by simp [Lib.hasPrefix, List.isPrefixOf]) (h r), hd]
  simp only [List.length_append, List.length_cons, List.length_nil, Prod.mk.injEq, and_true]
  omega
theorem skL_head {c : UInt8} {r : List UInt8} (h0 : blB c = false) (h : c ≠ 47) : skL (c :: r) = (0, true) := by
  refine skL_stop h0 ?_ ?_
  all_goals
    unfold Lib.hasPrefix
    rw [List.isPrefixOf]
    have : (47 == c) = false := by simpa using fun e => h (Eq.symm e)
    simp [this]
/-- Bytes that are a token. -/
structure TokOk (t : List UInt8) (k : Nat) (x : ByteArray) (n : Int) : Prop where
  ne : t ≠ []
  hd : blB (t.headD 0) = false ∧ t.headD 0 ≠ 47
  tk : ∀ (s : ByteArray) (p : Nat) (r : List UInt8), StopB r → s.data.toList.drop p = t ++ r → tkR s p (t.headD 0) = ⟨0, k, x, n, t.length⟩
theorem TokOk.sk {t : List UInt8} {k : Nat} {x : ByteArray} {n : Int} (h : TokOk t k x n) (r : List UInt8) : skL (t ++ r) = (0, true) := by
  cases t with
  | nil => exact absurd rfl h.ne
  | cons c t => exact skL_head h.hd.1 h.hd.2
theorem drop_size {s : ByteArray} {p : Nat} {l : List UInt8} (h : s.data.toList.drop p = l) (hl : l ≠ []) : p + l.length = s.size := by
  have h2 : (s.data.toList.drop p).length = s.size - p := by simp
  rw [h] at h2
  have : l.length ≠ 0 := fun e => hl (List.eq_nil_of_length_eq_zero e)
  omega
theorem drop_more {s : ByteArray} {p : Nat} {a b : List UInt8} (h : s.data.toList.drop p = a ++ b) : s.data.toList.drop (p + a.length) = b := by
  rw [← List.drop_drop, h]
  simp
theorem drop_head {s : ByteArray} {p : Nat} {c : UInt8} {r : List UInt8} (h : s.data.toList.drop p = c :: r) : s.data.toList.getD p 0 = c := by
  rw [List.getD_eq_getElem?_getD]
  have : (s.data.toList.drop p)[0]? = some c := by rw [h]; rfl
  rw [List.getElem?_drop] at this
  rw [show p + 0 = p by omega] at this
  rw [this]; rfl
theorem wd_step {s : ByteArray} {k p : Nat} {pad t r : List UInt8} {kd : Nat} {x : ByteArray} {n : Int} (hp : SepOk pad) (ht : TokOk t kd x n) (hr : StopB r) (hd : s.data.toList.drop p = pad ++ (t ++ r)) :
    wdF s (k + 1) p = if (wdF s k (p + pad.length + t.length)).e ≠ 0 then wdF s k (p + pad.length + t.length) else ⟨0, 0, ⟨kd, p + pad.length, x, n⟩ :: (wdF s k (p + pad.length + t.length)).l⟩ := by
  have hsk : skL (s.data.toList.drop p) = (pad.length, true) := by
    rw [hd, hp, ht.sk]
    rfl
  have hd2 := drop_more hd
  have htne := ht.ne
  have hsz := drop_size hd2 (by simp [htne])
  have htl : 0 < t.length := List.length_pos_iff.2 htne
  rw [List.length_append] at hsz
  have hg : s.data.toList.getD (p + pad.length) 0 = t.headD 0 := by
    cases t with
    | nil => exact absurd rfl htne
    | cons c t => exact drop_head hd2
  have htk := ht.tk s (p + pad.length) r hr hd2
  rw [wdF]
  simp only [hsk, hg, htk, if_neg (show ¬ (true = false) by simp), if_neg (show ¬ p + pad.length = s.size by omega)]
  rw [if_neg (by simp)]
theorem wd_last {s : ByteArray} {k p : Nat} {tail : List UInt8} (hp : p ≤ s.size) (ht : skL tail = (tail.length, true)) (hd : s.data.toList.drop p = tail) : wdF s (k + 1) p = ⟨0, 0, [⟨0, s.size, ⟨#[]⟩, 0⟩]⟩ := by
  have h2 : (s.data.toList.drop p).length = s.size - p := by simp
  have hsz : p + tail.length = s.size := by rw [hd] at h2; omega
  rw [wdF]
  simp only [hd, ht, if_neg (show ¬ (true = false) by simp), hsz, if_pos]
/-- A token, and what stands ahead of it. -/
structure It where
  pad : List UInt8
  t : List UInt8
  k : Nat
  x : ByteArray
  n : Int
def flatI (l : List It) : List UInt8 := l.flatMap fun i => i.pad ++ i.t
def placesI : List It → Nat → List Wd
  | [], _ => []
  | i :: l, p => ⟨i.k, p + i.pad.length, i.x, i.n⟩ :: placesI l (p + i.pad.length + i.t.length)
theorem placesI_len : ∀ (l : List It) (p : Nat), (placesI l p).length = l.length
  | [], _ => rfl
  | i :: l, p => by rw [placesI, List.length_cons, List.length_cons, placesI_len l]
theorem placesI_at : ∀ (l : List It) (p i : Nat) (h : i < l.length), (placesI l p)[i]? = some ⟨l[i].k, ((placesI l p)[i]'(by rw [placesI_len]; exact h)).p, l[i].x, l[i].n⟩
  | j :: l, p, 0, _ => rfl
  | j :: l, p, i + 1, h => by
    have := placesI_at l (p + j.pad.length + j.t.length) i (by simpa using h)
    simpa [placesI] using this
def ItsOk : List It → List UInt8 → Prop
  | [], _ => True
  | i :: l, r => SepOk i.pad ∧ TokOk i.t i.k i.x i.n ∧ StopB (flatI l ++ r) ∧ ItsOk l r
theorem wd_items : ∀ (l : List It) (r : List UInt8) (s : ByteArray) (k p : Nat), ItsOk l r → s.data.toList.drop p = flatI l ++ r →
    wdF s (k + l.length) p = if (wdF s k (p + (flatI l).length)).e ≠ 0 then wdF s k (p + (flatI l).length) else ⟨0, 0, placesI l p ++ (wdF s k (p + (flatI l).length)).l⟩
  | [], r, s, k, p, _, hd => by
    show wdF s k p = if (wdF s k p).e ≠ 0 then wdF s k p else ⟨0, 0, [] ++ (wdF s k p).l⟩
    by_cases h : (wdF s k p).e ≠ 0
    · rw [if_pos h]
    · rw [if_neg h]
      exact wd_at0 s k p (by omega)
  | i :: l, r, s, k, p, h, hd => by
    obtain ⟨h1, h2, h3, h4⟩ := h
    have e : flatI (i :: l) = i.pad ++ (i.t ++ flatI l) := by simp [flatI]
    have hd' : s.data.toList.drop p = i.pad ++ (i.t ++ (flatI l ++ r)) := by rw [hd, e]; simp
    have hd2 : s.data.toList.drop (p + i.pad.length + i.t.length) = flatI l ++ r := drop_more (drop_more hd')
    have ih := wd_items l r s k (p + i.pad.length + i.t.length) h4 hd2
    have hl : p + i.pad.length + i.t.length + (flatI l).length = p + (flatI (i :: l)).length := by rw [e]; simp; omega
    rw [List.length_cons, ← Nat.add_assoc, wd_step h1 h2 h3 hd', ih, hl, placesI]
    by_cases hE : (wdF s k (p + (flatI (i :: l)).length)).e ≠ 0
    · rw [if_pos hE, if_pos hE, if_pos hE]
    · rw [if_neg hE, if_neg hE, if_neg (by simp)]
      rfl
/-- A text of tokens is cut into these. -/
theorem words_of {s : ByteArray} {l : List It} {tail : List UInt8} (hs : s.size ≤ 65536) (h : ItsOk l tail) (ht : skL tail = (tail.length, true)) (hd : s.data.toList = flatI l ++ tail) :
    wordsR s = ⟨0, 0, placesI l 0 ++ [⟨0, s.size, ⟨#[]⟩, 0⟩]⟩ := by
  have hlen : (flatI l).length + tail.length = s.size := by
    have := congrArg List.length hd
    simpa using this.symm
  have hfew : l.length ≤ (flatI l).length := by
    clear hd ht hlen
    induction l with
    | nil => simp
    | cons i l ih =>
      have := ih h.2.2.2
      have h2 : 0 < i.t.length := List.length_pos_iff.2 h.2.1.ne
      have e : flatI (i :: l) = i.pad ++ (i.t ++ flatI l) := by simp [flatI]
      rw [e]
      simp only [List.length_cons, List.length_append]
      omega
  unfold wordsR
  rw [if_neg (by omega)]
  obtain ⟨k, hk⟩ : ∃ k, s.size + 1 = k + 1 + l.length := ⟨s.size - l.length, by omega⟩
  have hd0 : s.data.toList.drop 0 = flatI l ++ tail := by rw [List.drop_zero]; exact hd
  have hlast : wdF s (k + 1) (0 + (flatI l).length) = ⟨0, 0, [⟨0, s.size, ⟨#[]⟩, 0⟩]⟩ := wd_last (by omega) ht (drop_more hd0)
  rw [hk, wd_items l tail s (k + 1) 0 h hd0, hlast, if_neg (by simp)]
/-- Of a text that begins with tokens, and then has a fault, the fault is told. -/
theorem words_bad {s : ByteArray} {l : List It} {r pad t : List UInt8} {E : Nat} (hs : s.size ≤ 65536) (h : ItsOk l (pad ++ r)) (hp : SepOk pad) (hr : r ≠ []) (h0 : skL r = (0, true)) (hE : E ≠ 0)
    (ht : ∀ p, s.data.toList.drop p = r → (tkR s p (r.headD 0)).e = E) (hd : s.data.toList = flatI l ++ (pad ++ r)) :
    wordsR s = ⟨E, (flatI l).length + pad.length, []⟩ := by
  have hlen : (flatI l).length + (pad.length + r.length) = s.size := by
    have := congrArg List.length hd
    simpa using this.symm
  have hrl : 0 < r.length := List.length_pos_iff.2 hr
  have hfew : l.length ≤ (flatI l).length := by
    clear hd hlen
    induction l with
    | nil => simp
    | cons i l ih =>
      have := ih h.2.2.2
      have h2 : 0 < i.t.length := List.length_pos_iff.2 h.2.1.ne
      have e : flatI (i :: l) = i.pad ++ (i.t ++ flatI l) := by simp [flatI]
      rw [e]
      simp only [List.length_cons, List.length_append]
      omega
  unfold wordsR
  rw [if_neg (by omega)]
  obtain ⟨k, hk⟩ : ∃ k, s.size + 1 = k + 1 + l.length := ⟨s.size - l.length, by omega⟩
  have hd0 : s.data.toList.drop 0 = flatI l ++ (pad ++ r) := by rw [List.drop_zero]; exact hd
  have hd1 := drop_more hd0
  have hd2 := drop_more hd1
  have hlast : wdF s (k + 1) (0 + (flatI l).length) = ⟨E, (flatI l).length + pad.length, []⟩ := by
    have hsk : skL (s.data.toList.drop (0 + (flatI l).length)) = (pad.length, true) := by
      rw [hd1, hp, h0]
      rfl
    have hg : s.data.toList.getD (0 + (flatI l).length + pad.length) 0 = r.headD 0 := by
      cases r with
      | nil => exact absurd rfl hr
      | cons c r => exact drop_head hd2
    have hte := ht _ hd2
    rw [wdF]
    simp only [hsk, hg, hte, if_neg (show ¬ (true = false) by simp), if_neg (show ¬ 0 + (flatI l).length + pad.length = s.size by omega), if_pos hE]
    rw [Nat.zero_add]
  rw [hk, wd_items l (pad ++ r) s (k + 1) 0 h hd0, hlast, if_pos hE]
theorem runL_app : ∀ (t r : List UInt8), (∀ x ∈ t, wdZ x.toNat = true) → StopB r → runL (t ++ r) = t
  | [], r, _, h => by
    rw [List.nil_append]
    cases r with
    | nil => rfl
    | cons c r => rw [runL_cons, h c r rfl]; rfl
  | c :: t, r, ha, h => by
    rw [List.cons_append, runL_cons, ha c (by simp), if_pos rfl, runL_app t r (fun x hx => ha x (by simp [hx])) h]
theorem wd_id (c : UInt8) : wdZ c.toNat = idZ c.toNat := by
  have : (wdZ c.toNat == idZ c.toNat) = true := fin8 (p := fun c => wdZ c.toNat == idZ c.toNat) (by decide +kernel) c
  simpa using this
theorem lt_head (c : UInt8) (h : ltZ c.toNat = true) : blB c = false ∧ c ≠ 47 ∧ dgZ c.toNat = false ∧ clN c = 0 ∧ wdZ c.toNat = true := by
  have : decide (ltZ c.toNat = true → blB c = false ∧ c ≠ 47 ∧ dgZ c.toNat = false ∧ clN c = 0 ∧ wdZ c.toNat = true) = true := fin8 (p := fun c => decide (ltZ c.toNat = true → blB c = false ∧ c ≠ 47 ∧ dgZ c.toNat = false ∧ clN c = 0 ∧ wdZ c.toNat = true)) (by decide +kernel) c
  exact of_decide_eq_true this h
theorem dg_head (c : UInt8) (h : dgZ c.toNat = true) : blB c = false ∧ c ≠ 47 ∧ clN c = 1 ∧ wdZ c.toNat = true := by
  have : decide (dgZ c.toNat = true → blB c = false ∧ c ≠ 47 ∧ clN c = 1 ∧ wdZ c.toNat = true) = true := fin8 (p := fun c => decide (dgZ c.toNat = true → blB c = false ∧ c ≠ 47 ∧ clN c = 1 ∧ wdZ c.toNat = true)) (by decide +kernel) c
  exact of_decide_eq_true this h
theorem sg_head (c : UInt8) (h : sgB c = true) : blB c = false ∧ c ≠ 47 ∧ clN c = 3 := by
  have : decide (sgB c = true → blB c = false ∧ c ≠ 47 ∧ clN c = 3) = true := fin8 (p := fun c => decide (sgB c = true → blB c = false ∧ c ≠ 47 ∧ clN c = 3)) (by decide +kernel) c
  exact of_decide_eq_true this h
theorem ext_app {s : ByteArray} {p : Nat} {t r : List UInt8} (h : s.data.toList.drop p = t ++ r) : s.extract p (p + t.length) = ⟨t.toArray⟩ := by
  apply bytes_injP
  rw [ext_list, List.drop_take, h, show p + t.length - p = t.length by omega]
  simp
theorem TokOk.ident {c : UInt8} {t : List UInt8} (h : ltZ c.toNat = true) (ha : ∀ x ∈ t, wdZ x.toNat = true) (hl : t.length < 32) : TokOk (c :: t) 1 ⟨(c :: t).toArray⟩ 0 := by
  obtain ⟨h1, h2, h3, h4, h5⟩ := lt_head c h
  have ha' : ∀ x ∈ c :: t, wdZ x.toNat = true := by
    intro x hx
    rcases List.mem_cons.1 hx with rfl | hx
    · exact h5
    · exact ha x hx
  have hid : identL (c :: t) = true := by
    unfold identL
    simp only [List.isEmpty_cons, Bool.not_false, Bool.true_and, List.headD_cons, h3, Bool.and_true, Bool.and_eq_true, decide_eq_true_eq, List.all_eq_true]
    exact ⟨by simp; omega, fun x hx => by rw [← wd_id]; exact ha' x hx⟩
  refine ⟨by simp, ⟨h1, h2⟩, fun s p r hr hd => ?_⟩
  show tkR s p c = _
  unfold tkR
  simp only [hd, runL_app _ r ha' hr, if_pos h4, hid, if_true, ext_app hd]
theorem TokOk.num {c : UInt8} {t : List UInt8} {n : Int} (h : dgZ c.toNat = true) (ha : ∀ x ∈ t, wdZ x.toNat = true) (hv : vlR ⟨(c :: t).toArray⟩ = (n, 0)) : TokOk (c :: t) 2 ⟨(c :: t).toArray⟩ n := by
  obtain ⟨h1, h2, h4, h5⟩ := dg_head c h
  have ha' : ∀ x ∈ c :: t, wdZ x.toNat = true := by
    intro x hx
    rcases List.mem_cons.1 hx with rfl | hx
    · exact h5
    · exact ha x hx
  refine ⟨by simp, ⟨h1, h2⟩, fun s p r hr hd => ?_⟩
  show tkR s p c = _
  unfold tkR
  simp only [hd, runL_app _ r ha' hr, if_neg (show ¬ clN c = 0 by omega), if_pos h4, ext_app hd, hv, if_true]
theorem TokOk.sign {c : UInt8} (h : sgB c = true) : TokOk [c] 4 ⟨#[c]⟩ 0 := by
  obtain ⟨h1, h2, h4⟩ := sg_head c h
  refine ⟨by simp, ⟨h1, h2⟩, fun s p r hr hd => ?_⟩
  show tkR s p c = _
  unfold tkR
  simp only [if_neg (show ¬ clN c = 0 by omega), if_neg (show ¬ clN c = 1 by omega), if_neg (show ¬ clN c = 2 by omega), if_pos h4]
  have := ext_app hd
  rw [show [c].length = 1 from rfl] at this
  rw [this]
  rfl
theorem index_stepK (c : UInt8) (r : List UInt8) : Lib.index (c :: r) [42, 47] = if Lib.hasPrefix (c :: r) [42, 47] = true then 0 else if Lib.index r [42, 47] = -1 then -1 else Lib.index r [42, 47] + 1 := by
  rw [Lib.index]
  simp only [Lib.hasPrefix, beq_iff_eq]
  rfl
def noEnd : List UInt8 → Bool
  | [] => true
  | [_] => true
  | c :: d :: r => !(c == 42 && d == 47) && noEnd (d :: r)
theorem index_end : ∀ (a : List UInt8), noEnd a = true → ∀ r, Lib.index (a ++ 42 :: 47 :: r) [42, 47] = (a.length : Int)
  | [], _, r => by
    rw [List.nil_append, index_stepK, if_pos (by simp [Lib.hasPrefix, List.isPrefixOf])]
    rfl
  | [c], h, r => by
    have ih := index_end [] rfl r
    rw [List.nil_append] at ih
    rw [List.cons_append, List.nil_append, index_stepK, if_neg, ih]
    · rfl
    · intro hp
      obtain ⟨r', _, h2⟩ := pre_head hp
      simp at h2
  | c :: d :: a, h, r => by
    simp only [noEnd, Bool.and_eq_true, Bool.not_eq_true', Bool.and_eq_false_iff] at h
    have ih := index_end (d :: a) h.2 r
    rw [List.cons_append, index_stepK, if_neg, ih, if_neg (by omega)]
    · simp
    · intro hp
      obtain ⟨r', h1, h2⟩ := pre_head hp
      have h3 : d = 47 := by simpa using congrArg (fun l => l.headD 0) h2
      rcases h.1 with g | g
      · rw [h1] at g; exact absurd g (by decide)
      · rw [h3] at g; exact absurd g (by decide)
/-- A literal of plain bytes goes to its quote. -/
theorem liF_plain : ∀ (l r : List UInt8) (k p : Nat), (∀ c ∈ l, c ≠ 10 ∧ c ≠ 34 ∧ c ≠ 92) → (l ++ 34 :: r).length ≤ k → liF 34 k p (l ++ 34 :: r) = p + l.length + 1
  | [], r, k, p, _, h => by
    obtain ⟨k, rfl⟩ : ∃ k', k = k' + 1 := ⟨k - 1, by simp at h; omega⟩
    show liF 34 (k + 1) p (34 :: r) = p + 0 + 1
    rw [liF, if_neg (by decide), if_pos rfl]
  | c :: l, r, k, p, hc, h => by
    obtain ⟨k, rfl⟩ : ∃ k', k = k' + 1 := ⟨k - 1, by simp at h; omega⟩
    obtain ⟨h1, h2, h3⟩ := hc c (by simp)
    rw [List.cons_append, liF, if_neg h1, if_neg h2, if_neg h3, liF_plain l r k (p + 1) (fun x hx => hc x (by simp [hx])) (by simp at h ⊢; omega), List.length_cons]
    omega
theorem TokOk.plit (b : List UInt8) (hb : ∀ c ∈ b, c ≠ 10 ∧ c ≠ 34 ∧ c ≠ 92) (hu : unqL (34 :: (b ++ [34])) = some b) : TokOk (34 :: (b ++ [34])) 3 ⟨b.toArray⟩ 0 := by
  refine ⟨by simp, ⟨by show blB 34 = false; decide, by show (34 : UInt8) ≠ 47; decide⟩, fun s p r hr hd => ?_⟩
  have hlen : (34 :: (b ++ [34])).length = b.length + 2 := by simp
  have hli : liL (34 :: (b ++ [34]) ++ r) = (34 :: (b ++ [34])).length := by
    have e : 34 :: (b ++ [34]) ++ r = 34 :: (b ++ 34 :: r) := by simp
    rw [e]
    show liF 34 (b ++ 34 :: r).length 1 (b ++ 34 :: r) = _
    rw [liF_plain b r _ 1 hb (Nat.le_refl _), hlen]
    omega
  have ht : (34 :: (b ++ [34]) ++ r).take (34 :: (b ++ [34])).length = 34 :: (b ++ [34]) := by rw [List.take_append_of_le_length (Nat.le_refl _), List.take_length]
  show tkR s p 34 = _
  unfold tkR
  simp only [hd, hli, ht, hu, if_neg (show ¬ clN 34 = 0 by decide), if_neg (show ¬ clN 34 = 1 by decide), if_pos (show clN 34 = 2 by decide)]
  rw [if_neg (by omega)]

/-! The law's words. -/
structure Lw where
  t : List UInt8
  k : Nat
  x : List UInt8
  n : Int
def Lw.id_ (t : List UInt8) : Lw := ⟨t, 1, t, 0⟩
def Lw.sg_ (c : UInt8) : Lw := ⟨[c], 4, [c], 0⟩
def Lw.nm_ (c : UInt8) (n : Int) : Lw := ⟨[c], 2, [c], n⟩
def Lw.li_ (b : List UInt8) : Lw := ⟨34 :: (b ++ [34]), 3, b, 0⟩
structure Lw.Ok (x : Lw) : Prop where
  tok : TokOk x.t x.k ⟨x.x.toArray⟩ x.n
  few : x.t.length ≤ 12
theorem Lw.ok_id (c : UInt8) (t : List UInt8) (h : (ltZ c.toNat && t.all fun x => wdZ x.toNat) = true) (hl : t.length < 12) : (Lw.id_ (c :: t)).Ok := by
  rw [Bool.and_eq_true, List.all_eq_true] at h
  exact ⟨TokOk.ident h.1 h.2 (by omega), by show t.length + 1 ≤ 12; omega⟩
theorem Lw.ok_sg (c : UInt8) (h : sgB c = true) : (Lw.sg_ c).Ok := ⟨TokOk.sign h, by show 1 ≤ 12; decide⟩
theorem Lw.ok_nm (c : UInt8) (n : Int) (h : dgZ c.toNat = true) (hv : vlR ⟨#[c]⟩ = (n, 0)) : (Lw.nm_ c n).Ok := ⟨TokOk.num h (fun x hx => by cases hx) hv, by show 1 ≤ 12; decide⟩
theorem Lw.ok_li (b : List UInt8) (hb : (b.all fun c => decide (c ≠ 10 ∧ c ≠ 34 ∧ c ≠ 92)) = true) (hu : unqL (34 :: (b ++ [34])) = some b) (hl : b.length ≤ 10) : (Lw.li_ b).Ok := by
  rw [List.all_eq_true] at hb
  exact ⟨TokOk.plit b (fun c hc => of_decide_eq_true (hb c hc)) hu, by show (34 :: (b ++ [34])).length ≤ 12; simp; omega⟩
def lwT : List Lw := [.id_ [109, 101, 115, 115, 97, 103, 101], .id_ [65], .sg_ 123, .id_ [105, 110, 116, 51, 50], .id_ [97], .sg_ 61, .nm_ 49 1, .sg_ 59, .sg_ 125, .id_ [101, 110, 117, 109], .id_ [66], .nm_ 48 0, .id_ [114, 101, 112, 101, 97, 116, 101, 100], .id_ [111, 112, 116, 105, 111, 110, 97, 108], .id_ [109, 97, 112], .sg_ 60, .id_ [115, 116, 114, 105, 110, 103], .sg_ 44, .sg_ 62, .id_ [111, 110, 101, 111, 102], .id_ [111], .id_ [114, 101, 115, 101, 114, 118, 101, 100], .nm_ 50 2, .id_ [116, 111], .id_ [109, 97, 120], .li_ [120], .id_ [105, 109, 112, 111, 114, 116], .id_ [112, 117, 98, 108, 105, 99], .li_ [112, 46, 112, 114, 111, 116, 111], .id_ [112, 97, 99, 107, 97, 103, 101], .sg_ 46, .id_ [115, 101, 114, 118, 105, 99, 101], .id_ [114, 112, 99], .sg_ 40, .sg_ 41, .id_ [114, 101, 116, 117, 114, 110, 115], .sg_ 91, .id_ [106, 115, 111, 110, 95, 110, 97, 109, 101], .li_ [107], .sg_ 93, .sg_ 45, .id_ [111, 112, 116, 105, 111, 110], .li_ [121, 32, 122]]
theorem lwT_ok : ∀ x ∈ lwT, x.Ok := by
  intro x hx
  unfold lwT at hx
  simp only [List.mem_cons, List.mem_nil_iff, or_false] at hx
  rcases hx with rfl | rfl | rfl | rfl | rfl | rfl | rfl | rfl | rfl | rfl | rfl | rfl | rfl | rfl | rfl | rfl | rfl | rfl | rfl | rfl | rfl | rfl | rfl | rfl | rfl | rfl | rfl | rfl | rfl | rfl | rfl | rfl | rfl | rfl | rfl | rfl | rfl | rfl | rfl | rfl | rfl | rfl | rfl
  · exact Lw.ok_id _ _ (by decide) (by decide)
  · exact Lw.ok_id _ _ (by decide) (by decide)
  · exact Lw.ok_sg _ (by decide)
  · exact Lw.ok_id _ _ (by decide) (by decide)
  · exact Lw.ok_id _ _ (by decide) (by decide)
  · exact Lw.ok_sg _ (by decide)
  · exact Lw.ok_nm _ _ (by decide) (by decide +kernel)
  · exact Lw.ok_sg _ (by decide)
  · exact Lw.ok_sg _ (by decide)
  · exact Lw.ok_id _ _ (by decide) (by decide)
  · exact Lw.ok_id _ _ (by decide) (by decide)
  · exact Lw.ok_nm _ _ (by decide) (by decide +kernel)
  · exact Lw.ok_id _ _ (by decide) (by decide)
  · exact Lw.ok_id _ _ (by decide) (by decide)
  · exact Lw.ok_id _ _ (by decide) (by decide)
  · exact Lw.ok_sg _ (by decide)
  · exact Lw.ok_id _ _ (by decide) (by decide)
  · exact Lw.ok_sg _ (by decide)
  · exact Lw.ok_sg _ (by decide)
  · exact Lw.ok_id _ _ (by decide) (by decide)
  · exact Lw.ok_id _ _ (by decide) (by decide)
  · exact Lw.ok_id _ _ (by decide) (by decide)
  · exact Lw.ok_nm _ _ (by decide) (by decide +kernel)
  · exact Lw.ok_id _ _ (by decide) (by decide)
  · exact Lw.ok_id _ _ (by decide) (by decide)
  · exact Lw.ok_li _ (by decide) (by decide +kernel) (by decide)
  · exact Lw.ok_id _ _ (by decide) (by decide)
  · exact Lw.ok_id _ _ (by decide) (by decide)
  · exact Lw.ok_li _ (by decide) (by decide +kernel) (by decide)
  · exact Lw.ok_id _ _ (by decide) (by decide)
  · exact Lw.ok_sg _ (by decide)
  · exact Lw.ok_id _ _ (by decide) (by decide)
  · exact Lw.ok_id _ _ (by decide) (by decide)
  · exact Lw.ok_sg _ (by decide)
  · exact Lw.ok_sg _ (by decide)
  · exact Lw.ok_id _ _ (by decide) (by decide)
  · exact Lw.ok_sg _ (by decide)
  · exact Lw.ok_id _ _ (by decide) (by decide)
  · exact Lw.ok_li _ (by decide) (by decide +kernel) (by decide)
  · exact Lw.ok_sg _ (by decide)
  · exact Lw.ok_sg _ (by decide)
  · exact Lw.ok_id _ _ (by decide) (by decide)
  · exact Lw.ok_li _ (by decide) (by decide +kernel) (by decide)
def gpT : List (List UInt8) := [[32], [10], [32, 32, 9], [32, 47, 47, 32, 99, 32, 59, 32, 125, 10], [47, 42, 32, 123, 32, 42, 47], [13, 10, 32, 47, 42, 10, 42, 47, 32]]
structure GpOk (g : List UInt8) : Prop where
  sep : SepOk g
  hd : ∃ c r, g = c :: r ∧ wdZ c.toNat = false
  few : g.length ≤ 12
theorem gpT_ok : ∀ g ∈ gpT, GpOk g := by
  have b32 : SepOk [32] := SepOk.blank rfl
  have b10 : SepOk [10] := SepOk.blank rfl
  have b9 : SepOk [9] := SepOk.blank rfl
  have b13 : SepOk [13] := SepOk.blank rfl
  intro g hg
  unfold gpT at hg
  simp only [List.mem_cons, List.mem_nil_iff, or_false] at hg
  rcases hg with rfl | rfl | rfl | rfl | rfl | rfl
  · exact ⟨b32, ⟨_, _, rfl, by decide⟩, by decide⟩
  · exact ⟨b10, ⟨_, _, rfl, by decide⟩, by decide⟩
  · exact ⟨(b32.app b32).app b9, ⟨_, _, rfl, by decide⟩, by decide⟩
  · exact ⟨b32.app (SepOk.line (a := [32, 99, 32, 59, 32, 125]) (by decide)), ⟨_, _, rfl, by decide⟩, by decide⟩
  · exact ⟨SepOk.remark (a := [32, 123, 32]) (index_end _ (by decide)), ⟨_, _, rfl, by decide⟩, by decide⟩
  · exact ⟨(((b13.app b10).app b32).app (SepOk.remark (a := [10]) (index_end _ (by decide)))).app b32, ⟨_, _, rfl, by decide⟩, by decide⟩
def hdT : List UInt8 := [115, 121, 110, 116, 97, 120, 61, 34, 112, 114, 111, 116, 111, 51, 34, 59]
def hdI : List It := [⟨[], [115, 121, 110, 116, 97, 120], 1, ⟨#[115, 121, 110, 116, 97, 120]⟩, 0⟩, ⟨[], [61], 4, ⟨#[61]⟩, 0⟩, ⟨[], [34, 112, 114, 111, 116, 111, 51, 34], 3, ⟨#[112, 114, 111, 116, 111, 51]⟩, 0⟩, ⟨[], [59], 4, ⟨#[59]⟩, 0⟩]
def itOf (q : List UInt8 × Lw) : It := ⟨q.1, q.2.t, q.2.k, ⟨q.2.x.toArray⟩, q.2.n⟩
/-- The head, and words with something ahead of each. -/
def txL (l : List (List UInt8 × Lw)) : List UInt8 := hdT ++ l.flatMap fun q => q.1 ++ q.2.t
theorem txL_snoc (l : List (List UInt8 × Lw)) (q : List UInt8 × Lw) : txL (l ++ [q]) = txL l ++ q.1 ++ q.2.t := by simp [txL]
theorem its_ok : ∀ (l : List (List UInt8 × Lw)), (∀ q ∈ l, GpOk q.1 ∧ q.2.Ok) → ItsOk (l.map itOf) [] ∧ StopB (flatI (l.map itOf) ++ [])
  | [], _ => ⟨trivial, StopB.nil⟩
  | q :: l, h => by
    obtain ⟨h1, h2⟩ := its_ok l fun x hx => h x (by simp [hx])
    obtain ⟨g1, g2⟩ := h q (by simp)
    refine ⟨⟨g1.sep, g2.tok, h2, h1⟩, ?_⟩
    obtain ⟨c, r, e, hc⟩ := g1.hd
    have : flatI ((q :: l).map itOf) ++ [] = c :: (r ++ (q.2.t ++ flatI (l.map itOf))) := by
      simp [flatI, itOf, e]
    rw [this]
    exact StopB.cons _ hc
theorem hd_ok {l : List It} (h : ItsOk l []) (hs : StopB (flatI l ++ [])) : ItsOk (hdI ++ l) [] := by
  refine ⟨SepOk.nil, TokOk.ident (c := 115) (by decide) (by decide) (by decide), ?_, SepOk.nil, TokOk.sign (by decide), ?_, SepOk.nil, TokOk.plit [112, 114, 111, 116, 111, 51] (by decide) (by decide +kernel), ?_, SepOk.nil, TokOk.sign (by decide), ?_, h⟩
  · exact StopB.cons _ (by decide)
  · exact StopB.cons _ (by decide)
  · exact StopB.cons _ (by decide)
  · exact hs
theorem er_places : ∀ (l : List It) (p : Nat), erL (placesI l p) = l.map fun i => (⟨i.k, 0, i.x, i.n⟩ : Wd)
  | [], p => rfl
  | i :: l, p => by
    have := er_places l (p + i.pad.length + i.t.length)
    unfold erL at this ⊢
    rw [placesI, List.map_cons, List.map_cons, this]
    rfl
/-- What a text of words is cut into, but for places. -/
def wdsOf (l : List Lw) : List Wd := (hdI.map fun i : It => (⟨i.k, 0, i.x, i.n⟩ : Wd)) ++ (l.map fun q : Lw => (⟨q.k, 0, ⟨q.x.toArray⟩, q.n⟩ : Wd)) ++ [⟨0, 0, ⟨#[]⟩, 0⟩]
theorem words_tx {s : ByteArray} {l : List (List UInt8 × Lw)} (hl : ∀ q ∈ l, GpOk q.1 ∧ q.2.Ok) (hs : s.size ≤ 65536) (hd : s.data.toList = txL l) : (wordsR s).e = 0 ∧ erL (wordsR s).l = wdsOf (l.map Prod.snd) := by
  obtain ⟨h1, h2⟩ := its_ok l hl
  have hw := words_of (s := s) (l := hdI ++ l.map itOf) (tail := []) hs (hd_ok h1 h2) rfl (by
    rw [hd, List.append_nil]
    unfold txL flatI
    rw [List.flatMap_append]
    have : (l.map itOf).flatMap (fun i => i.pad ++ i.t) = l.flatMap fun q => q.1 ++ q.2.t := by rw [List.flatMap_map]; rfl
    rw [this]
    rfl)
  rw [hw]
  refine ⟨rfl, ?_⟩
  show (placesI (hdI ++ l.map itOf) 0 ++ [(⟨0, s.size, ⟨#[]⟩, 0⟩ : Wd)]).map Wd.er = _
  rw [List.map_append]
  show erL (placesI (hdI ++ l.map itOf) 0) ++ _ = _
  rw [er_places, List.map_append]
  unfold wdsOf
  congr 1
  congr 1
  rw [List.map_map, List.map_map]
  rfl
theorem txL_few : ∀ (l : List (List UInt8 × Lw)), (∀ q ∈ l, GpOk q.1 ∧ q.2.Ok) → (txL l).length ≤ 16 + 24 * l.length := by
  intro l h
  unfold txL
  rw [List.length_append]
  have : (l.flatMap fun q => q.1 ++ q.2.t).length ≤ 24 * l.length := by
    induction l with
    | nil => simp
    | cons q l ih =>
      have := ih fun x hx => h x (by simp [hx])
      have h1 := (h q (by simp)).1.few
      have h2 := (h q (by simp)).2.few
      rw [List.flatMap_cons, List.length_append, List.length_append, List.length_cons]
      omega
  have h3 : hdT.length = 16 := rfl
  omega
end Go.Proofs.YthmdaejlopjjoaaGreatDoor
