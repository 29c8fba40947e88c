/-
  Plain mathematics of lex: words of seeds are cut as they were, joined, or with blanks and remarks between them. No program.
-/
import Derived.Test.YtoineheocipmaaaGreatDoorLexDM
import Derived.Test.YtoineheocipmaaaGreatDoorLexJ
import Derived.Test.YtoineheocipmaaaGreatDoorBrg
namespace Go.Proofs.YtoineheocipmaaaGreatDoor
set_option linter.unusedVariables false
set_option linter.unusedSimpArgs false

/-- A word that is spelt as a token. -/
structure WiOk (x : Wi) : Prop where
  k : 0 ≤ x.k
  t : TokOk (spW x) x.k.toNat x.t x.n
  few : x.t.size ≤ 50
def itI (pad : List UInt8) (x : Wi) : It := ⟨pad, spW x, x.k.toNat, x.t, x.n⟩
def itsJ : List Wi → List It
  | [] => []
  | x :: l => itI [] x :: l.map (itI [32])
theorem jn_fold : ∀ (l : List Wi) (a : List UInt8), a ≠ [] → (∀ x ∈ l, WiOk x) → l.foldl (fun a x => jnA a (spW x)) a = a ++ flatI (l.map (itI [32]))
  | [], a, _, _ => by simp [flatI]
  | x :: l, a, ha, h => by
    have hx := (h x (by simp)).t.ne
    have e : jnA a (spW x) = a ++ 32 :: spW x := by unfold jnA; rw [if_neg hx, if_neg ha]
    rw [List.foldl_cons, e, jn_fold l _ (by simp) (fun y hy => h y (by simp [hy]))]
    simp [flatI, itI]
theorem jL_its (l : List Wi) (h : ∀ x ∈ l, WiOk x) : jL l = flatI (itsJ l) := by
  cases l with
  | nil => rfl
  | cons x l =>
    have hx := (h x (by simp)).t.ne
    have e : jnA [] (spW x) = spW x := by unfold jnA; rw [if_neg hx, if_pos rfl]
    show l.foldl (fun a x => jnA a (spW x)) (jnA [] (spW x)) = _
    rw [e, jn_fold l _ hx (fun y hy => h y (by simp [hy]))]
    simp [flatI, itsJ, itI]
/-- What may stand between two words. -/
structure PadOk (pad : List UInt8) : Prop where
  sep : SepOk pad
  stop : ∃ c r, pad = c :: r ∧ wdZ c.toNat = false
theorem PadOk.stopB {pad : List UInt8} (h : PadOk pad) (r : List UInt8) : StopB (pad ++ r) := by
  obtain ⟨c, r', rfl, hc⟩ := h.stop
  exact StopB.cons _ hc
theorem its_pads : ∀ (l : List (List UInt8 × Wi)) (r : List UInt8), (∀ q ∈ l, PadOk q.1 ∧ WiOk q.2) → StopB r → ItsOk (l.map fun q => itI q.1 q.2) r ∧ StopB (flatI (l.map fun q => itI q.1 q.2) ++ r)
  | [], r, _, hr => ⟨trivial, hr⟩
  | q :: l, r, h, hr => by
    obtain ⟨h1, h2⟩ := h q (by simp)
    obtain ⟨i1, i2⟩ := its_pads l r (fun y hy => h y (by simp [hy])) hr
    refine ⟨⟨h1.sep, h2.t, i2, i1⟩, ?_⟩
    have e : flatI ((q :: l).map fun q => itI q.1 q.2) ++ r = q.1 ++ (spW q.2 ++ (flatI (l.map fun q => itI q.1 q.2) ++ r)) := by simp [flatI, itI]
    rw [e]
    exact h1.stopB _
theorem pad_32 : PadOk [32] := ⟨SepOk.blank rfl, 32, [], rfl, by decide⟩
theorem its_join (l : List Wi) (r : List UInt8) (h : ∀ x ∈ l, WiOk x) (hr : StopB r) : ItsOk (itsJ l) r := by
  cases l with
  | nil => trivial
  | cons x l =>
    have e : l.map (itI [32]) = (l.map fun x => (([32] : List UInt8), x)).map fun q => itI q.1 q.2 := by simp
    have := its_pads (l.map fun x => (([32] : List UInt8), x)) r (fun q hq => by
      obtain ⟨y, hy, rfl⟩ := List.mem_map.1 hq
      exact ⟨pad_32, h y (by simp [hy])⟩) hr
    rw [← e] at this
    exact ⟨SepOk.nil, (h x (by simp)).t, this.2, this.1⟩
/-- The words of some items, but for their places. -/
structure Alike (l : List Wi) (m : Nat) (L : List Wd) : Prop where
  len : L.length = l.length + 1
  last : L[l.length]? = some ⟨0, m, ⟨#[]⟩, 0⟩
  same : ∀ i (h : i < l.length), ∃ y, L[i]? = some y ∧ (y.k : Int) = l[i].k ∧ y.t = l[i].t ∧ y.n = l[i].n
theorem alike_of {l : List Wi} {its : List It} (m p : Nat) (hlen : its.length = l.length) (h : ∀ i (h : i < l.length), ∃ pad, its[i]? = some (itI pad l[i])) (hk : ∀ x ∈ l, WiOk x) :
    Alike l m (placesI its p ++ [⟨0, m, ⟨#[]⟩, 0⟩]) := by
  have hpl := placesI_len its p
  refine ⟨by simp [hpl, hlen], ?_, fun i hi => ?_⟩
  · rw [List.getElem?_append_right (by omega), hpl, hlen]
    simp
  · obtain ⟨pad, hp⟩ := h i hi
    have hi2 : i < its.length := by omega
    rw [List.getElem?_eq_getElem hi2] at hp
    have hp := Option.some.inj hp
    rw [List.getElem?_append_left (by omega), placesI_at its p i hi2, hp]
    exact ⟨_, rfl, by show ((l[i].k.toNat : Nat) : Int) = _; have := (hk l[i] (List.getElem_mem hi)).k; omega, rfl, rfl⟩
theorem itsJ_len (l : List Wi) : (itsJ l).length = l.length := by cases l <;> simp [itsJ]
theorem itsJ_at (l : List Wi) : ∀ i (h : i < l.length), ∃ pad, (itsJ l)[i]? = some (itI pad l[i]) := by
  intro i hi
  cases l with
  | nil => simp at hi
  | cons x l =>
    cases i with
    | zero => exact ⟨[], rfl⟩
    | succ i =>
      have hi' : i < l.length := by simpa using hi
      exact ⟨[32], by simp [itsJ, hi']⟩
/-- What is joined is cut into the same words. -/
theorem back_words {l : List Wi} {s : ByteArray} (h : ∀ x ∈ l, WiOk x) (hs : s.size ≤ 65536) (hd : s.data.toList = jL l) :
    ∃ L, wordsR s = ⟨0, 0, L⟩ ∧ Alike l s.size L := by
  have hw := words_of (l := itsJ l) (tail := []) hs (its_join l [] h StopB.nil) rfl (by rw [hd, jL_its l h]; simp)
  exact ⟨_, hw, alike_of s.size 0 (itsJ_len l) (itsJ_at l) h⟩

theorem jL_few (l : List Wi) (h : ∀ x ∈ l, WiOk x) : (jL l).length ≤ l.length * 203 := by
  have key : ∀ (l : List Wi) (a : List UInt8), (∀ x ∈ l, WiOk x) → (l.foldl (fun a x => jnA a (spW x)) a).length ≤ a.length + l.length * 203 := by
    intro l
    induction l with
    | nil => intro a _; simp
    | cons x l ih =>
      intro a hx
      have h1 := ih (jnA a (spW x)) (fun y hy => hx y (by simp [hy]))
      have h2 := jnA_len a (spW x)
      have h3 := spW_len x
      have h4 := (hx x (by simp)).few
      simp only [List.foldl_cons, List.length_cons]
      omega
  have := key l [] h
  simpa [jL] using this
/- Words of seeds. -/
def idM : List UInt8 := [97, 98, 99, 88, 89, 90, 95, 48, 49, 57]
def sgM : List UInt8 := [123, 125, 91, 93, 40, 41, 60, 62, 61, 59, 44, 46, 45]
def idC (c : UInt8) : UInt8 := idM.getD (c.toNat % 10) 0
def idT (b : List UInt8) : List UInt8 := 95 :: b.map idC
theorem idC_ok (c : UInt8) : wdZ ((idC c).toNat : Nat) = true := by
  have key : ∀ m : Fin 10, wdZ ((idM.getD m.val 0).toNat : Nat) = true := by decide +kernel
  exact key ⟨c.toNat % 10, Nat.mod_lt _ (by omega)⟩
theorem sgM_ok (n : Nat) : sgB (sgM.getD (n % 13) 0) = true := by
  have key : ∀ m : Fin 13, sgB (sgM.getD m.val 0) = true := by decide +kernel
  exact key ⟨n % 13, Nat.mod_lt _ (by omega)⟩
/-- The word of a seed. -/
def madeW (k n : Nat) (b : List UInt8) : Wi :=
  if k = 0 then ⟨1, 0, ⟨(idT (b.take 31)).toArray⟩, 0⟩
  else if k = 1 then ⟨2, 0, ⟨(dgL 10 11 n).toArray⟩, n⟩
  else if k = 2 then ⟨2, 0, ⟨(48 :: dgL 8 11 n).toArray⟩, n⟩
  else if k = 3 then ⟨2, 0, ⟨(48 :: 88 :: dgL 16 11 n).toArray⟩, n⟩
  else if k = 4 then ⟨3, 0, ⟨(b.take 40).toArray⟩, 0⟩
  else ⟨4, 0, ⟨#[sgM.getD (n % 13) 0]⟩, 0⟩
theorem made_ok (k n : Nat) (b : List UInt8) (hn : n ≤ 2147483648) : WiOk (madeW k n b) := by
  have key : ∀ (j : Nat) (t : List UInt8) (v : Int), j ≠ 3 → TokOk t j ⟨t.toArray⟩ v → t.length ≤ 50 → WiOk ⟨j, 0, ⟨t.toArray⟩, v⟩ := by
    intro j t v hj ht hl
    refine ⟨by show (0 : Int) ≤ (j : Int); omega, ?_, hl⟩
    have e : spW ⟨j, 0, ⟨t.toArray⟩, v⟩ = t := by
      unfold spW
      rw [if_neg (by show ¬ ((j : Int) = 3); omega)]
    rw [e]
    exact ht
  unfold madeW
  by_cases h0 : k = 0
  · rw [if_pos h0]
    refine key 1 _ 0 (by omega) (TokOk.ident (by decide) (fun x hx => ?_) (by simp; omega)) (by simp [idT]; omega)
    obtain ⟨c, _, rfl⟩ := List.mem_map.1 hx
    exact idC_ok c
  rw [if_neg h0]
  by_cases h1 : k = 1
  · rw [if_pos h1]
    exact key 2 _ n (by omega) (tok_ten hn) (by have := (dgL_len 10 11 n).2; omega)
  rw [if_neg h1]
  by_cases h2 : k = 2
  · rw [if_pos h2]
    exact key 2 _ n (by omega) (tok_eight hn) (by have := (dgL_len 8 11 n).2; simp; omega)
  rw [if_neg h2]
  by_cases h3 : k = 3
  · rw [if_pos h3]
    exact key 2 _ n (by omega) (tok_hex hn) (by have := (dgL_len 16 11 n).2; simp; omega)
  rw [if_neg h3]
  by_cases h4 : k = 4
  · rw [if_pos h4]
    exact ⟨by show (0 : Int) ≤ 3; decide, TokOk.lit (b.take 40), by show (b.take 40).length ≤ 50; simp; omega⟩
  rw [if_neg h4]
  exact key 4 [sgM.getD (n % 13) 0] 0 (by omega) (TokOk.sign (sgM_ok n)) (by simp)

/- What is put in between words. -/
theorem index_stepK (c : UInt8) (r : List UInt8) : Lib.index (c :: r) [42, 47] = if Lib.hasPrefix (c :: r) [42, 47] = true then 0 else if Lib.index r [42, 47] = -1 then -1 else Lib.index r [42, 47] + 1 := by
  rw [Lib.index]
  simp only [Lib.hasPrefix, beq_iff_eq]
  rfl
def noEnd : List UInt8 → Bool
  | [] => true
  | [_] => true
  | c :: d :: r => !(c == 42 && d == 47) && noEnd (d :: r)
theorem index_end : ∀ (a : List UInt8), noEnd a = true → ∀ r, Lib.index (a ++ 42 :: 47 :: r) [42, 47] = (a.length : Int)
  | [], _, r => by
    rw [List.nil_append, index_stepK, if_pos (by simp [Lib.hasPrefix, List.isPrefixOf])]
    rfl
  | [c], h, r => by
    have ih := index_end [] rfl r
    rw [List.nil_append] at ih
    rw [List.cons_append, List.nil_append, index_stepK, if_neg, ih]
    · rfl
    · intro hp
      obtain ⟨r', _, h2⟩ := pre_head hp
      simp at h2
  | c :: d :: a, h, r => by
    simp only [noEnd, Bool.and_eq_true, Bool.not_eq_true', Bool.and_eq_false_iff] at h
    have ih := index_end (d :: a) h.2 r
    rw [List.cons_append, index_stepK, if_neg, ih, if_neg (by omega)]
    · simp
    · intro hp
      obtain ⟨r', h1, h2⟩ := pre_head hp
      have h3 : d = 47 := by simpa using congrArg (fun l => l.headD 0) h2
      rcases h.1 with g | g
      · rw [h1] at g; exact absurd g (by decide)
      · rw [h3] at g; exact absurd g (by decide)
def padM : List (List UInt8) :=
  [[32], [10], [9, 13, 10], [32, 47, 47, 32, 39, 108, 101, 116, 32, 42, 47, 10], [47, 42, 32, 47, 47, 32, 10, 32, 42, 42, 32, 42, 47], [32, 47, 42, 42, 47, 47, 42, 42, 42, 47, 10]]
theorem pad_ok (i : Nat) (h : i < 6) : PadOk (padM.getD i []) ∧ (padM.getD i []).length ≤ 13 := by
  have b32 : SepOk [32] := SepOk.blank rfl
  have b10 : SepOk [10] := SepOk.blank rfl
  have b9 : SepOk [9] := SepOk.blank rfl
  have b13 : SepOk [13] := SepOk.blank rfl
  obtain rfl | rfl | rfl | rfl | rfl | rfl : i = 0 ∨ i = 1 ∨ i = 2 ∨ i = 3 ∨ i = 4 ∨ i = 5 := by omega
  · exact ⟨⟨b32, _, _, rfl, by decide⟩, by decide⟩
  · exact ⟨⟨b10, _, _, rfl, by decide⟩, by decide⟩
  · exact ⟨⟨(b9.app b13).app b10, _, _, rfl, by decide⟩, by decide⟩
  · exact ⟨⟨b32.app (SepOk.line (a := [32, 39, 108, 101, 116, 32, 42, 47]) (by decide)), _, _, rfl, by decide⟩, by decide⟩
  · exact ⟨⟨SepOk.remark (a := [32, 47, 47, 32, 10, 32, 42, 42, 32]) (index_end _ (by decide)), _, _, rfl, by decide⟩, by decide⟩
  · exact ⟨⟨((b32.app (SepOk.remark (a := []) (index_end _ rfl))).app (SepOk.remark (a := [42]) (index_end _ rfl))).app b10, _, _, rfl, by decide⟩, by decide⟩
/-- The text of words with things between them, and the things. -/
def blL (f : Nat → List UInt8) (l : List Wi) : Nat → List UInt8
  | 0 => []
  | i + 1 => blL f l i ++ f i ++ (if h : i < l.length then spW l[i] else [])
def padsOf (f : Nat → List UInt8) (l : List Wi) (i : Nat) : List (List UInt8 × Wi) := (List.range i).filterMap fun j => if h : j < l.length then some (f j, l[j]) else none
theorem padsOf_snoc (f : Nat → List UInt8) (l : List Wi) (i : Nat) (h : i < l.length) : padsOf f l (i + 1) = padsOf f l i ++ [(f i, l[i])] := by
  unfold padsOf
  rw [List.range_succ, List.filterMap_append]
  simp [h]
theorem padsOf_len (f : Nat → List UInt8) (l : List Wi) : ∀ i, i ≤ l.length → (padsOf f l i).length = i
  | 0, _ => rfl
  | i + 1, h => by rw [padsOf_snoc f l i (by omega), List.length_append, padsOf_len f l i (by omega)]; rfl
theorem padsOf_at (f : Nat → List UInt8) (l : List Wi) : ∀ i, i ≤ l.length → ∀ j (h : j < i) (h2 : j < l.length), (padsOf f l i)[j]? = some (f j, l[j])
  | 0, _, j, h, _ => by omega
  | i + 1, hi, j, h, h2 => by
    have hl := padsOf_len f l i (by omega)
    rw [padsOf_snoc f l i (by omega)]
    by_cases e : j = i
    · subst e
      rw [List.getElem?_append_right (by omega), hl]
      simp
    · rw [List.getElem?_append_left (by omega)]
      exact padsOf_at f l i (by omega) j (by omega) h2
theorem blL_flat (f : Nat → List UInt8) (l : List Wi) : ∀ i, i ≤ l.length → blL f l i = flatI ((padsOf f l i).map fun q => itI q.1 q.2)
  | 0, _ => rfl
  | i + 1, h => by
    rw [blL, blL_flat f l i (by omega), padsOf_snoc f l i (by omega), dif_pos (show i < l.length by omega)]
    simp [flatI, itI]
theorem blank_words {l : List Wi} {s : ByteArray} (f : Nat → List UInt8) (hf : ∀ i, PadOk (f i)) (h : ∀ x ∈ l, WiOk x) (hs : s.size ≤ 65536) (hd : s.data.toList = blL f l (l.length + 1) ++ [47, 47]) :
    ∃ L, wordsR s = ⟨0, 0, L⟩ ∧ Alike l s.size L := by
  have hlen := padsOf_len f l l.length (Nat.le_refl _)
  have hall : ∀ q ∈ padsOf f l l.length, PadOk q.1 ∧ WiOk q.2 := by
    intro q hq
    obtain ⟨j, hj, e⟩ := List.mem_iff_getElem.1 hq
    have := padsOf_at f l l.length (Nat.le_refl _) j (by omega) (by omega)
    rw [List.getElem?_eq_getElem hj, e] at this
    have := Option.some.inj this
    rw [this]
    exact ⟨hf j, h _ (List.getElem_mem _)⟩
  have htail : skL (f l.length ++ [47, 47]) = ((f l.length ++ [47, 47]).length, true) := by
    rw [(hf l.length).sep]
    simp [show skL [47, 47] = (2, true) from by decide +kernel]
  have hd2 : s.data.toList = flatI ((padsOf f l l.length).map fun q => itI q.1 q.2) ++ (f l.length ++ [47, 47]) := by
    rw [hd, blL, blL_flat f l l.length (Nat.le_refl _), dif_neg (by omega)]
    simp
  have hw := words_of hs (its_pads _ (f l.length ++ [47, 47]) hall ((hf l.length).stopB _)).1 htail hd2
  refine ⟨_, hw, alike_of s.size 0 (by simpa using hlen) (fun i hi => ⟨f i, ?_⟩) h⟩
  rw [List.getElem?_map, padsOf_at f l l.length (Nat.le_refl _) i (by omega) hi]
  rfl
end Go.Proofs.YtoineheocipmaaaGreatDoor
