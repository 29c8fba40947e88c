/-
  tree: words stand where they say. No program.
  tree: what is read stands where it says. No program.
-/
import Derived.Test.YthmdaejlopjjoaaGreatDoorGoA
namespace Go.Proofs.YthmdaejlopjjoaaGreatDoor
section
open Go.RowKit
set_option linter.unusedVariables false
set_option linter.unusedSimpArgs false

/-- A quote stands there. -/
def quoteAt (s : ByteArray) (a : Int) : Bool := startsB s a ⟨#[34]⟩ || startsB s a ⟨#[39]⟩
structure Pw (s : ByteArray) (x : Wd) : Prop where
  st : x.k ≠ 0 → x.k ≠ 3 → startsB s x.p x.t = true
  id : x.k = 1 → identL x.t.data.toList = true
  lit : x.k = 3 → quoteAt s x.p = true
  en : x.k = 0 → x.t = ⟨#[]⟩
  le : x.p ≤ s.size
/-- Words from q on, one behind the other. -/
def Pl (s : ByteArray) : Nat → List Wd → Prop
  | _, [] => True
  | q, x :: l => q ≤ x.p ∧ Pw s x ∧ Pl s (x.p + 1) l
theorem Pl.mono {s : ByteArray} {q q' : Nat} : ∀ {l : List Wd}, Pl s q l → q' ≤ q → Pl s q' l
  | [], _, _ => trivial
  | x :: l, h, hq => ⟨Nat.le_trans hq h.1, h.2⟩
theorem starts_pre {s t : ByteArray} {p : Nat} (hp : p < s.size) (n : Nat) (h : t.data.toList = (s.data.toList.drop p).take n) : startsB s p t = true := by
  unfold startsB
  rw [if_neg (by omega), h]
  show (List.isPrefixOf _ _) = true
  rw [List.isPrefixOf_iff_prefix]
  exact List.take_prefix ..
theorem ext_take (s : ByteArray) (p z : Nat) : (s.extract p (p + z)).data.toList = (s.data.toList.drop p).take z := by
  simp [List.take_drop]
theorem ext_one (s : ByteArray) {p : Nat} (hp : p < s.size) : (s.data.toList.drop p).take 1 = [s[p]] := by
  rw [List.drop_eq_getElem_cons (by simpa using hp)]
  rfl
theorem tk_pw {s : ByteArray} {p : Nat} (hp : p < s.size) (h : (tkR s p s[p]).e = 0) : Pw s ⟨(tkR s p s[p]).k, p, (tkR s p s[p]).t, (tkR s p s[p]).n⟩ := by
  unfold tkR at h ⊢
  by_cases h0 : clN s[p] = 0
  · simp only [if_pos h0] at h ⊢
    split at h
    · rename_i hi
      rw [if_pos hi]
      exact ⟨fun _ _ => starts_pre hp _ (ext_take s p _), fun _ => by simp only [ext_run]; exact hi, by simp, by simp, Nat.le_of_lt hp⟩
    · cases h
  · simp only [if_neg h0] at h ⊢
    by_cases h1 : clN s[p] = 1
    · simp only [if_pos h1] at h ⊢
      split at h
      · rename_i hi
        rw [if_pos hi]
        exact ⟨fun _ _ => starts_pre hp _ (ext_take s p _), by simp, by simp, by simp, Nat.le_of_lt hp⟩
      · rename_i hi
        simp only at h
        exact absurd h hi
    · simp only [if_neg h1] at h ⊢
      by_cases h2 : clN s[p] = 2
      · have hq := (cl_apart s[p]).2.2.1
        rw [h2] at hq
        simp only [if_pos h2] at h ⊢
        split at h
        · cases h
        · rename_i hi
          rw [if_neg hi]
          split at h
          · cases h
          · refine ⟨by simp, by simp, fun _ => ?_, by simp, Nat.le_of_lt hp⟩
            unfold quB at hq
            simp at hq
            unfold quoteAt
            rw [Bool.or_eq_true]
            rcases hq with e | e
            · left
              exact starts_pre hp 1 (by rw [ext_one s hp, e])
            · right
              exact starts_pre hp 1 (by rw [ext_one s hp, e])
      · simp only [if_neg h2] at h ⊢
        by_cases h3 : clN s[p] = 3
        · simp only [if_pos h3] at h ⊢
          exact ⟨fun _ _ => starts_pre hp _ (ext_take s p _), by simp, by simp, by simp, Nat.le_of_lt hp⟩
        · simp only [if_neg h3] at h
          cases h
theorem wdF_pl (s : ByteArray) : ∀ (k p : Nat), p ≤ s.size → s.size - p < k → ((wdF s k p).e = 0 → Pl s p (wdF s k p).l) ∧ (wdF s k p).at_ ≤ s.size
  | 0, p, _, h => by omega
  | k + 1, p, hp, hk => by
    rw [wdF]
    have hle := skL_le (s.data.toList.drop p).length (s.data.toList.drop p)
    have hdl : (s.data.toList.drop p).length = s.size - p := by simp
    have hq : p + (skL (s.data.toList.drop p)).1 ≤ s.size := by unfold skL; omega
    have hpq : p ≤ p + (skL (s.data.toList.drop p)).1 := Nat.le_add_right _ _
    generalize p + (skL (s.data.toList.drop p)).1 = q at *
    by_cases h1 : (skL (s.data.toList.drop p)).2 = false
    · simp only [if_pos h1]; exact ⟨fun e => (by cases e), hq⟩
    simp only [if_neg h1]
    by_cases h2 : q = s.size
    · simp only [if_pos h2]
      exact ⟨fun _ => ⟨hpq, ⟨by simp, by simp, by simp, by simp, hq⟩, trivial⟩, Nat.zero_le _⟩
    simp only [if_neg h2]
    have hqs : q < s.size := by omega
    have hgd : s.data.toList.getD q 0 = s[q] := by
      rw [List.getD_eq_getElem?_getD, List.getElem?_eq_getElem (by simpa using hqs)]; rfl
    simp only [hgd]
    by_cases h3 : (tkR s q s[q]).e ≠ 0
    · simp only [if_pos h3]; exact ⟨fun e => absurd e h3, hq⟩
    simp only [if_neg h3]
    have h3' : (tkR s q s[q]).e = 0 := by simpa using h3
    obtain ⟨z1, z2⟩ := tk_size hqs h3'
    obtain ⟨g1, g2⟩ := wdF_pl s k _ z2 (by omega)
    by_cases h4 : (wdF s k (q + (tkR s q s[q]).z)).e ≠ 0
    · simp only [if_pos h4]; exact ⟨fun e => absurd e h4, g2⟩
    simp only [if_neg h4]
    have h4' : (wdF s k (q + (tkR s q s[q]).z)).e = 0 := by simpa using h4
    exact ⟨fun _ => ⟨hpq, tk_pw hqs h3', (g1 h4').mono (by simp only; omega)⟩, Nat.zero_le _⟩
theorem words_pl {s : ByteArray} (hs : s.size ≤ 65536) : ((wordsR s).e = 0 → Pl s 0 (wordsR s).l) ∧ (wordsR s).at_ ≤ s.size := by
  unfold wordsR
  rw [if_neg (by omega)]
  exact wdF_pl s (s.size + 1) 0 (by omega) (by omega)
end
section
open Go.RowKit
set_option linter.unusedVariables false
set_option linter.unusedSimpArgs false

/-- What is read from q on: no place lies behind the end; what is left begins at a later one. -/
def Rz {α : Type} (s : ByteArray) (q : Nat) (P : α → Nat → Prop) : Pz α → Prop
  | .no p c => p ≤ s.size
  | .ok a l => ∃ n, q ≤ n ∧ Pl s n l ∧ P a n
variable {s : ByteArray}
theorem Rz.mono {α : Type} {q q0 : Nat} {P Q : α → Nat → Prop} {r : Pz α} (h : Rz s q P r) (hq : q0 ≤ q) (hP : ∀ a n, q ≤ n → P a n → Q a n) : Rz s q0 Q r := by
  cases r with
  | no p c => exact h
  | ok a l => obtain ⟨n, h1, h2, h3⟩ := h; exact ⟨n, by omega, h2, hP a n h1 h3⟩
theorem Rz.and {α β : Type} {q : Nat} {P : α → Nat → Prop} {Q : β → Nat → Prop} {r : Pz α} {f : α → List Wd → Pz β} (h : Rz s q P r) (hf : ∀ a l n, q ≤ n → Pl s n l → P a n → Rz s n Q (f a l)) : Rz s q Q (r.and f) := by
  cases r with
  | no p c => exact h
  | ok a l => obtain ⟨n, h1, h2, h3⟩ := h; exact (hf a l n h1 h2 h3).mono h1 fun _ _ _ e => e
theorem Pl.hd {q : Nat} {l : List Wd} (h : Pl s q l) : (hdW l).p ≤ s.size := by
  cases l with
  | nil => exact Nat.zero_le _
  | cons x l => exact h.2.1.le
theorem Pl.tl {q : Nat} {l : List Wd} (h : Pl s q l) : Pl s q l.tail := by
  cases l with
  | nil => exact trivial
  | cons x l => exact Pl.mono (s := s) h.2.2 (by have := h.1; omega)
theorem Pl.of_k {q : Nat} {l : List Wd} (h : Pl s q l) (hk : (hdW l).k ≠ 0 ∨ (hdW l).t ≠ ⟨#[]⟩) : q ≤ (hdW l).p ∧ Pw s (hdW l) ∧ Pl s ((hdW l).p + 1) l.tail := by
  cases l with
  | nil => rcases hk with e | e <;> exact absurd rfl e
  | cons x l => exact h
theorem rz_ok {α : Type} {q : Nat} {P : α → Nat → Prop} {a : α} {l : List Wd} (h : Pl s q l) (hP : P a q) : Rz s q P (.ok a l) := ⟨q, Nat.le_refl _, h, hP⟩
theorem rz_refuse {α : Type} {q q' : Nat} {P : α → Nat → Prop} {l : List Wd} (h : Pl s q' l) : Rz s q P (refuse l) := h.hd
theorem rz_room {α : Type} {q q' : Nat} {P : α → Nat → Prop} {l : List Wd} {n m : Nat} {r : Pz α} (h : Pl s q' l) (hr : Rz s q P r) : Rz s q P (roomP n m l r) := by
  unfold roomP
  split
  · exact h.hd
  · exact hr
theorem expP_z : ∀ (ss : List ByteArray) {q : Nat} {l : List Wd}, Pl s q l → Rz s q (fun _ _ => True) (expP ss l)
  | [], _, _, h => rz_ok h trivial
  | t :: r, q, l, h => by
    rw [expP]
    split
    · exact expP_z r h.tl
    · exact rz_refuse h
/-- A word that is taken. -/
structure Tkn (s : ByteArray) (k q : Nat) (w : Wd) (n : Nat) : Prop where
  k : w.k = k
  q : q ≤ w.p
  n : w.p < n
  pw : Pw s w
theorem ofP_z {k q : Nat} {l : List Wd} (h : Pl s q l) (hk : k ≠ 0) : Rz s q (Tkn s k q) (ofP k l) := by
  unfold ofP
  split
  · rename_i e
    obtain ⟨h1, h2, h3⟩ := h.of_k (.inl (by omega))
    exact ⟨(hdW l).p + 1, by omega, h3, e, h1, by omega, h2⟩
  · exact rz_refuse h
theorem litP_z {f : ByteArray → Bool} {q : Nat} {l : List Wd} (h : Pl s q l) : Rz s q (Tkn s 3 q) (litP f l) := by
  unfold litP
  split
  · exact ofP_z h (by decide)
  · exact rz_refuse h
theorem numP_z {b : Bool} {q : Nat} {l : List Wd} (h : Pl s q l) : Rz s q (fun _ _ => True) (numP b l) := by
  unfold numP
  split
  · exact (ofP_z h.tl (by decide)).and fun w l n _ hl _ => rz_ok hl trivial
  · exact (ofP_z h (by decide)).and fun w l n _ hl _ => rz_ok hl trivial
theorem addB_l (a b : ByteArray) : (addB a b).data.toList = a.data.toList ++ b.data.toList := rfl
theorem dotsF_z : ∀ (k : Nat) (b : ByteArray) {q : Nat} {l : List Wd}, Pl s q l → Rz s q (fun b' _ => ∃ r, b'.data.toList = b.data.toList ++ r ∧ (r = [] ∨ ∃ r', r = 46 :: r')) (dotsF k b l)
  | 0, b, q, l, h => Nat.zero_le _
  | k + 1, b, q, l, h => by
    rw [dotsF]
    split
    · refine (ofP_z h.tl (by decide)).and fun w l n _ hl hw => ?_
      refine (dotsF_z k _ hl).mono (Nat.le_refl _) fun b' n' _ ⟨r, h1, h2⟩ => ⟨46 :: (w.t.data.toList ++ r), ?_, .inr ⟨_, rfl⟩⟩
      rw [h1, addB_l, addB_l]
      show b.data.toList ++ [46] ++ w.t.data.toList ++ r = _
      simp
    · exact rz_ok h ⟨[], by simp, .inl rfl⟩
theorem fullP_z {start : ByteArray} {at_ q : Nat} {l : List Wd} (h : Pl s q l) (ha : at_ ≤ s.size) :
    Rz s q (fun b n => ∃ (t : ByteArray) (r : List UInt8), b.data.toList = start.data.toList ++ (t.data.toList ++ r) ∧ (r = [] ∨ ∃ r', r = 46 :: r') ∧ Tkn s 1 q (hdW l) n ∧ t = (hdW l).t ∧ b.size ≤ 128) (fullP start at_ l) := by
  unfold fullP ofP
  split
  · rename_i e
    obtain ⟨h1, h2, h3⟩ := h.of_k (.inl (by omega))
    show Rz s q _ ((dotsF (l.tail.length + 1) (addB start (hdW l).t) l.tail).and fun b l => if 128 < b.size then Pz.no at_ 5 else Pz.ok b l)
    refine (((dotsF_z (l.tail.length + 1) (addB start (hdW l).t) h3)).mono (q0 := q) (by omega) (Q := fun b n => (∃ r, b.data.toList = (addB start (hdW l).t).data.toList ++ r ∧ (r = [] ∨ ∃ r', r = 46 :: r')) ∧ (hdW l).p < n) fun b n hn hb => ⟨hb, hn⟩).and ?_
    rintro b l' n hn hl ⟨⟨r, hb, hr⟩, hp⟩
    split
    · exact ha
    · exact rz_ok hl ⟨(hdW l).t, r, by rw [hb, addB_l, List.append_assoc], hr, ⟨e, h1, hp, h2⟩, rfl, by omega⟩
  · exact rz_refuse h
/-- Up to the first period. -/
def fstL (l : List UInt8) : List UInt8 := l.takeWhile (· != 46)
/-- A name of a type begins there. -/
def TypAt (s : ByteArray) (p : Int) (b : ByteArray) : Prop := b.size ≤ 128 ∧ (startsB s p kDot = true ∨ (Lib.hasPrefix b.data.toList [46] = false ∧ startsB s p ⟨(fstL b.data.toList).toArray⟩ = true))
theorem fst_id {t r : List UInt8} (h : identL t = true) (hr : r = [] ∨ ∃ r', r = 46 :: r') : fstL (t ++ r) = t ∧ Lib.hasPrefix (t ++ r) [46] = false := by
  have h46 : ∀ c ∈ t, (c != 46) = true := by
    intro c hc
    unfold identL at h
    simp only [Bool.and_eq_true, List.all_eq_true] at h
    have := h.2 c hc
    rw [bne_iff_ne]
    rintro rfl
    revert this
    decide
  have hne : t ≠ [] := by
    rintro rfl
    simp [identL] at h
  constructor
  · unfold fstL
    rw [List.takeWhile_append_of_pos h46]
    rcases hr with rfl | ⟨r', rfl⟩ <;> simp
  · cases t with
    | nil => exact absurd rfl hne
    | cons c t =>
      have := h46 c (by simp)
      rw [bne_iff_ne] at this
      show (List.isPrefixOf [46] (c :: (t ++ r))) = false
      simp [List.isPrefixOf]
      exact fun e => this e.symm
theorem nameP_z {q : Nat} {l : List Wd} (h : Pl s q l) : Rz s q (fun b n => TypAt s (hdW l).p b ∧ q ≤ (hdW l).p ∧ (hdW l).p < n) (nameP l) := by
  unfold nameP
  split
  · rename_i e
    have hk : (hdW l).k ≠ 3 := by
      intro e3
      unfold sayW at e
      rw [if_pos e3] at e
      cases e
    have ht : (hdW l).t = kDot := by
      unfold sayW at e
      rwa [if_neg hk] at e
    obtain ⟨h1, h2, h3⟩ := h.of_k (.inr (by rw [ht]; decide))
    have hk0 : (hdW l).k ≠ 0 := fun e0 => by
      have := h2.en e0
      rw [ht] at this
      cases this
    have hs := h2.st hk0 hk
    rw [ht] at hs
    refine (fullP_z h3 h.hd).mono (by omega) fun b n hn ⟨_, _, _, _, _, _, hz⟩ => ⟨⟨hz, .inl hs⟩, h1, by omega⟩
  · refine (fullP_z h h.hd).mono (Nat.le_refl _) fun b n hn ⟨t, r, hb, hr, hw, ht, hz⟩ => ?_
    subst ht
    have hid := hw.pw.id hw.k
    obtain ⟨f1, f2⟩ := fst_id hid hr
    have hb' : b.data.toList = (hdW l).t.data.toList ++ r := by rw [hb]; rfl
    refine ⟨⟨hz, .inr ⟨by rw [hb']; exact f2, ?_⟩⟩, hw.q, hw.n⟩
    rw [hb', f1]
    exact hw.pw.st (by rw [hw.k]; decide) (by rw [hw.k]; decide)
theorem blkF_z {σ : Type} {step : σ → List Wd → Pz σ} {I : σ → Nat → Prop} (hm : ∀ x n n', n ≤ n' → I x n → I x n') (hs : ∀ x l q, Pl s q l → I x q → Rz s q I (step x l)) :
    ∀ (k : Nat) (x : σ) {q : Nat} {l : List Wd}, Pl s q l → I x q → Rz s q I (blkF step k x l)
  | 0, x, q, l, h, hx => Nat.zero_le _
  | k + 1, x, q, l, h, hx => by
    rw [blkF]
    split
    · exact rz_ok h.tl hx
    · exact (hs x l q h hx).and fun y l' n hn hl hy => blkF_z hm hs k y hl hy
theorem blkP_z {σ : Type} {step : σ → List Wd → Pz σ} {I : σ → Nat → Prop} (hm : ∀ x n n', n ≤ n' → I x n → I x n') (hs : ∀ x l q, Pl s q l → I x q → Rz s q I (step x l)) {x : σ} {q : Nat} {l : List Wd} (h : Pl s q l) (hx : I x q) : Rz s q I (blkP step x l) := by
  unfold blkP
  refine (expP_z _ h).and fun _ l' n hn hl _ => blkF_z hm hs _ x hl (hm x q n hn hx)
theorem spanP_z {max : Int} {b : Bool} {q : Nat} {l : List Wd} (h : Pl s q l) : Rz s q (fun _ _ => True) (spanP max b l) := by
  unfold spanP
  refine (numP_z h).and fun lo l2 n hn hl _ => ?_
  split
  · split
    · split
      · exact hl.tl.hd
      · exact rz_ok hl.tl.tl trivial
    · refine (numP_z hl.tl).and fun hi l3 n' hn' hl' _ => ?_
      split
      · exact hl.tl.hd
      · exact rz_ok hl' trivial
  · exact rz_ok hl trivial
theorem rngsF_z {max : Int} {b : Bool} : ∀ (k : Nat) (a : List Sp) {q : Nat} {l : List Wd}, Pl s q l → Rz s q (fun _ _ => True) (rngsF max b k a l)
  | 0, a, q, l, h => Nat.zero_le _
  | k + 1, a, q, l, h => by
    rw [rngsF]
    refine rz_room h ((spanP_z h).and fun x l' n hn hl _ => ?_)
    split
    · exact rngsF_z k _ hl.tl
    · exact rz_ok hl trivial
/-- All stand at quotes. -/
def QuA (s : ByteArray) (b : List Tx) : Prop := ∀ t ∈ b, quoteAt s t.at_ = true
theorem QuA.snoc {b : List Tx} {t : Tx} (h : QuA s b) (ht : quoteAt s t.at_ = true) : QuA s (b ++ [t]) := by
  intro u hu
  rcases List.mem_append.1 hu with e | e
  · exact h u e
  · rw [List.mem_singleton.1 e]; exact ht
theorem namsF_z : ∀ (k : Nat) (a : List Tx) {q : Nat} {l : List Wd}, Pl s q l → Rz s q (fun b _ => QuA s a → QuA s b) (namsF k a l)
  | 0, a, q, l, h => Nat.zero_le _
  | k + 1, a, q, l, h => by
    rw [namsF]
    refine rz_room h ((litP_z h).and fun w l' n hn hl hw => ?_)
    have hq : QuA s a → QuA s (a ++ [⟨w.t, w.p⟩]) := fun ha => ha.snoc (t := ⟨w.t, w.p⟩) (hw.pw.lit hw.k)
    split
    · exact (namsF_z k _ hl.tl).mono (Nat.le_refl _) fun b _ _ hb ha => hb (hq ha)
    · exact rz_ok hl hq
theorem resP_z {max : Int} {sg : Bool} {a : List Sp} {b : List Tx} {q : Nat} {l : List Wd} (h : Pl s q l) : Rz s q (fun r _ => QuA s b → QuA s r.2) (resP max sg a b l) := by
  unfold resP
  split
  · exact (namsF_z _ _ h.tl).and fun b' l' n hn hl hq => (expP_z _ hl).and fun _ l'' n' hn' hl' _ => rz_ok hl' hq
  · exact (rngsF_z _ _ h.tl).and fun b' l' n hn hl hq => (expP_z _ hl).and fun _ l'' n' hn' hl' _ => rz_ok hl' id
/-- Values, one behind the other. -/
def VlUp (s : ByteArray) : Int → List Vl → Int → Prop
  | a, [], n => a < n
  | a, v :: l, n => a < v.at_ ∧ startsB s v.at_ v.name = true ∧ VlUp s v.at_ l n
theorem VlUp.mono {a : Int} : ∀ {l : List Vl} {n n' : Int}, VlUp s a l n → n ≤ n' → VlUp s a l n'
  | [], n, n', h, hn => by unfold VlUp at h ⊢; omega
  | v :: l, n, n', h, hn => ⟨h.1, h.2.1, VlUp.mono h.2.2 hn⟩
theorem VlUp.snoc {v : Vl} {n' : Int} : ∀ {a : Int} {l : List Vl} {n : Int}, VlUp s a l n → n ≤ v.at_ → startsB s v.at_ v.name = true → v.at_ < n' → VlUp s a (l ++ [v]) n'
  | a, [], n, h, h1, h2, h3 => ⟨by unfold VlUp at h; omega, h2, h3⟩
  | a, x :: l, n, h, h1, h2, h3 => ⟨h.1, h.2.1, VlUp.snoc h.2.2 h1 h2 h3⟩
theorem valP_z {q : Nat} {l : List Wd} (h : Pl s q l) : Rz s q (fun v n => startsB s v.at_ v.name = true ∧ (q : Int) ≤ v.at_ ∧ v.at_ < (n : Int)) (valP l) := by
  unfold valP
  refine (ofP_z h (by decide)).and fun w l' n hn hl hw => (expP_z _ hl).and fun _ l' n' hn' hl _ => (numP_z hl).and fun _ l' n2 hn2 hl _ => (expP_z _ hl).and fun _ l' n3 hn3 hl _ => rz_ok hl ⟨?_, ?_, ?_⟩
  · exact hw.pw.st (by rw [hw.k]; decide) (by rw [hw.k]; decide)
  · have := hw.q; show (q : Int) ≤ (w.p : Int); omega
  · have := hw.n; show (w.p : Int) < (n3 : Int); omega
/-- An enum that is being read. -/
structure EnZ (s : ByteArray) (lo : Int) (x : En) (n : Nat) : Prop where
  lo : lo ≤ x.at_
  nm : startsB s x.at_ x.name = true
  up : VlUp s x.at_ x.vals n
theorem EnZ.mono {lo : Int} (x : En) (n n' : Nat) (hn : n ≤ n') (h : EnZ s lo x n) : EnZ s lo x n' := ⟨h.lo, h.nm, h.up.mono (by omega)⟩
theorem enS_z {lo : Int} (x : En) (l : List Wd) (q : Nat) (h : Pl s q l) (hx : EnZ s lo x q) : Rz s q (EnZ s lo) (enS x l) := by
  unfold enS
  split
  · exact rz_ok h.tl hx
  split
  · exact (resP_z h).and fun r l' n hn hl _ => rz_ok hl ⟨hx.lo, hx.nm, hx.up.mono (by omega)⟩
  split
  · exact rz_refuse h
  · exact rz_room h ((valP_z h).and fun v l' n hn hl ⟨h1, h2, h3⟩ => rz_ok hl ⟨hx.lo, hx.nm, hx.up.snoc h2 h1 h3⟩)
theorem Tkn.nm {q n : Nat} {w : Wd} (h : Tkn s 1 q w n) : startsB s w.p w.t = true := h.pw.st (by rw [h.k]; decide) (by rw [h.k]; decide)
theorem enP_z {q : Nat} {l : List Wd} (h : Pl s q l) : Rz s q (EnZ s q) (enP l) := by
  unfold enP
  refine (ofP_z h.tl (by decide)).and fun w l' n hn hl hw => blkP_z EnZ.mono enS_z hl ⟨?_, hw.nm, ?_⟩
  · have := hw.q; show (q : Int) ≤ (w.p : Int); omega
  · have := hw.n; show (w.p : Int) < (n : Int); omega
/-- A field stands there, its type behind a. -/
structure FdAt (s : ByteArray) (a : Int) (f : Fd) : Prop where
  t : TypAt s f.tat (if f.card = 4 then f.key else f.typ)
  a : a < f.tat
  b : f.tat < f.at_
  nm : startsB s f.at_ f.name = true
  c : f.at_ < f.nat_
def FdUp (s : ByteArray) : Int → List Fd → Int → Prop
  | a, [], n => a < n
  | a, f :: l, n => FdAt s a f ∧ FdUp s f.nat_ l n
theorem FdUp.mono {a : Int} : ∀ {l : List Fd} {n n' : Int}, FdUp s a l n → n ≤ n' → FdUp s a l n'
  | [], n, n', h, hn => by unfold FdUp at h ⊢; omega
  | v :: l, n, n', h, hn => ⟨h.1, FdUp.mono h.2 hn⟩
theorem FdUp.snoc {v : Fd} {n' : Int} : ∀ {a : Int} {l : List Fd} {n : Int}, FdUp s a l n → FdAt s (n - 1) v → v.nat_ < n' → FdUp s a (l ++ [v]) n'
  | a, [], n, h, h1, h3 => ⟨⟨h1.t, by have := h1.a; unfold FdUp at h; omega, h1.b, h1.nm, h1.c⟩, h3⟩
  | a, x :: l, n, h, h1, h3 => ⟨h.1, FdUp.snoc h.2 h1 h3⟩
theorem namedP_z {f : Fd} {q : Nat} {l : List Wd} (h : Pl s q l) (ht : TypAt s f.tat (if f.card = 4 then f.key else f.typ)) {a : Int} (ha : a < f.tat) (hq : f.tat < q) : Rz s q (fun y n => FdAt s a y ∧ y.nat_ < (n : Int)) (namedP f l) := by
  unfold namedP
  refine (ofP_z h (by decide)).and fun w l1 n1 hn1 hl1 hw => (expP_z _ hl1).and fun _ l2 n2 hn2 hl2 _ => (ofP_z hl2 (by decide)).and fun d l3 n3 hn3 hl3 hd => ?_
  refine Rz.and (P := fun _ _ => True) ?_ fun j l4 n4 hn4 hl4 _ => (expP_z _ hl4).and fun _ l5 n5 hn5 hl5 _ => rz_ok hl5 ⟨⟨ht, ha, ?_, hw.nm, ?_⟩, ?_⟩
  · split
    · exact (expP_z _ hl3.tl).and fun _ _ _ _ hl _ => (ofP_z hl (by decide)).and fun _ _ _ _ hl _ => (expP_z _ hl).and fun _ _ _ _ hl _ => rz_ok hl trivial
    · exact rz_ok hl3 trivial
  · have := hw.q; show f.tat < (w.p : Int); omega
  · have := hw.n; have := hd.q; show (w.p : Int) < (d.p : Int); omega
  · have := hd.n; show (d.p : Int) < (n5 : Int); omega
theorem typedP_z {card o : Int} (hc : card ≠ 4) {q : Nat} {l : List Wd} (h : Pl s q l) : Rz s q (fun y n => FdAt s ((q : Int) - 1) y ∧ y.nat_ < (n : Int)) (typedP card o l) := by
  unfold typedP
  refine (nameP_z h).and fun b l' n hn hl ⟨h1, h2, h3⟩ => namedP_z hl ?_ ?_ ?_
  · show TypAt s (hdW l).p (if card = 4 then _ else b)
    rw [if_neg hc]; exact h1
  · show (q : Int) - 1 < ((hdW l).p : Int); omega
  · show ((hdW l).p : Int) < (n : Int); omega
theorem mapP_z {q : Nat} {l : List Wd} (h : Pl s q l) : Rz s q (fun y n => FdAt s ((q : Int) - 1) y ∧ y.nat_ < (n : Int)) (mapP l) := by
  unfold mapP
  refine (expP_z _ h).and fun _ l1 n1 hn1 hl1 _ => (nameP_z hl1).and fun key l2 n2 hn2 hl2 ⟨h1, h2, h3⟩ => (expP_z _ hl2).and fun _ l3 n3 hn3 hl3 _ => (nameP_z hl3).and fun b l4 n4 hn4 hl4 _ => (expP_z _ hl4).and fun _ l5 n5 hn5 hl5 _ => namedP_z hl5 ?_ ?_ ?_
  · exact h1
  · show (q : Int) - 1 < ((hdW l1).p : Int); omega
  · show ((hdW l1).p : Int) < (n5 : Int); omega
/-- A message and what lies in it stand where they say. -/
inductive MsAt (s : ByteArray) : Ms → Prop
  | mk (m : Ms) (nm : startsB s m.at_ m.name = true) (fl : ∃ n, FdUp s m.at_ m.flds n) (qu : QuA s m.nams) (up : ∀ x ∈ m.msgs, m.at_ < x.at_) (sub : ∀ x ∈ m.msgs, MsAt s x) : MsAt s m
structure MsZ (s : ByteArray) (lo : Int) (m : Ms) (n : Nat) : Prop where
  lo : lo ≤ m.at_
  nm : startsB s m.at_ m.name = true
  fl : FdUp s m.at_ m.flds n
  qu : QuA s m.nams
  hi : m.at_ < n
  up : ∀ x ∈ m.msgs, m.at_ < x.at_
  sub : ∀ x ∈ m.msgs, MsAt s x
theorem MsZ.mono {lo : Int} (x : Ms) (n n' : Nat) (hn : n ≤ n') (h : MsZ s lo x n) : MsZ s lo x n' := ⟨h.lo, h.nm, h.fl.mono (by omega), h.qu, by have := h.hi; omega, h.up, h.sub⟩
theorem MsZ.at {lo : Int} {x : Ms} {n : Nat} (h : MsZ s lo x n) : MsAt s x := ⟨x, h.nm, ⟨_, h.fl⟩, h.qu, h.up, h.sub⟩
theorem addF_z {lo : Int} {m : Ms} {r : Pz Fd} {q q' : Nat} (hm : MsZ s lo m q) (hr : Rz s q' (fun y n => FdAt s ((q : Int) - 1) y ∧ y.nat_ < (n : Int)) r) (hq : q ≤ q') : Rz s q (MsZ s lo) (addF m r) := by
  unfold addF
  exact (hr.mono hq fun _ _ _ e => e).and fun f l n hn hl ⟨h1, h2⟩ => rz_ok hl ⟨hm.lo, hm.nm, hm.fl.snoc h1 h2, hm.qu, by have := hm.hi; show m.at_ < (n : Int); omega, hm.up, hm.sub⟩
theorem onS_z {lo : Int} (m : Ms) (l : List Wd) (q : Nat) (h : Pl s q l) (hm : MsZ s lo m q) : Rz s q (MsZ s lo) (onS m l) := by
  unfold onS
  split
  · exact rz_ok h.tl hm
  split
  · exact rz_refuse h
  · exact rz_room h (addF_z hm (typedP_z (by decide) h) (Nat.le_refl _))
theorem onP_z {lo : Int} {m : Ms} {l : List Wd} {q : Nat} (h : Pl s q l) (hm : MsZ s lo m q) : Rz s q (MsZ s lo) (onP m l) := by
  unfold onP
  exact rz_room h ((ofP_z h.tl (by decide)).and fun w l' n hn hl hw => blkP_z MsZ.mono onS_z hl (MsZ.mono _ _ _ hn ⟨hm.lo, hm.nm, hm.fl, hm.qu, hm.hi, hm.up, hm.sub⟩))
theorem msS_z {lo : Int} {sub : List Wd → Pz Ms} (hsub : ∀ {q : Nat} {l : List Wd}, Pl s q l → Rz s q (MsZ s q) (sub l)) (m : Ms) (l : List Wd) (q : Nat) (h : Pl s q l) (hm : MsZ s lo m q) : Rz s q (MsZ s lo) (msS sub m l) := by
  unfold msS
  have hup : ∀ {r : Pz Fd}, Rz s q (fun y n => FdAt s ((q : Int) - 1) y ∧ y.nat_ < (n : Int)) r → Rz s q (MsZ s lo) (addF m r) := fun hr => addF_z hm hr (Nat.le_refl _)
  split
  · exact rz_ok h.tl hm
  split
  · refine rz_room h ((hsub h).and fun x l' n hn hl hx => rz_ok hl ?_)
    have hm' := MsZ.mono _ _ _ hn hm
    refine ⟨hm.lo, hm.nm, hm'.fl, hm.qu, hm'.hi, ?_, ?_⟩
    · intro y hy
      rcases List.mem_append.1 hy with e | e
      · exact hm.up y e
      · rw [List.mem_singleton.1 e]; have := hx.lo; have := hm.hi; show m.at_ < x.at_; omega
    · intro y hy
      rcases List.mem_append.1 hy with e | e
      · exact hm.sub y e
      · rw [List.mem_singleton.1 e]; exact hx.at
  split
  · refine rz_room h ((enP_z h).and fun x l' n hn hl hx => rz_ok hl ?_)
    have hm' := MsZ.mono _ _ _ hn hm
    exact ⟨hm'.lo, hm'.nm, hm'.fl, hm'.qu, hm'.hi, hm'.up, hm'.sub⟩
  split
  · exact onP_z h hm
  split
  · refine (resP_z h).and fun r l' n hn hl hr => rz_ok hl ?_
    have hm' := MsZ.mono _ _ _ hn hm
    exact ⟨hm'.lo, hm'.nm, hm'.fl, hr hm.qu, hm'.hi, hm'.up, hm'.sub⟩
  split
  · exact rz_room h (hup (typedP_z (by decide) h.tl))
  split
  · exact rz_room h (hup (typedP_z (by decide) h.tl))
  split
  · exact rz_room h (hup (mapP_z h.tl))
  split
  · exact rz_refuse h
  · exact rz_room h (hup (typedP_z (by decide) h))
theorem msP_z {dn : List Wd → Bool} : ∀ (k deep : Nat) {q : Nat} {l : List Wd}, Pl s q l → Rz s q (MsZ s q) (msP dn k deep l)
  | 0, deep, q, l, h => Nat.zero_le _
  | k + 1, deep, q, l, h => by
    rw [msP]
    split
    · exact h.tl.hd
    · refine (ofP_z h.tl (by decide)).and fun w l' n hn hl hw => blkP_z MsZ.mono (msS_z fun h => msP_z k _ h) hl ?_
      have h1 := hw.q
      have h2 := hw.n
      exact ⟨(by show (q : Int) ≤ (w.p : Int); omega), hw.nm, (by show (w.p : Int) < (n : Int); omega), (by intro t ht; cases ht), (by show (w.p : Int) < (n : Int); omega), (by intro x hx; cases hx), (by intro x hx; cases hx)⟩
def MsUp (s : ByteArray) : Int → List Ms → Int → Prop
  | b, [], n => b ≤ n
  | b, x :: l, n => b ≤ x.at_ ∧ MsAt s x ∧ MsUp s (x.at_ + 1) l n
theorem MsUp.mono {b : Int} : ∀ {l : List Ms} {n n' : Int}, MsUp s b l n → n ≤ n' → MsUp s b l n'
  | [], n, n', h, hn => by unfold MsUp at h ⊢; omega
  | v :: l, n, n', h, hn => ⟨h.1, h.2.1, MsUp.mono h.2.2 hn⟩
theorem MsUp.snoc {v : Ms} {n' : Int} : ∀ {b : Int} {l : List Ms} {n : Int}, MsUp s b l n → n ≤ v.at_ → MsAt s v → v.at_ < n' → MsUp s b (l ++ [v]) n'
  | b, [], n, h, h1, h2, h3 => ⟨by unfold MsUp at h; omega, h2, by unfold MsUp; omega⟩
  | b, x :: l, n, h, h1, h2, h3 => ⟨h.1, h.2.1, MsUp.snoc h.2.2 h1 h2 h3⟩
def EnUp (s : ByteArray) : Int → List En → Int → Prop
  | b, [], n => b ≤ n
  | b, x :: l, n => b ≤ x.at_ ∧ startsB s x.at_ x.name = true ∧ ∃ b', VlUp s x.at_ x.vals b' ∧ EnUp s b' l n
theorem EnUp.mono : ∀ {b : Int} {l : List En} {n n' : Int}, EnUp s b l n → n ≤ n' → EnUp s b l n'
  | b, [], n, n', h, hn => by unfold EnUp at h ⊢; omega
  | b, v :: l, n, n', h, hn => by obtain ⟨h1, h2, b', h3, h4⟩ := h; exact ⟨h1, h2, b', h3, EnUp.mono h4 hn⟩
theorem EnUp.snoc {v : En} {n' : Int} : ∀ {b : Int} {l : List En} {n : Int}, EnUp s b l n → n ≤ v.at_ → startsB s v.at_ v.name = true → VlUp s v.at_ v.vals n' → EnUp s b (l ++ [v]) n'
  | b, [], n, h, h1, h2, h3 => ⟨by unfold EnUp at h; omega, h2, n', h3, Int.le_refl _⟩
  | b, x :: l, n, h, h1, h2, h3 => by obtain ⟨g1, g2, b', g3, g4⟩ := h; exact ⟨g1, g2, b', g3, EnUp.snoc g4 h1 h2 h3⟩
/-- A file and what lies in it stand where they say. -/
structure TrZ (s : ByteArray) (x : Tr) (n : Nat) : Prop where
  imps : ∀ y ∈ x.imps, quoteAt s y.at_ = true
  msgs : MsUp s 0 x.msgs n
  enums : EnUp s 0 x.enums n
theorem TrZ.mono {x : Tr} {n n' : Nat} (hn : n ≤ n') (h : TrZ s x n) : TrZ s x n' := ⟨h.imps, h.msgs.mono (by omega), h.enums.mono (by omega)⟩
theorem rpcP_z {q : Nat} {l : List Wd} (h : Pl s q l) : Rz s q (fun _ _ => True) (rpcP l) := by
  unfold rpcP
  refine (ofP_z h (by decide)).and fun _ _ _ _ h _ => (expP_z _ h).and fun _ _ _ _ h _ => (nameP_z h).and fun _ _ _ _ h _ => (expP_z _ h).and fun _ _ _ _ h _ => (nameP_z h).and fun _ _ _ _ h _ => (expP_z _ h).and fun _ _ _ _ h _ => ?_
  refine Rz.and (P := fun _ _ => True) ?_ fun _ _ _ _ h _ => rz_ok h trivial
  split
  · exact expP_z _ h.tl
  · exact expP_z _ h
theorem svP_z {q : Nat} {l : List Wd} (h : Pl s q l) : Rz s q (fun _ _ => True) (svP l) := by
  unfold svP
  refine (ofP_z h.tl (by decide)).and fun _ _ _ _ h _ => blkP_z (fun _ _ _ _ h => h) ?_ h trivial
  intro x l q h _
  unfold svS
  split
  · exact rz_ok h.tl trivial
  split
  · exact rz_room h ((rpcP_z h.tl).and fun _ _ _ _ h _ => rz_ok h trivial)
  · exact rz_refuse h
theorem impP_z {q : Nat} {l : List Wd} (h : Pl s q l) : Rz s q (fun y _ => quoteAt s y.at_ = true) (impP l) := by
  unfold impP
  have h' : Pl s q (if sayW l.tail = kPub then l.tail.tail else l.tail) := by
    split
    · exact h.tl.tl
    · exact h.tl
  exact (litP_z h').and fun w _ _ _ h hw => (expP_z _ h).and fun _ _ _ _ h _ => rz_ok h (hw.pw.lit hw.k)
theorem fiS_z {dn : List Wd → Bool} {x : Tr} {q : Nat} {l : List Wd} (h : Pl s q l) (hx : TrZ s x q) : Rz s q (TrZ s) (fiS dn x l) := by
  unfold fiS
  split
  · exact rz_ok h.tl hx
  split
  · split
    · exact rz_refuse h
    · exact (fullP_z h.tl h.tl.hd).and fun _ _ _ hn h _ => (expP_z _ h).and fun _ _ _ hn' h _ => rz_ok h (by have := hx.mono (Nat.le_trans hn hn'); exact ⟨this.imps, this.msgs, this.enums⟩)
  split
  · refine rz_room h ((impP_z h).and fun y _ n hn h hy => rz_ok h ?_)
    have hx' := hx.mono hn
    refine ⟨fun z hz => ?_, hx'.msgs, hx'.enums⟩
    rcases List.mem_append.1 hz with e | e
    · exact hx.imps z e
    · rw [List.mem_singleton.1 e]; exact hy
  split
  · refine rz_room h ((msP_z _ _ h).and fun y _ n hn h hy => rz_ok h ?_)
    have hx' := hx.mono hn
    exact ⟨hx'.imps, hx.msgs.snoc hy.lo hy.at hy.hi, hx'.enums⟩
  split
  · refine rz_room h ((enP_z h).and fun y _ n hn h hy => rz_ok h ?_)
    have hx' := hx.mono hn
    exact ⟨hx'.imps, hx'.msgs, hx.enums.snoc hy.lo hy.nm hy.up⟩
  split
  · exact rz_room h ((svP_z h).and fun y _ n hn h _ => rz_ok h (by have := hx.mono hn; exact ⟨this.imps, this.msgs, this.enums⟩))
  · exact rz_refuse h
theorem fisF_z {dn : List Wd → Bool} : ∀ (k : Nat) (x : Tr) {q : Nat} {l : List Wd}, Pl s q l → TrZ s x q → Rz s q (TrZ s) (fisF dn k x l)
  | 0, x, q, l, h, hx => Nat.zero_le _
  | k + 1, x, q, l, h, hx => by
    rw [fisF]
    split
    · exact rz_ok h hx
    · exact (fiS_z h hx).and fun y l' n hn h hy => fisF_z k y h hy
theorem TrZ.zero (n : Nat) : TrZ s ⟨kNone, [], [], [], []⟩ n := ⟨(by intro y hy; cases hy), (by show (0 : Int) ≤ n; omega), (by show (0 : Int) ≤ n; omega)⟩
theorem fileP_z {dn : List Wd → Bool} {q : Nat} {l : List Wd} (h : Pl s q l) : Rz s q (TrZ s) (fileP dn l) := by
  unfold fileP
  exact (expP_z _ h).and fun _ _ _ _ h _ => (litP_z h).and fun _ _ _ _ h _ => (expP_z _ h).and fun _ _ _ _ h _ => fisF_z _ _ h (TrZ.zero _)
theorem parse_z {s : ByteArray} (hs : s.size ≤ 65536) : Rz s 0 (TrZ s) (parseR s) := by
  obtain ⟨h1, h2⟩ := words_pl hs
  unfold parseR
  split
  · exact h2
  · rename_i e
    exact fileP_z (h1 (by simpa using e))
end
end Go.Proofs.YthmdaejlopjjoaaGreatDoor
