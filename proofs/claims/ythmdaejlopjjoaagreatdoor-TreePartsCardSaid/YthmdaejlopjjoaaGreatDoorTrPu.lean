/-
  tree: what is read never runs out of itself; a file of two files' words. No program.
-/
import Derived.Test.YthmdaejlopjjoaaGreatDoorTrPt
import Derived.Test.YthmdaejlopjjoaaGreatDoorFlB
namespace Go.Proofs.YthmdaejlopjjoaaGreatDoor
open Go.RowKit
set_option linter.unusedVariables false
set_option linter.unusedSimpArgs false

/-- An error has a number. -/
def Nz {α : Type} (x : Pz α) : Prop := ∀ p, x ≠ .no p 0
theorem nz_no {α : Type} (p : Nat) {e : Nat} (h : e ≠ 0) : Nz (Pz.no p e : Pz α) := fun q hq => by injection hq with _ h2; exact h h2
theorem nz_ok {α : Type} (a : α) (l : List Wd) : Nz (Pz.ok a l) := fun q hq => by cases hq
theorem nz_refuse {α : Type} (l : List Wd) : Nz (refuse l : Pz α) := nz_no _ (by decide)
theorem Nz.and {α β : Type} {x : Pz α} {f : α → List Wd → Pz β} (h : Nz x) (hf : ∀ a l, x = .ok a l → Nz (f a l)) : Nz (x.and f) := by
  cases x with
  | no p e =>
    intro q hq
    have hq' : (Pz.no p e : Pz β) = .no q 0 := hq
    injection hq' with _ h2
    exact h p (by rw [h2])
  | ok a l => exact hf a l rfl
theorem nz_room {α : Type} {n m : Nat} {l : List Wd} {r : Pz α} (h : Nz r) : Nz (roomP n m l r) := by
  unfold roomP
  split
  · exact nz_no _ (by decide)
  · exact h
theorem ne_say {l : List Wd} {k : ByteArray} (h : sayW l = k) (hk : k ≠ ⟨#[]⟩) : l ≠ [] := by
  rintro rfl
  exact hk h.symm
theorem tail_lt {l : List Wd} (h : l ≠ []) : l.length = l.tail.length + 1 := by
  cases l with
  | nil => exact absurd rfl h
  | cons w l => rfl
theorem expP_nz : ∀ (ss : List ByteArray) (l : List Wd), Nz (expP ss l)
  | [], l => nz_ok _ _
  | s :: r, l => by
    rw [expP]
    split
    · exact expP_nz r _
    · exact nz_refuse _
theorem ofP_nz (k : Nat) (l : List Wd) : Nz (ofP k l) := by
  unfold ofP
  split
  · exact nz_ok _ _
  · exact nz_refuse _
theorem litP_nz (f : ByteArray → Bool) (l : List Wd) : Nz (litP f l) := by
  unfold litP
  split
  · exact ofP_nz _ _
  · exact nz_refuse _
theorem numP_nz (b : Bool) (l : List Wd) : Nz (numP b l) := by
  unfold numP
  split
  · exact (ofP_nz _ _).and fun _ _ _ => nz_ok _ _
  · exact (ofP_nz _ _).and fun _ _ _ => nz_ok _ _
theorem dotsF_nz : ∀ (n : Nat) (b : ByteArray) (l : List Wd), l.length < n → Nz (dotsF n b l)
  | 0, b, l, h => absurd h (Nat.not_lt_zero _)
  | n + 1, b, l, h => by
    rw [dotsF]
    split
    · rename_i hs
      refine (ofP_nz _ _).and fun w l1 h1 => dotsF_nz n _ _ ?_
      have e := (ofP_len h1).2
      have h2 := tail_lt (ne_say hs (by decide))
      have h3 := tail_le l.tail
      rw [e]
      omega
    · exact nz_ok _ _
theorem fullP_nz (s : ByteArray) (a : Nat) (l : List Wd) : Nz (fullP s a l) := by
  unfold fullP
  refine (ofP_nz _ _).and fun w l _ => (dotsF_nz _ _ _ (by omega)).and fun b l _ => ?_
  split
  · exact nz_no _ (by decide)
  · exact nz_ok _ _
theorem nameP_nz (l : List Wd) : Nz (nameP l) := by
  unfold nameP
  split
  · exact fullP_nz _ _ _
  · exact fullP_nz _ _ _
theorem spanP_nz (m : Int) (b : Bool) (l : List Wd) : Nz (spanP m b l) := by
  unfold spanP
  refine (numP_nz _ _).and fun lo l2 _ => ?_
  split
  · split
    · split
      · exact nz_no _ (by decide)
      · exact nz_ok _ _
    · refine (numP_nz _ _).and fun hi l3 _ => ?_
      split
      · exact nz_no _ (by decide)
      · exact nz_ok _ _
  · exact nz_ok _ _
theorem rngsF_nz (m : Int) (b : Bool) : ∀ (n : Nat) (a : List Sp) (l : List Wd), l.length < n → Nz (rngsF m b n a l)
  | 0, a, l, h => absurd h (Nat.not_lt_zero _)
  | n + 1, a, l, h => by
    rw [rngsF]
    refine nz_room ((spanP_nz _ _ _).and fun x l1 h1 => ?_)
    have h2 := spanP_len h1
    split
    · rename_i hs
      have h3 := tail_lt (ne_say hs (by decide))
      exact rngsF_nz m b n _ _ (by omega)
    · exact nz_ok _ _
theorem namsF_nz : ∀ (n : Nat) (a : List Tx) (l : List Wd), l.length < n → Nz (namsF n a l)
  | 0, a, l, h => absurd h (Nat.not_lt_zero _)
  | n + 1, a, l, h => by
    rw [namsF]
    refine nz_room ((litP_nz _ _).and fun x l1 h1 => ?_)
    have h2 := (litP_len h1).2
    have h4 := tail_le l
    split
    · rename_i hs
      have h3 := tail_lt (ne_say hs (by decide))
      exact namsF_nz n _ _ (by rw [h2] at h3 ⊢; omega)
    · exact nz_ok _ _
theorem resP_nz (m : Int) (b : Bool) (r : List Sp) (t : List Tx) {l : List Wd} (h : l ≠ []) : Nz (resP m b r t l) := by
  unfold resP
  have := tail_lt h
  split
  · exact (namsF_nz _ _ _ (by omega)).and fun _ _ _ => (expP_nz _ _).and fun _ _ _ => nz_ok _ _
  · exact (rngsF_nz _ _ _ _ _ (by omega)).and fun _ _ _ => (expP_nz _ _).and fun _ _ _ => nz_ok _ _
theorem blkF_nz {σ : Type} {step : σ → List Wd → Pz σ} (N : Nat) (hs : ∀ x l, l.length ≤ N → Nz (step x l)) (hl : ∀ x l x' l', step x l = .ok x' l' → l'.length < l.length) : ∀ (n : Nat) (x : σ) (l : List Wd), l.length < n → l.length ≤ N → Nz (blkF step n x l)
  | 0, x, l, h, _ => absurd h (Nat.not_lt_zero _)
  | n + 1, x, l, h, hN => by
    rw [blkF]
    split
    · exact nz_ok _ _
    · refine (hs x l hN).and fun x' l' h1 => ?_
      have := hl _ _ _ _ h1
      exact blkF_nz N hs hl n x' l' (by omega) (by omega)
theorem blkP_nz {σ : Type} {step : σ → List Wd → Pz σ} (N : Nat) (hs : ∀ x l, l.length ≤ N → Nz (step x l)) (hl : ∀ x l x' l', step x l = .ok x' l' → l'.length < l.length) (x : σ) (l : List Wd) (hN : l.length ≤ N) : Nz (blkP step x l) := by
  unfold blkP
  refine (expP_nz _ _).and fun _ l1 h1 => ?_
  have := expP_len _ h1
  exact blkF_nz N hs hl _ x l1 (by omega) (by omega)
theorem valP_nz (l : List Wd) : Nz (valP l) := by
  unfold valP
  exact (ofP_nz _ _).and fun _ _ _ => (expP_nz _ _).and fun _ _ _ => (numP_nz _ _).and fun _ _ _ => (expP_nz _ _).and fun _ _ _ => nz_ok _ _
theorem enS_nz (x : En) (l : List Wd) : Nz (enS x l) := by
  unfold enS
  split
  · exact nz_ok _ _
  split
  · rename_i hs
    exact (resP_nz _ _ _ _ (ne_say hs (by decide))).and fun _ _ _ => nz_ok _ _
  split
  · exact nz_refuse _
  · exact nz_room ((valP_nz _).and fun _ _ _ => nz_ok _ _)
theorem enS_lt (x : En) (l : List Wd) (x' : En) (l' : List Wd) (h : enS x l = .ok x' l') : l'.length < l.length := by
  have hn : l ≠ [] := by
    rintro rfl
    unfold enS at h
    rw [show sayW [] = (⟨#[]⟩ : ByteArray) from rfl, if_neg (by decide), if_neg (by decide), if_neg (by decide)] at h
    exact fl_room (Fl.and (show Fl (valP []) by unfold valP; exact (ofP_fl0 (by decide)).and)) _ _ h
  have hn := tail_lt hn
  unfold enS at h
  split at h
  · injection h with _ h; rw [← h]; omega
  split at h
  · obtain ⟨r, l1, h1, h2⟩ := Pz.and_ok h
    injection h2 with _ h2
    subst h2
    have := resP_len h1; omega
  split at h
  · cases h
  · obtain ⟨v, l1, h1, h2⟩ := Pz.and_ok (roomP_ok h)
    injection h2 with _ h2
    subst h2
    have := valP_len h1; omega
theorem enP_nz (l : List Wd) : Nz (enP l) := by
  unfold enP
  exact (ofP_nz _ _).and fun w l _ => blkP_nz l.length (fun x l _ => enS_nz x l) enS_lt _ l (Nat.le_refl _)
theorem namedP_nz (f : Fd) (l : List Wd) : Nz (namedP f l) := by
  unfold namedP
  refine (ofP_nz _ _).and fun _ _ _ => (expP_nz _ _).and fun _ _ _ => (ofP_nz _ _).and fun _ _ _ => Nz.and ?_ fun _ _ _ => (expP_nz _ _).and fun _ _ _ => nz_ok _ _
  split
  · exact (expP_nz _ _).and fun _ _ _ => (ofP_nz _ _).and fun _ _ _ => (expP_nz _ _).and fun _ _ _ => nz_ok _ _
  · exact nz_ok _ _
theorem typedP_nz (c o : Int) (l : List Wd) : Nz (typedP c o l) := by
  unfold typedP
  exact (nameP_nz _).and fun _ _ _ => namedP_nz _ _
theorem mapP_nz (l : List Wd) : Nz (mapP l) := by
  unfold mapP
  exact (expP_nz _ _).and fun _ _ _ => (nameP_nz _).and fun _ _ _ => (expP_nz _ _).and fun _ _ _ => (nameP_nz _).and fun _ _ _ => (expP_nz _ _).and fun _ _ _ => namedP_nz _ _
theorem addF_nz (m : Ms) {r : Pz Fd} (h : Nz r) : Nz (addF m r) := by
  unfold addF
  exact h.and fun _ _ _ => nz_ok _ _
theorem typedP_fl0 (c o : Int) : Fl (typedP c o []) := by
  unfold typedP nameP
  rw [show sayW [] = (⟨#[]⟩ : ByteArray) from rfl, if_neg (by decide)]
  exact (fullP_fl0 _ _).and
theorem onS_nz (m : Ms) (l : List Wd) : Nz (onS m l) := by
  unfold onS
  split
  · exact nz_ok _ _
  split
  · exact nz_refuse _
  · exact nz_room (addF_nz m (typedP_nz _ _ _))
theorem onS_lt (x : Ms) (l : List Wd) (x' : Ms) (l' : List Wd) (h : onS x l = .ok x' l') : l'.length < l.length := by
  have hn : l ≠ [] := by
    rintro rfl
    unfold onS at h
    rw [show sayW [] = (⟨#[]⟩ : ByteArray) from rfl, if_neg (by decide), if_neg (by decide)] at h
    exact fl_room (by unfold addF; exact (typedP_fl0 _ _).and) _ _ h
  have hn := tail_lt hn
  unfold onS at h
  split at h
  · injection h with _ h; rw [← h]; omega
  split at h
  · cases h
  · obtain ⟨f, h1⟩ := addF_ok (roomP_ok h)
    have := typedP_len h1; omega
theorem onP_nz (m : Ms) (l : List Wd) : Nz (onP m l) := by
  unfold onP
  exact nz_room ((ofP_nz _ _).and fun w l _ => blkP_nz l.length (fun x l _ => onS_nz x l) onS_lt _ l (Nat.le_refl _))
theorem msS_nz {sub : List Wd → Pz Ms} {N : Nat} (hsub : ∀ l, l.length ≤ N → l ≠ [] → Nz (sub l)) (m : Ms) (l : List Wd) (hN : l.length ≤ N) : Nz (msS sub m l) := by
  unfold msS
  split
  · exact nz_ok _ _
  split
  · rename_i hs
    exact nz_room ((hsub l hN (ne_say hs (by decide))).and fun _ _ _ => nz_ok _ _)
  split
  · exact nz_room ((enP_nz _).and fun _ _ _ => nz_ok _ _)
  split
  · exact onP_nz m l
  split
  · rename_i hs
    exact (resP_nz _ _ _ _ (ne_say hs (by decide))).and fun _ _ _ => nz_ok _ _
  split
  · exact nz_room (addF_nz m (typedP_nz _ _ _))
  split
  · exact nz_room (addF_nz m (typedP_nz _ _ _))
  split
  · exact nz_room (addF_nz m (mapP_nz _))
  split
  · exact nz_refuse _
  · exact nz_room (addF_nz m (typedP_nz _ _ _))
theorem msS_lt {sub : List Wd → Pz Ms} (hsub : ∀ l y l1, sub l = .ok y l1 → l1.length ≤ l.tail.length) (x : Ms) (l : List Wd) (x' : Ms) (l' : List Wd) (h : msS sub x l = .ok x' l') : l'.length < l.length := by
  have hn : l ≠ [] := by
    rintro rfl
    unfold msS at h
    rw [show sayW [] = (⟨#[]⟩ : ByteArray) from rfl, if_neg (by decide), if_neg (by decide), if_neg (by decide), if_neg (by decide), if_neg (by decide), if_neg (by decide), if_neg (by decide), if_neg (by decide), if_neg (by decide)] at h
    exact fl_room (by unfold addF; exact (typedP_fl0 _ _).and) _ _ h
  exact msS_len (tail_lt hn) (fun y l1 h => hsub l y l1 h) h
theorem msP_nz (dn : List Wd → Bool) : ∀ (n deep : Nat) (l : List Wd), l.length ≤ n → l ≠ [] → Nz (msP dn n deep l)
  | 0, deep, l, h, hn => absurd (List.eq_nil_of_length_eq_zero (by omega)) hn
  | n + 1, deep, l, h, hn => by
    rw [msP]
    split
    · exact nz_no _ (by decide)
    · refine (ofP_nz _ _).and fun w l1 h1 => ?_
      have e := (ofP_len h1).2
      have h2 := tail_lt hn
      have h3 := tail_le l.tail
      have h4 : l1.length ≤ n := by rw [e]; omega
      exact blkP_nz n (fun x l hl => msS_nz (N := n) (fun l hl hn => msP_nz dn n (deep + 1) l hl hn) x l hl) (msS_lt fun l y l1 h => msP_len dn _ _ h) _ l1 h4
theorem rpcP_nz (l : List Wd) : Nz (rpcP l) := by
  unfold rpcP
  refine (ofP_nz _ _).and fun _ _ _ => (expP_nz _ _).and fun _ _ _ => (nameP_nz _).and fun _ _ _ => (expP_nz _ _).and fun _ _ _ => (nameP_nz _).and fun _ _ _ => (expP_nz _ _).and fun _ _ _ => Nz.and ?_ fun _ _ _ => nz_ok _ _
  split
  · exact expP_nz _ _
  · exact expP_nz _ _
theorem svS_nz (x : Sv) (l : List Wd) : Nz (svS x l) := by
  unfold svS
  split
  · exact nz_ok _ _
  split
  · exact nz_room ((rpcP_nz _).and fun _ _ _ => nz_ok _ _)
  · exact nz_refuse _
theorem svS_lt (x : Sv) (l : List Wd) (x' : Sv) (l' : List Wd) (h : svS x l = .ok x' l') : l'.length < l.length := by
  unfold svS at h
  split at h
  · rename_i hs
    have := tail_lt (ne_say hs (by decide))
    injection h with _ h; rw [← h]; omega
  split at h
  · rename_i hs
    have := tail_lt (ne_say hs (by decide))
    obtain ⟨v, l1, h1, k1⟩ := Pz.and_ok (roomP_ok h)
    injection k1 with _ k2
    subst k2
    have := rpcP_len h1; omega
  · cases h
theorem svP_nz (l : List Wd) : Nz (svP l) := by
  unfold svP
  exact (ofP_nz _ _).and fun w l _ => blkP_nz l.length (fun x l _ => svS_nz x l) svS_lt _ l (Nat.le_refl _)
theorem svP_len2 {x : Sv} {l l' : List Wd} (hn : l ≠ []) (h : svP l = .ok x l') : l'.length + 2 ≤ l.length := by
  unfold svP at h
  obtain ⟨w, l1, h1, k1⟩ := Pz.and_ok h
  have e := (ofP_len h1).2
  have h3 := tail_lt hn
  have h4 : l.tail ≠ [] := by
    intro e0
    rw [e0] at h1
    exact ofP_fl0 (by decide) _ _ h1
  have h5 := tail_lt h4
  subst e
  have := blkP_len (fun _ _ _ _ h => svS_le h) k1
  omega
theorem impP_nz (l : List Wd) : Nz (impP l) := by
  unfold impP
  exact (litP_nz _ _).and fun _ _ _ => (expP_nz _ _).and fun _ _ _ => nz_ok _ _
theorem fiS_nz (dn : List Wd → Bool) (x : Tr) (l : List Wd) : Nz (fiS dn x l) := by
  unfold fiS
  split
  · exact nz_ok _ _
  split
  · split
    · exact nz_refuse _
    · exact (fullP_nz _ _ _).and fun _ _ _ => (expP_nz _ _).and fun _ _ _ => nz_ok _ _
  split
  · exact nz_room ((impP_nz _).and fun _ _ _ => nz_ok _ _)
  split
  · rename_i hs
    exact nz_room ((msP_nz dn _ _ _ (Nat.le_refl _) (ne_say hs (by decide))).and fun _ _ _ => nz_ok _ _)
  split
  · exact nz_room ((enP_nz _).and fun _ _ _ => nz_ok _ _)
  split
  · exact nz_room ((svP_nz _).and fun _ _ _ => nz_ok _ _)
  · exact nz_refuse _
theorem hd0_nil {l : List Wd} (h : ¬ (hdW l).k = 0) : l ≠ [] := by
  rintro rfl
  exact h rfl
theorem fisF_nz (dn : List Wd → Bool) : ∀ (n : Nat) (x : Tr) (l : List Wd), l.length < n → Nz (fisF dn n x l)
  | 0, x, l, h => absurd h (Nat.not_lt_zero _)
  | n + 1, x, l, h => by
    rw [fisF]
    split
    · exact nz_ok _ _
    · rename_i hk
      refine (fiS_nz dn x l).and fun x' l' h1 => fisF_nz dn n x' l' ?_
      have := fiS_len (tail_lt (hd0_nil hk)) h1
      omega
theorem fileP_nz (dn : List Wd → Bool) (l : List Wd) : Nz (fileP dn l) := by
  unfold fileP
  exact (expP_nz _ _).and fun _ _ _ => (litP_nz _ _).and fun _ _ _ => (expP_nz _ _).and fun _ l _ => fisF_nz dn _ _ l (by omega)

/-! A file of two files' things. -/
structure Le (x z : Tr) : Prop where
  i : x.imps.length ≤ z.imps.length
  m : x.msgs.length ≤ z.msgs.length
  e : x.enums.length ≤ z.enums.length
  s : x.svcs.length ≤ z.svcs.length
structure Lim (p z : Tr) : Prop where
  i : p.imps.length + z.imps.length ≤ 16
  m : p.msgs.length + z.msgs.length ≤ 128
  e : p.enums.length + z.enums.length ≤ 128
  s : p.svcs.length + z.svcs.length ≤ 64
/-- The things of p ahead of those of x. -/
def appT (p x : Tr) : Tr := ⟨x.pkg, p.imps ++ x.imps, p.msgs ++ x.msgs, p.enums ++ x.enums, p.svcs ++ x.svcs⟩
theorem fiS_le {dn : List Wd → Bool} {x x' : Tr} {l l' : List Wd} (h : fiS dn x l = .ok x' l') : Le x x' ∧ x'.msgs.length ≤ x.msgs.length + 1 ∧ x'.enums.length ≤ x.enums.length + 1 ∧ (l ≠ [] → l'.length < l.length ∧ 2 * x'.svcs.length + l'.length ≤ 2 * x.svcs.length + l.length) := by
  have hlen : l ≠ [] → l'.length < l.length := fun hn => fiS_len (tail_lt hn) h
  unfold fiS at h
  split at h
  · injection h with h1 h2; subst h1; exact ⟨⟨Nat.le_refl _, Nat.le_refl _, Nat.le_refl _, Nat.le_refl _⟩, by omega, by omega, fun hn => ⟨hlen hn, by have := hlen hn; omega⟩⟩
  split at h
  · split at h
    · cases h
    · obtain ⟨s, l1, h1, k1⟩ := Pz.and_ok h
      obtain ⟨u, l2, h2, k2⟩ := Pz.and_ok k1
      injection k2 with k3 k4
      subst k3
      exact ⟨⟨Nat.le_refl _, Nat.le_refl _, Nat.le_refl _, Nat.le_refl _⟩, Nat.le_succ _, Nat.le_succ _, fun hn => ⟨hlen hn, by have := hlen hn; show 2 * x.svcs.length + _ ≤ _; omega⟩⟩
  split at h
  · obtain ⟨v, l1, h1, k1⟩ := Pz.and_ok (roomP_ok h)
    injection k1 with k2 k3
    subst k2
    exact ⟨⟨by simp, Nat.le_refl _, Nat.le_refl _, Nat.le_refl _⟩, Nat.le_succ _, Nat.le_succ _, fun hn => ⟨hlen hn, by have := hlen hn; show 2 * x.svcs.length + _ ≤ _; omega⟩⟩
  split at h
  · obtain ⟨v, l1, h1, k1⟩ := Pz.and_ok (roomP_ok h)
    injection k1 with k2 k3
    subst k2
    exact ⟨⟨Nat.le_refl _, by simp, Nat.le_refl _, Nat.le_refl _⟩, by simp, Nat.le_succ _, fun hn => ⟨hlen hn, by have := hlen hn; show 2 * x.svcs.length + _ ≤ _; omega⟩⟩
  split at h
  · obtain ⟨v, l1, h1, k1⟩ := Pz.and_ok (roomP_ok h)
    injection k1 with k2 k3
    subst k2
    exact ⟨⟨Nat.le_refl _, Nat.le_refl _, by simp, Nat.le_refl _⟩, Nat.le_succ _, by simp, fun hn => ⟨hlen hn, by have := hlen hn; show 2 * x.svcs.length + _ ≤ _; omega⟩⟩
  split at h
  · obtain ⟨v, l1, h1, k1⟩ := Pz.and_ok (roomP_ok h)
    injection k1 with k2 k3
    subst k2
    refine ⟨⟨Nat.le_refl _, Nat.le_refl _, Nat.le_refl _, by simp⟩, Nat.le_succ _, Nat.le_succ _, fun hn => ⟨hlen hn, ?_⟩⟩
    have := svP_len2 hn h1
    simp only [List.length_append, List.length_cons, List.length_nil]
    subst k3
    omega
  · cases h
theorem room_up {α : Type} {n n' m : Nat} {l l' : List Wd} {r r' : Pz α} {a : α} (h : roomP n m l r = .ok a l') (hn : n' < m) (hr : r = .ok a l' → r' = .ok a l') : roomP n' m l r' = .ok a l' := by
  unfold roomP
  rw [if_neg (by omega)]
  exact hr (roomP_ok h)
theorem fiS_app {dn : List Wd → Bool} {p x x' : Tr} {l l' : List Wd} (h : fiS dn x l = .ok x' l') (hL : Lim p x') : fiS dn (appT p x) l = .ok (appT p x') l' := by
  have hup : ∀ {α : Type} {n n' m : Nat} {r : Pz α} (f : α → Tr) (g : α → Tr) (a : Tr), roomP n m l (r.and fun y l => .ok (f y) l) = .ok a l' → n' < m → (∀ y, f y = a → g y = appT p a) → roomP n' m l (r.and fun y l => .ok (g y) l) = .ok (appT p a) l' := by
    intro α n n' m r f g a h0 h1 h2
    obtain ⟨v, l1, h3, k1⟩ := Pz.and_ok (roomP_ok h0)
    injection k1 with k2 k3
    unfold roomP
    rw [if_neg (by omega), h3]
    show Pz.ok (g v) l1 = _
    rw [h2 v k2, k3]
  unfold fiS at h ⊢
  split at h
  · rename_i hs
    rw [if_pos hs]
    injection h with h1 h2
    rw [h1, h2]
  rename_i n1
  rw [if_neg n1]
  split at h
  · rename_i hs
    rw [if_pos hs]
    split at h
    · cases h
    · rename_i hp
      rw [show (appT p x).pkg = x.pkg from rfl, if_neg hp]
      obtain ⟨s, l1, h1, k1⟩ := Pz.and_ok h
      obtain ⟨u, l2, h2, k2⟩ := Pz.and_ok k1
      injection k2 with k3 k4
      subst k3; subst k4
      rw [h1]
      show (expP [kSemi] l1).and _ = _
      rw [h2]
      rfl
  rename_i n2
  rw [if_neg n2]
  split at h
  · rename_i hs
    rw [if_pos hs]
    refine hup (fun y => { x with imps := x.imps ++ [y] }) (fun y => { appT p x with imps := (appT p x).imps ++ [y] }) x' h ?_ ?_
    · obtain ⟨v, l1, h1, k1⟩ := Pz.and_ok (roomP_ok h)
      injection k1 with k2 k3
      have := hL.i
      rw [← k2] at this
      simp only [appT, List.length_append, List.length_cons, List.length_nil] at this ⊢
      omega
    · rintro y rfl
      simp [appT]
  rename_i n3
  rw [if_neg n3]
  split at h
  · rename_i hs
    rw [if_pos hs]
    refine hup (fun y => { x with msgs := x.msgs ++ [y] }) (fun y => { appT p x with msgs := (appT p x).msgs ++ [y] }) x' h ?_ ?_
    · obtain ⟨v, l1, h1, k1⟩ := Pz.and_ok (roomP_ok h)
      injection k1 with k2 k3
      have := hL.m
      rw [← k2] at this
      simp only [appT, List.length_append, List.length_cons, List.length_nil] at this ⊢
      omega
    · rintro y rfl
      simp [appT]
  rename_i n4
  rw [if_neg n4]
  split at h
  · rename_i hs
    rw [if_pos hs]
    refine hup (fun y => { x with enums := x.enums ++ [y] }) (fun y => { appT p x with enums := (appT p x).enums ++ [y] }) x' h ?_ ?_
    · obtain ⟨v, l1, h1, k1⟩ := Pz.and_ok (roomP_ok h)
      injection k1 with k2 k3
      have := hL.e
      rw [← k2] at this
      simp only [appT, List.length_append, List.length_cons, List.length_nil] at this ⊢
      omega
    · rintro y rfl
      simp [appT]
  rename_i n5
  rw [if_neg n5]
  split at h
  · rename_i hs
    rw [if_pos hs]
    refine hup (fun y => { x with svcs := x.svcs ++ [y] }) (fun y => { appT p x with svcs := (appT p x).svcs ++ [y] }) x' h ?_ ?_
    · obtain ⟨v, l1, h1, k1⟩ := Pz.and_ok (roomP_ok h)
      injection k1 with k2 k3
      have := hL.s
      rw [← k2] at this
      simp only [appT, List.length_append, List.length_cons, List.length_nil] at this ⊢
      omega
    · rintro y rfl
      simp [appT]
  · cases h
theorem Le.trans {a b c : Tr} (h : Le a b) (k : Le b c) : Le a c := ⟨Nat.le_trans h.i k.i, Nat.le_trans h.m k.m, Nat.le_trans h.e k.e, Nat.le_trans h.s k.s⟩
theorem Lim.le {p x z : Tr} (h : Lim p z) (k : Le x z) : Lim p x := ⟨by have := h.i; have := k.i; omega, by have := h.m; have := k.m; omega, by have := h.e; have := k.e; omega, by have := h.s; have := k.s; omega⟩
/-- How much is read of how many words. -/
theorem fisF_cnt {dn : List Wd → Bool} : ∀ (n : Nat) {x z : Tr} {l m : List Wd}, fisF dn n x l = .ok z m → Le x z ∧ z.msgs.length + m.length ≤ x.msgs.length + l.length ∧ z.enums.length + m.length ≤ x.enums.length + l.length ∧ 2 * z.svcs.length + m.length ≤ 2 * x.svcs.length + l.length
  | 0, x, z, l, m, h => by cases h
  | n + 1, x, z, l, m, h => by
    rw [fisF] at h
    split at h
    · injection h with h1 h2
      subst h1; subst h2
      exact ⟨⟨Nat.le_refl _, Nat.le_refl _, Nat.le_refl _, Nat.le_refl _⟩, by omega, by omega, by omega⟩
    · rename_i hk
      obtain ⟨x1, l1, h1, h2⟩ := Pz.and_ok h
      obtain ⟨a1, a2, a3, a4⟩ := fiS_le h1
      obtain ⟨b1, b2, b3, b4⟩ := fisF_cnt n h2
      obtain ⟨c1, c2⟩ := a4 (hd0_nil hk)
      exact ⟨a1.trans b1, by omega, by omega, by omega⟩
/-- With more fuel, and other things ahead. -/
theorem fisF_app {dn : List Wd → Bool} {p : Tr} : ∀ (n n' : Nat), n ≤ n' → ∀ {x z : Tr} {l m : List Wd}, fisF dn n x l = .ok z m → Lim p z → fisF dn n' (appT p x) l = .ok (appT p z) m
  | 0, _, _, x, z, l, m, h, _ => by cases h
  | n + 1, 0, hn, _, _, _, _, _, _ => absurd hn (by omega)
  | n + 1, n' + 1, hn, x, z, l, m, h, hL => by
    rw [fisF] at h ⊢
    split at h
    · rename_i hk
      rw [if_pos hk]
      injection h with h1 h2
      rw [h1, h2]
    · rename_i hk
      rw [if_neg hk]
      obtain ⟨x1, l1, h1, h2⟩ := Pz.and_ok h
      rw [fiS_app h1 (hL.le (fisF_cnt n h2).1)]
      exact fisF_app n n' (by omega) h2 hL
/-- Words behind which others stand. -/
theorem fisF_split {dn : List Wd → Bool} (hd : ∀ l, dn l = decide ((hdW l).k = 1)) : ∀ (n : Nat) {x y : Tr} {ws m : List Wd}, (∀ w ∈ ws, w.k ≠ 0) → fisF dn n x (ws ++ lE) = .ok y m → m = lE ∧ ∀ (l2 : List Wd), 1 ≤ l2.length → ∀ n', n ≤ n' → ws.length + l2.length < n' → ∃ n'', l2.length < n'' ∧ fisF dn n' x (ws ++ l2) = fisF dn n'' y l2
  | 0, x, y, ws, m, _, h => by cases h
  | n + 1, x, y, [], m, _, h => by
    have h' : Pz.ok x lE = .ok y m := by rw [← h]; rfl
    injection h' with h1 h2
    subst h1; subst h2
    exact ⟨rfl, fun l2 _ n' _ hlt => ⟨n', by simpa using hlt, rfl⟩⟩
  | n + 1, x, y, w :: ws, m, hk, h => by
    have hw : ¬ (hdW (w :: (ws ++ lE))).k = 0 := hk w (by simp)
    have h0 : (fiS dn x (w :: (ws ++ lE))).and (fun x l => fisF dn n x l) = .ok y m := by
      rw [← h]
      show _ = fisF dn (n + 1) x (w :: (ws ++ lE))
      rw [fisF, if_neg hw]
    obtain ⟨x1, l1, h1, h2⟩ := Pz.and_ok h0
    have hx := fun (l2 : List Wd) (hl : 1 ≤ l2.length) => fiS_x hl hd x (w :: ws) x1 l1 h1
    obtain ⟨ws', e1, e2, _⟩ := hx lE (by simp)
    have hlen := fiS_len (l := w :: (ws ++ lE)) rfl h1
    subst e1
    have hk' : ∀ w ∈ ws', w.k ≠ 0 := fun v hv => hk v (e2.subset hv)
    obtain ⟨g1, g2⟩ := fisF_split hd n hk' h2
    refine ⟨g1, fun l2 hl n' hn' hlt => ?_⟩
    obtain ⟨n', rfl⟩ : ∃ k, n' = k + 1 := ⟨n' - 1, by omega⟩
    obtain ⟨ws2, f1, f2, f3⟩ := hx l2 hl
    have f1' : ws' = ws2 := List.append_cancel_right f1
    subst f1'
    have hws : ws'.length ≤ ws.length := by simp at hlen; omega
    obtain ⟨n'', q1, q2⟩ := g2 l2 hl n' (by omega) (by simp at hlt; omega)
    refine ⟨n'', q1, ?_⟩
    rw [← q2]
    show fisF dn (n' + 1) x (w :: (ws ++ l2)) = _
    rw [fisF, if_neg (show ¬ (hdW (w :: (ws ++ l2))).k = 0 from hk w (by simp))]
    have f4 : fiS dn x (w :: (ws ++ l2)) = .ok x1 (ws' ++ l2) := f3 (.inl rfl)
    rw [f4]
    rfl
end Go.Proofs.YthmdaejlopjjoaaGreatDoor
