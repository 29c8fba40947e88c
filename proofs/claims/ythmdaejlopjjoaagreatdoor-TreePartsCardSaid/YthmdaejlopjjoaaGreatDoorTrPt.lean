/-
  tree: what is read of words is read of them whatever stands behind, as long as the end was not asked for. No program.
-/
import Derived.Test.YthmdaejlopjjoaaGreatDoorQmA
namespace Go.Proofs.YthmdaejlopjjoaaGreatDoor
open Go.RowKit
set_option linter.unusedVariables false
set_option linter.unusedSimpArgs false

abbrev wE : Wd := ⟨0, 0, ⟨#[]⟩, 0⟩
abbrev lE : List Wd := [wE]
/-- Nothing is read. -/
def Fl {α : Type} (x : Pz α) : Prop := ∀ a m, x ≠ .ok a m
theorem fl_no {α : Type} (p e : Nat) : Fl (Pz.no p e : Pz α) := fun _ _ h => by cases h
theorem fl_refuse {α : Type} (l : List Wd) : Fl (refuse l : Pz α) := fl_no _ _
theorem Fl.and {α β : Type} {x : Pz α} {f : α → List Wd → Pz β} (h : Fl x) : Fl (x.and f) := by
  cases x with
  | no p e => exact fl_no p e
  | ok a l => exact absurd rfl (h a l)
theorem fl_room {α : Type} {n m : Nat} {l : List Wd} {r : Pz α} (h : Fl r) : Fl (roomP n m l r) := by
  unfold roomP
  split
  · exact fl_no _ _
  · exact h
/-- What is read of ws and the end is read of ws and l2; s: also where nothing of ws is left. -/
def Exr {α : Type} (s : Bool) (l2 ws : List Wd) (x y : Pz α) : Prop := ∀ a m, x = .ok a m → ∃ ws', m = ws' ++ lE ∧ ws' <:+ ws ∧ ((s = true ∨ ws' ≠ []) → y = .ok a (ws' ++ l2))
section
variable {α β : Type} {s : Bool} {l2 ws : List Wd} {x y : Pz α}
theorem Exr.no (h : Fl x) : Exr s l2 ws x y := fun a m e => absurd e (h a m)
theorem Exr.ok (a : α) : Exr s l2 ws (.ok a (ws ++ lE)) (.ok a (ws ++ l2)) := fun b m e => by
  injection e with e1 e2
  subst e1; subst e2
  exact ⟨ws, rfl, List.suffix_refl _, fun _ => rfl⟩
theorem Exr.mono {ws0 : List Wd} (h : Exr s l2 ws x y) (hw : ws <:+ ws0) : Exr s l2 ws0 x y := fun a m e => by
  obtain ⟨ws', h1, h2, h3⟩ := h a m e
  exact ⟨ws', h1, h2.trans hw, h3⟩
theorem Exr.weak (h : Exr true l2 ws x y) : Exr s l2 ws x y := fun a m e => by
  obtain ⟨ws', h1, h2, h3⟩ := h a m e
  exact ⟨ws', h1, h2, fun _ => h3 (.inl rfl)⟩
theorem Exr.and {f g : α → List Wd → Pz β} (h : Exr true l2 ws x y) (hf : ∀ a ws', ws' <:+ ws → Exr s l2 ws' (f a (ws' ++ lE)) (g a (ws' ++ l2))) : Exr s l2 ws (x.and f) (y.and g) := by
  cases hx : x with
  | no p e => exact Exr.no (fl_no p e)
  | ok a l =>
    obtain ⟨ws', h1, h2, h3⟩ := h a l hx
    rw [h3 (.inl rfl), h1]
    exact (hf a ws' h2).mono h2
theorem Exr.andw {f g : α → List Wd → Pz β} (h : Exr false l2 ws x y) (hf : ∀ a ws', ws' <:+ ws → Exr s l2 ws' (f a (ws' ++ lE)) (g a (ws' ++ l2))) (hE : ∀ a, Fl (f a lE)) : Exr s l2 ws (x.and f) (y.and g) := by
  cases hx : x with
  | no p e => exact Exr.no (fl_no p e)
  | ok a l =>
    obtain ⟨ws', h1, h2, h3⟩ := h a l hx
    rw [h1]
    by_cases h0 : ws' = []
    · subst h0
      exact Exr.no (hE a)
    · rw [h3 (.inr h0)]
      exact (hf a ws' h2).mono h2
theorem Exr.room {n m : Nat} {l l' : List Wd} (h : Exr s l2 ws x y) : Exr s l2 ws (roomP n m l x) (roomP n m l' y) := by
  unfold roomP
  split
  · exact Exr.no (fl_no _ _)
  · exact h
end
variable {l2 : List Wd}
def sy (w : Wd) : ByteArray := if w.k = 3 then ⟨#[]⟩ else w.t
theorem say_cons (w : Wd) (l : List Wd) : sayW (w :: l) = sy w := rfl
theorem hd_cons (w : Wd) (l : List Wd) : hdW (w :: l) = w := rfl
theorem say_E : sayW lE = ⟨#[]⟩ := rfl
theorem suf_cons (w : Wd) (ws : List Wd) : ws <:+ w :: ws := List.suffix_cons _ _
theorem expP_fl {t : ByteArray} (r : List ByteArray) (h : t ≠ ⟨#[]⟩) : Fl (expP (t :: r) lE) := by
  rw [expP, say_E, if_neg (Ne.symm h)]
  exact fl_refuse _
theorem expP_x : ∀ (ss : List ByteArray), (∀ t ∈ ss, t ≠ ⟨#[]⟩) → ∀ ws, Exr true l2 ws (expP ss (ws ++ lE)) (expP ss (ws ++ l2))
  | [], _, ws => Exr.ok ()
  | t :: r, h, [] => Exr.no (expP_fl r (h t (by simp)))
  | t :: r, h, w :: ws => by
    show Exr true l2 (w :: ws) (expP (t :: r) (w :: (ws ++ lE))) (expP (t :: r) (w :: (ws ++ l2)))
    rw [expP, expP, say_cons, say_cons]
    split
    · exact (expP_x r (fun t ht => h t (by simp [ht])) ws).mono (suf_cons w ws)
    · exact Exr.no (fl_refuse _)
theorem ofP_fl {k : Nat} (hk : k ≠ 0) : Fl (ofP k lE) := by
  unfold ofP
  rw [if_neg (show ¬ (hdW lE).k = k from fun e => hk e.symm)]
  exact fl_refuse _
theorem ofP_fl0 {k : Nat} (hk : k ≠ 0) : Fl (ofP k []) := by
  unfold ofP
  rw [if_neg (show ¬ (hdW []).k = k from fun e => hk e.symm)]
  exact fl_refuse _
theorem ofP_x {k : Nat} (hk : k ≠ 0) : ∀ ws, Exr true l2 ws (ofP k (ws ++ lE)) (ofP k (ws ++ l2))
  | [] => Exr.no (ofP_fl hk)
  | w :: ws => by
    show Exr true l2 (w :: ws) (ofP k (w :: (ws ++ lE))) (ofP k (w :: (ws ++ l2)))
    unfold ofP
    rw [hd_cons, hd_cons]
    split
    · exact (Exr.ok w).mono (suf_cons w ws)
    · exact Exr.no (fl_refuse _)
theorem litP_fl (f : ByteArray → Bool) : Fl (litP f lE) := by
  unfold litP
  split
  · exact ofP_fl (by decide)
  · exact fl_refuse _
theorem litP_fl0 (f : ByteArray → Bool) : Fl (litP f []) := by
  unfold litP
  split
  · exact ofP_fl0 (by decide)
  · exact fl_refuse _
theorem litP_x (f : ByteArray → Bool) : ∀ ws, Exr true l2 ws (litP f (ws ++ lE)) (litP f (ws ++ l2))
  | [] => Exr.no (litP_fl f)
  | w :: ws => by
    have := ofP_x (l2 := l2) (k := 3) (by decide) (w :: ws)
    revert this
    show Exr true l2 (w :: ws) (ofP 3 (w :: (ws ++ lE))) (ofP 3 (w :: (ws ++ l2))) → Exr true l2 (w :: ws) (litP f (w :: (ws ++ lE))) (litP f (w :: (ws ++ l2)))
    intro this
    unfold litP
    rw [hd_cons, hd_cons]
    split
    · exact this
    · exact Exr.no (fl_refuse _)
theorem numP_fl (b : Bool) : Fl (numP b lE) := by
  unfold numP
  rw [say_E, if_neg (fun h => absurd h.2 (by decide))]
  exact (ofP_fl (by decide)).and
theorem numP_x (b : Bool) : ∀ ws, Exr true l2 ws (numP b (ws ++ lE)) (numP b (ws ++ l2))
  | [] => Exr.no (numP_fl b)
  | w :: ws => by
    show Exr true l2 (w :: ws) (numP b (w :: (ws ++ lE))) (numP b (w :: (ws ++ l2)))
    unfold numP
    rw [say_cons, say_cons]
    split
    · exact ((ofP_x (by decide) ws).and fun a ws' _ => Exr.ok _).mono (suf_cons w ws)
    · exact (ofP_x (by decide) (w :: ws)).and fun a ws' _ => Exr.ok _
theorem dotsF_x : ∀ (n n' : Nat), n ≤ n' → ∀ (b : ByteArray) (ws : List Wd), Exr false l2 ws (dotsF n b (ws ++ lE)) (dotsF n' b (ws ++ l2))
  | 0, _, _, b, ws => Exr.no (fl_no _ _)
  | n + 1, 0, h, _, _ => absurd h (by omega)
  | n + 1, n' + 1, h, b, [] => fun a m e => by
    have e' : dotsF (n + 1) b lE = .ok b lE := by rw [dotsF, say_E, if_neg (by decide)]
    rw [show ([] ++ lE : List Wd) = lE from rfl, e'] at e
    injection e with e1 e2
    exact ⟨[], e2.symm, List.suffix_refl _, fun h => by rcases h with h | h <;> simp at h⟩
  | n + 1, n' + 1, h, b, w :: ws => by
    show Exr false l2 (w :: ws) (dotsF (n + 1) b (w :: (ws ++ lE))) (dotsF (n' + 1) b (w :: (ws ++ l2)))
    rw [dotsF, dotsF, say_cons, say_cons]
    split
    · exact ((ofP_x (by decide) ws).and fun a ws' _ => dotsF_x n n' (by omega) _ ws').mono (suf_cons w ws)
    · exact Exr.ok (ws := w :: ws) b
theorem fullP_fl (t : ByteArray) (p : Nat) : Fl (fullP t p lE) := by
  unfold fullP
  exact (ofP_fl (by decide)).and
theorem fullP_fl0 (t : ByteArray) (p : Nat) : Fl (fullP t p []) := by
  unfold fullP
  exact (ofP_fl0 (by decide)).and
theorem fullP_x (hl : 1 ≤ l2.length) (t : ByteArray) (p : Nat) (ws : List Wd) : Exr false l2 ws (fullP t p (ws ++ lE)) (fullP t p (ws ++ l2)) := by
  unfold fullP
  refine (ofP_x (by decide) ws).and fun w ws' _ => ?_
  have h := dotsF_x (l2 := l2) ((ws' ++ lE).length + 1) ((ws' ++ l2).length + 1) (by simp; omega) (addB t w.t) ws'
  intro a m e
  cases hd : dotsF ((ws' ++ lE).length + 1) (addB t w.t) (ws' ++ lE) with
  | no q c => rw [hd] at e; cases e
  | ok b l =>
    obtain ⟨ws2, h1, h2, h3⟩ := h b l hd
    rw [hd] at e
    have e' : (if 128 < b.size then Pz.no p 5 else Pz.ok b l) = .ok a m := e
    split at e'
    · cases e'
    · injection e' with e1 e2
      subst e1; subst e2
      refine ⟨ws2, h1, h2, fun hh => ?_⟩
      rw [h3 hh]
      show (if 128 < b.size then Pz.no p 5 else Pz.ok b (ws2 ++ l2)) = _
      rw [if_neg (by assumption)]
theorem nameP_fl : Fl (nameP lE) := by
  unfold nameP
  rw [say_E, if_neg (by decide)]
  exact fullP_fl _ _
theorem nameP_x (hl : 1 ≤ l2.length) : ∀ ws, Exr false l2 ws (nameP (ws ++ lE)) (nameP (ws ++ l2))
  | [] => Exr.no nameP_fl
  | w :: ws => by
    show Exr false l2 (w :: ws) (nameP (w :: (ws ++ lE))) (nameP (w :: (ws ++ l2)))
    unfold nameP
    rw [say_cons, say_cons]
    split
    · exact (fullP_x hl _ _ ws).mono (suf_cons w ws)
    · exact fullP_x hl _ _ (w :: ws)
theorem blkF_x {σ : Type} {step step' : σ → List Wd → Pz σ} (hs : ∀ x ws, Exr true l2 ws (step x (ws ++ lE)) (step' x (ws ++ l2))) (hE : ∀ x, Fl (step x lE)) : ∀ (n n' : Nat), n ≤ n' → ∀ (x : σ) (ws : List Wd), Exr true l2 ws (blkF step n x (ws ++ lE)) (blkF step' n' x (ws ++ l2))
  | 0, _, _, x, ws => Exr.no (fl_no _ _)
  | n + 1, 0, h, _, _ => absurd h (by omega)
  | n + 1, n' + 1, h, x, [] => Exr.no (by
    show Fl (blkF step (n + 1) x lE)
    rw [blkF, say_E, if_neg (by decide)]
    exact (hE x).and)
  | n + 1, n' + 1, h, x, w :: ws => by
    have h1 := hs x (w :: ws)
    revert h1
    show Exr true l2 (w :: ws) (step x (w :: (ws ++ lE))) (step' x (w :: (ws ++ l2))) → Exr true l2 (w :: ws) (blkF step (n + 1) x (w :: (ws ++ lE))) (blkF step' (n' + 1) x (w :: (ws ++ l2)))
    intro h1
    rw [blkF, blkF, say_cons, say_cons]
    split
    · exact (Exr.ok x).mono (suf_cons w ws)
    · exact h1.and fun x ws' _ => blkF_x hs hE n n' (by omega) x ws'
theorem blkP_x (hl : 1 ≤ l2.length) {σ : Type} {step step' : σ → List Wd → Pz σ} (hs : ∀ x ws, Exr true l2 ws (step x (ws ++ lE)) (step' x (ws ++ l2))) (hE : ∀ x, Fl (step x lE)) (x : σ) (ws : List Wd) : Exr true l2 ws (blkP step x (ws ++ lE)) (blkP step' x (ws ++ l2)) := by
  unfold blkP
  exact (expP_x _ (by decide) ws).and fun _ ws' _ => blkF_x hs hE _ _ (by simp; omega) x ws'
theorem spanP_fl (m : Int) (b : Bool) : Fl (spanP m b lE) := by
  unfold spanP
  exact (numP_fl b).and
theorem spanP_x (mx : Int) (b : Bool) : ∀ ws, Exr false l2 ws (spanP mx b (ws ++ lE)) (spanP mx b (ws ++ l2))
  | [] => Exr.no (spanP_fl mx b)
  | w :: ws => by
    have h1 := numP_x (l2 := l2) b (w :: ws)
    revert h1
    show Exr true l2 (w :: ws) (numP b (w :: (ws ++ lE))) (numP b (w :: (ws ++ l2))) → Exr false l2 (w :: ws) (spanP mx b (w :: (ws ++ lE))) (spanP mx b (w :: (ws ++ l2)))
    intro h1
    unfold spanP
    rw [hd_cons, hd_cons]
    refine h1.and fun lo ws2 _ => ?_
    cases ws2 with
    | nil =>
      intro a m e
      rw [show ([] ++ lE : List Wd) = lE from rfl, say_E, if_neg (by decide)] at e
      injection e with e1 e2
      exact ⟨[], e2.symm, List.suffix_refl _, fun h => by rcases h with h | h <;> simp at h⟩
    | cons v ws2 =>
      show Exr false l2 (v :: ws2) (if sayW (v :: (ws2 ++ lE)) = kTo then _ else _) (if sayW (v :: (ws2 ++ l2)) = kTo then _ else _)
      rw [say_cons, say_cons]
      split
      · cases ws2 with
        | nil =>
          refine Exr.no ?_
          show Fl (if sayW lE = kMax then _ else (numP b lE).and _)
          rw [say_E, if_neg (by decide)]
          exact (numP_fl b).and
        | cons u ws2 =>
          show Exr false l2 (v :: u :: ws2) (if sayW (u :: (ws2 ++ lE)) = kMax then (if mx < lo then Pz.no u.p 40 else .ok (⟨lo, mx, w.p⟩ : Sp) (ws2 ++ lE)) else (numP b (u :: (ws2 ++ lE))).and fun hi l3 => if hi < lo then Pz.no u.p 40 else .ok (⟨lo, hi, w.p⟩ : Sp) l3) (if sayW (u :: (ws2 ++ l2)) = kMax then (if mx < lo then Pz.no u.p 40 else .ok (⟨lo, mx, w.p⟩ : Sp) (ws2 ++ l2)) else (numP b (u :: (ws2 ++ l2))).and fun hi l3 => if hi < lo then Pz.no u.p 40 else .ok (⟨lo, hi, w.p⟩ : Sp) l3)
          rw [say_cons, say_cons]
          split
          · split
            · exact Exr.no (fl_no _ _)
            · exact (Exr.ok _).mono ((suf_cons u ws2).trans (suf_cons v _))
          · refine Exr.mono (Exr.and (numP_x b (u :: ws2)) fun hi ws3 _ => ?_) (suf_cons v _)
            split
            · exact Exr.no (fl_no _ _)
            · exact Exr.ok _
      · exact Exr.ok (ws := v :: ws2) _
theorem comma_x {α : Type} {a : α} {p q : List Wd → Pz α} (hp : ∀ ws, Exr false l2 ws (p (ws ++ lE)) (q (ws ++ l2))) : ∀ ws, Exr false l2 ws (if sayW (ws ++ lE) = kComma then p (ws ++ lE).tail else .ok a (ws ++ lE)) (if sayW (ws ++ l2) = kComma then q (ws ++ l2).tail else .ok a (ws ++ l2))
  | [] => fun b m e => by
    rw [show ([] ++ lE : List Wd) = lE from rfl, say_E, if_neg (by decide)] at e
    injection e with e1 e2
    exact ⟨[], e2.symm, List.suffix_refl _, fun h => by rcases h with h | h <;> simp at h⟩
  | w :: ws => by
    show Exr false l2 (w :: ws) (if sayW (w :: (ws ++ lE)) = kComma then p (ws ++ lE) else .ok a (w :: ws ++ lE)) (if sayW (w :: (ws ++ l2)) = kComma then q (ws ++ l2) else .ok a (w :: ws ++ l2))
    rw [say_cons, say_cons]
    split
    · exact (hp ws).mono (suf_cons w ws)
    · exact Exr.ok a
theorem rngsF_x (mx : Int) (b : Bool) : ∀ (n n' : Nat), n ≤ n' → ∀ (a : List Sp) (ws : List Wd), Exr false l2 ws (rngsF mx b n a (ws ++ lE)) (rngsF mx b n' a (ws ++ l2))
  | 0, _, _, a, ws => Exr.no (fl_no _ _)
  | n + 1, 0, h, _, _ => absurd h (by omega)
  | n + 1, n' + 1, h, a, ws => by
    rw [rngsF, rngsF]
    refine Exr.room ?_
    intro c m e
    cases hx : spanP mx b (ws ++ lE) with
    | no p q => rw [hx] at e; cases e
    | ok x l =>
      obtain ⟨ws', h1, h2, h3⟩ := spanP_x (l2 := l2) mx b ws x l hx
      subst h1
      rw [hx] at e
      have hc := comma_x (a := a ++ [x]) (p := rngsF mx b n (a ++ [x])) (q := rngsF mx b n' (a ++ [x])) (fun ws => rngsF_x mx b n n' (by omega) (a ++ [x]) ws) ws'
      obtain ⟨ws2, g1, g2, g3⟩ := hc c m e
      refine ⟨ws2, g1, g2.trans h2, fun hh => ?_⟩
      have hne : ws' ≠ [] := by
        rintro rfl
        have : ws2 = [] := List.eq_nil_of_suffix_nil g2
        rcases hh with hh | hh
        · cases hh
        · exact hh this
      rw [h3 (.inr hne)]
      exact g3 hh
theorem namsF_x : ∀ (n n' : Nat), n ≤ n' → ∀ (a : List Tx) (ws : List Wd), Exr false l2 ws (namsF n a (ws ++ lE)) (namsF n' a (ws ++ l2))
  | 0, _, _, a, ws => Exr.no (fl_no _ _)
  | n + 1, 0, h, _, _ => absurd h (by omega)
  | n + 1, n' + 1, h, a, ws => by
    rw [namsF, namsF]
    exact Exr.room ((litP_x _ ws).and fun x ws' _ => comma_x (p := namsF n (a ++ [⟨x.t, x.p⟩])) (q := namsF n' (a ++ [⟨x.t, x.p⟩])) (fun ws => namsF_x n n' (by omega) _ ws) ws')
theorem semi_fl {α β : Type} (f : Unit → List Wd → Pz β) : Fl ((expP [kSemi] lE).and f) := (expP_fl _ (by decide)).and
theorem namsF_fl0 : ∀ n a, Fl (namsF n a [])
  | 0, a => fl_no _ _
  | n + 1, a => by rw [namsF]; exact fl_room (litP_fl0 _).and
theorem spanP_fl0 (m : Int) (b : Bool) : Fl (spanP m b []) := by
  unfold spanP numP
  split <;> exact ((ofP_fl0 (by decide)).and).and
theorem rngsF_fl0 (mx : Int) (b : Bool) : ∀ n a, Fl (rngsF mx b n a [])
  | 0, a => fl_no _ _
  | n + 1, a => by rw [rngsF]; exact fl_room (spanP_fl0 mx b).and
theorem resP_fl (mx : Int) (b : Bool) (r : List Sp) (t : List Tx) : Fl (resP mx b r t lE) := by
  unfold resP
  split
  · exact (namsF_fl0 _ _).and
  · exact (rngsF_fl0 _ _ _ _).and
theorem resP_x (hl : 1 ≤ l2.length) (mx : Int) (b : Bool) (r : List Sp) (t : List Tx) : ∀ ws, Exr true l2 ws (resP mx b r t (ws ++ lE)) (resP mx b r t (ws ++ l2))
  | [] => Exr.no (resP_fl mx b r t)
  | w :: ws => by
    show Exr true l2 (w :: ws) (resP mx b r t (w :: (ws ++ lE))) (resP mx b r t (w :: (ws ++ l2)))
    unfold resP
    rw [List.tail_cons, List.tail_cons]
    cases ws with
    | nil =>
      refine Exr.no ?_
      show Fl (if (hdW lE).k = 3 then _ else _)
      rw [if_neg (by decide)]
      refine Fl.and ?_
      show Fl (rngsF mx b (lE.length + 1) r lE)
      rw [rngsF]
      exact fl_room (spanP_fl mx b).and
    | cons v ws =>
      show Exr true l2 (w :: v :: ws) (if v.k = 3 then _ else _) (if v.k = 3 then _ else _)
      split
      · exact (Exr.andw (namsF_x _ _ (by simp; omega) t (v :: ws)) (fun t ws' _ => (expP_x _ (by decide) ws').and fun _ ws' _ => Exr.ok _) fun _ => (expP_fl _ (by decide)).and).mono (suf_cons w _)
      · exact (Exr.andw (rngsF_x mx b _ _ (by simp; omega) r (v :: ws)) (fun r ws' _ => (expP_x _ (by decide) ws').and fun _ ws' _ => Exr.ok _) fun _ => (expP_fl _ (by decide)).and).mono (suf_cons w _)
theorem valP_fl : Fl (valP lE) := by
  unfold valP
  exact (ofP_fl (by decide)).and
theorem valP_x (ws : List Wd) : Exr true l2 ws (valP (ws ++ lE)) (valP (ws ++ l2)) := by
  unfold valP
  exact (ofP_x (by decide) ws).and fun w ws _ => (expP_x _ (by decide) ws).and fun _ ws _ => (numP_x true ws).and fun n ws _ => (expP_x _ (by decide) ws).and fun _ ws _ => Exr.ok _
theorem enS_fl (x : En) : Fl (enS x lE) := by
  unfold enS
  rw [say_E, if_neg (by decide), if_neg (by decide), if_neg (by decide)]
  exact fl_room valP_fl.and
theorem enS_x (hl : 1 ≤ l2.length) (x : En) : ∀ ws, Exr true l2 ws (enS x (ws ++ lE)) (enS x (ws ++ l2))
  | [] => Exr.no (enS_fl x)
  | w :: ws => by
    have h1 := resP_x hl 2147483647 true x.rngs x.nams (w :: ws)
    have h2 := valP_x (l2 := l2) (w :: ws)
    revert h1 h2
    show Exr true l2 (w :: ws) (resP 2147483647 true x.rngs x.nams (w :: (ws ++ lE))) (resP 2147483647 true x.rngs x.nams (w :: (ws ++ l2))) → Exr true l2 (w :: ws) (valP (w :: (ws ++ lE))) (valP (w :: (ws ++ l2))) → Exr true l2 (w :: ws) (enS x (w :: (ws ++ lE))) (enS x (w :: (ws ++ l2)))
    intro h1 h2
    unfold enS
    rw [say_cons, say_cons]
    split
    · exact (Exr.ok x).mono (suf_cons w ws)
    split
    · exact h1.and fun r ws _ => Exr.ok _
    split
    · exact Exr.no (fl_refuse _)
    · exact Exr.room (h2.and fun v ws _ => Exr.ok _)
theorem enP_x (hl : 1 ≤ l2.length) : ∀ ws, Exr true l2 ws (enP (ws ++ lE)) (enP (ws ++ l2))
  | [] => Exr.no (by unfold enP; exact (ofP_fl0 (by decide)).and)
  | w :: ws => by
    show Exr true l2 (w :: ws) (enP (w :: (ws ++ lE))) (enP (w :: (ws ++ l2)))
    unfold enP
    exact ((ofP_x (by decide) ws).and fun w ws _ => blkP_x hl (enS_x hl) enS_fl _ ws).mono (suf_cons w ws)
theorem namedP_fl (f : Fd) : Fl (namedP f lE) := by
  unfold namedP
  exact (ofP_fl (by decide)).and
theorem json_x (f : Fd) : ∀ ws, Exr false l2 ws (if sayW (ws ++ lE) = kLbr then (expP [kJson, kEq] (ws ++ lE).tail).and fun _ l => (ofP 3 l).and fun j l => (expP [kRbr] l).and fun _ l => Pz.ok j.t l else .ok f.json (ws ++ lE)) (if sayW (ws ++ l2) = kLbr then (expP [kJson, kEq] (ws ++ l2).tail).and fun _ l => (ofP 3 l).and fun j l => (expP [kRbr] l).and fun _ l => Pz.ok j.t l else .ok f.json (ws ++ l2))
  | [] => fun b m e => by
    rw [show ([] ++ lE : List Wd) = lE from rfl, say_E, if_neg (by decide)] at e
    injection e with e1 e2
    exact ⟨[], e2.symm, List.suffix_refl _, fun h => by rcases h with h | h <;> simp at h⟩
  | w :: ws => by
    show Exr false l2 (w :: ws) (if sayW (w :: (ws ++ lE)) = kLbr then (expP [kJson, kEq] (ws ++ lE)).and fun _ l => (ofP 3 l).and fun j l => (expP [kRbr] l).and fun _ l => Pz.ok j.t l else .ok f.json (w :: ws ++ lE)) (if sayW (w :: (ws ++ l2)) = kLbr then (expP [kJson, kEq] (ws ++ l2)).and fun _ l => (ofP 3 l).and fun j l => (expP [kRbr] l).and fun _ l => Pz.ok j.t l else .ok f.json (w :: ws ++ l2))
    rw [say_cons, say_cons]
    split
    · exact ((expP_x _ (by decide) ws).and fun _ ws _ => (ofP_x (by decide) ws).and fun j ws _ => (expP_x _ (by decide) ws).and fun _ ws _ => Exr.ok _).mono (suf_cons w ws)
    · exact Exr.ok _
theorem namedP_x (f : Fd) (ws : List Wd) : Exr true l2 ws (namedP f (ws ++ lE)) (namedP f (ws ++ l2)) := by
  unfold namedP
  exact (ofP_x (by decide) ws).and fun w ws _ => (expP_x _ (by decide) ws).and fun _ ws _ => (ofP_x (by decide) ws).and fun n ws _ => Exr.andw (json_x f ws) (fun j ws _ => (expP_x _ (by decide) ws).and fun _ ws _ => Exr.ok _) fun _ => (expP_fl _ (by decide)).and
theorem typedP_fl (c o : Int) : Fl (typedP c o lE) := by
  unfold typedP
  exact nameP_fl.and
theorem typedP_x (hl : 1 ≤ l2.length) (c o : Int) : ∀ ws, Exr true l2 ws (typedP c o (ws ++ lE)) (typedP c o (ws ++ l2))
  | [] => Exr.no (typedP_fl c o)
  | w :: ws => by
    have h1 := nameP_x hl (w :: ws)
    revert h1
    show Exr false l2 (w :: ws) (nameP (w :: (ws ++ lE))) (nameP (w :: (ws ++ l2))) → Exr true l2 (w :: ws) (typedP c o (w :: (ws ++ lE))) (typedP c o (w :: (ws ++ l2)))
    intro h1
    unfold typedP
    rw [hd_cons, hd_cons]
    exact Exr.andw h1 (fun s ws _ => namedP_x _ ws) fun _ => namedP_fl _
theorem mapP_x (hl : 1 ≤ l2.length) (ws : List Wd) : Exr true l2 ws (mapP (ws ++ lE)) (mapP (ws ++ l2)) := by
  unfold mapP
  refine (expP_x _ (by decide) ws).and fun _ ws _ => ?_
  cases ws with
  | nil => exact Exr.no nameP_fl.and
  | cons w ws =>
    have h1 := nameP_x hl (w :: ws)
    revert h1
    show Exr false l2 (w :: ws) (nameP (w :: (ws ++ lE))) (nameP (w :: (ws ++ l2))) → Exr true l2 (w :: ws) ((nameP (w :: (ws ++ lE))).and _) ((nameP (w :: (ws ++ l2))).and _)
    intro h1
    exact Exr.andw h1 (fun key ws _ => (expP_x _ (by decide) ws).and fun _ ws _ => Exr.andw (nameP_x hl ws) (fun s ws _ => (expP_x _ (by decide) ws).and fun _ ws _ => namedP_x _ ws) fun _ => (expP_fl _ (by decide)).and) fun _ => (expP_fl _ (by decide)).and
theorem addF_x (m : Ms) {ws : List Wd} {x y : Pz Fd} (h : Exr true l2 ws x y) : Exr true l2 ws (addF m x) (addF m y) := by
  unfold addF
  exact h.and fun f ws _ => Exr.ok _
theorem onS_fl (m : Ms) : Fl (onS m lE) := by
  unfold onS
  rw [say_E, if_neg (by decide), if_neg (by decide)]
  exact fl_room (by unfold addF; exact (typedP_fl _ _).and)
theorem onS_x (hl : 1 ≤ l2.length) (m : Ms) : ∀ ws, Exr true l2 ws (onS m (ws ++ lE)) (onS m (ws ++ l2))
  | [] => Exr.no (onS_fl m)
  | w :: ws => by
    have h1 := typedP_x hl 2 ((m.onos.length : Int) - 1) (w :: ws)
    revert h1
    show Exr true l2 (w :: ws) (typedP 2 ((m.onos.length : Int) - 1) (w :: (ws ++ lE))) (typedP 2 ((m.onos.length : Int) - 1) (w :: (ws ++ l2))) → Exr true l2 (w :: ws) (onS m (w :: (ws ++ lE))) (onS m (w :: (ws ++ l2)))
    intro h1
    unfold onS
    rw [say_cons, say_cons]
    split
    · exact (Exr.ok m).mono (suf_cons w ws)
    split
    · exact Exr.no (fl_refuse _)
    · exact Exr.room (addF_x m h1)
theorem onP_x (hl : 1 ≤ l2.length) (m : Ms) : ∀ ws, Exr true l2 ws (onP m (ws ++ lE)) (onP m (ws ++ l2))
  | [] => Exr.no (by unfold onP; exact fl_room (ofP_fl0 (by decide)).and)
  | w :: ws => by
    show Exr true l2 (w :: ws) (onP m (w :: (ws ++ lE))) (onP m (w :: (ws ++ l2)))
    unfold onP
    exact Exr.room (((ofP_x (by decide) ws).and fun w ws _ => blkP_x hl (onS_x hl) onS_fl _ ws).mono (suf_cons w ws))
theorem msS_fl (sub : List Wd → Pz Ms) (m : Ms) : Fl (msS sub m lE) := by
  unfold msS
  rw [say_E, if_neg (by decide), if_neg (by decide), if_neg (by decide), if_neg (by decide), if_neg (by decide), if_neg (by decide), if_neg (by decide), if_neg (by decide), if_neg (by decide)]
  exact fl_room (by unfold addF; exact (typedP_fl _ _).and)
theorem msS_x (hl : 1 ≤ l2.length) {sub sub' : List Wd → Pz Ms} (hsub : ∀ ws, Exr true l2 ws (sub (ws ++ lE)) (sub' (ws ++ l2))) (m : Ms) : ∀ ws, Exr true l2 ws (msS sub m (ws ++ lE)) (msS sub' m (ws ++ l2))
  | [] => Exr.no (msS_fl sub m)
  | w :: ws => by
    have h1 := hsub (w :: ws)
    have h2 := enP_x hl (w :: ws)
    have h3 := onP_x hl m (w :: ws)
    have h4 := resP_x hl 536870911 false m.rngs m.nams (w :: ws)
    have h5 := typedP_x hl 1 (-1) (w :: ws)
    revert h1 h2 h3 h4 h5
    show Exr true l2 (w :: ws) (sub (w :: (ws ++ lE))) (sub' (w :: (ws ++ l2))) → Exr true l2 (w :: ws) (enP (w :: (ws ++ lE))) (enP (w :: (ws ++ l2))) → Exr true l2 (w :: ws) (onP m (w :: (ws ++ lE))) (onP m (w :: (ws ++ l2))) → Exr true l2 (w :: ws) (resP 536870911 false m.rngs m.nams (w :: (ws ++ lE))) (resP 536870911 false m.rngs m.nams (w :: (ws ++ l2))) → Exr true l2 (w :: ws) (typedP 1 (-1) (w :: (ws ++ lE))) (typedP 1 (-1) (w :: (ws ++ l2))) → Exr true l2 (w :: ws) (msS sub m (w :: (ws ++ lE))) (msS sub' m (w :: (ws ++ l2)))
    intro h1 h2 h3 h4 h5
    unfold msS
    rw [say_cons, say_cons, List.tail_cons, List.tail_cons]
    split
    · exact (Exr.ok m).mono (suf_cons w ws)
    split
    · exact Exr.room (h1.and fun x ws _ => Exr.ok _)
    split
    · exact Exr.room (h2.and fun x ws _ => Exr.ok _)
    split
    · exact h3
    split
    · exact h4.and fun r ws _ => Exr.ok _
    split
    · exact Exr.room (addF_x m ((typedP_x hl _ _ ws).mono (suf_cons w ws)))
    split
    · exact Exr.room (addF_x m ((typedP_x hl _ _ ws).mono (suf_cons w ws)))
    split
    · exact Exr.room (addF_x m ((mapP_x hl ws).mono (suf_cons w ws)))
    split
    · exact Exr.no (fl_refuse _)
    · exact Exr.room (addF_x m h5)
theorem msP_x (hl : 1 ≤ l2.length) {dn : List Wd → Bool} (hd : ∀ l, dn l = decide ((hdW l).k = 1)) : ∀ (n n' : Nat), n ≤ n' → ∀ (deep : Nat) (ws : List Wd), Exr true l2 ws (msP dn n deep (ws ++ lE)) (msP dn n' deep (ws ++ l2))
  | 0, _, _, deep, ws => Exr.no (fl_no _ _)
  | n + 1, 0, h, _, _ => absurd h (by omega)
  | n + 1, n' + 1, h, deep, [] => Exr.no (by
    show Fl (msP dn (n + 1) deep lE)
    rw [msP]
    split
    · exact fl_no _ _
    · exact (ofP_fl0 (by decide)).and)
  | n + 1, n' + 1, h, deep, w :: ws => by
    show Exr true l2 (w :: ws) (msP dn (n + 1) deep (w :: (ws ++ lE))) (msP dn (n' + 1) deep (w :: (ws ++ l2)))
    rw [msP, msP, List.tail_cons, List.tail_cons, hd, hd]
    cases ws with
    | nil =>
      refine Exr.no ?_
      show Fl (if _ then _ else (ofP 1 lE).and _)
      split
      · exact fl_no _ _
      · exact (ofP_fl (by decide)).and
    | cons v ws =>
      show Exr true l2 (w :: v :: ws) (if 8 < deep ∧ decide (v.k = 1) = true then _ else _) (if 8 < deep ∧ decide (v.k = 1) = true then _ else _)
      split
      · exact Exr.no (fl_no _ _)
      · exact ((ofP_x (by decide) (v :: ws)).and fun a ws _ => blkP_x hl (msS_x hl (fun ws => msP_x hl hd n n' (by omega) (deep + 1) ws)) (msS_fl _) _ ws).mono (suf_cons w _)
theorem rpcP_x (hl : 1 ≤ l2.length) (ws : List Wd) : Exr true l2 ws (rpcP (ws ++ lE)) (rpcP (ws ++ l2)) := by
  have hend : ∀ ws : List Wd, Exr true l2 ws (if sayW (ws ++ lE) = kOpen then expP [kShut] (ws ++ lE).tail else expP [kSemi] (ws ++ lE)) (if sayW (ws ++ l2) = kOpen then expP [kShut] (ws ++ l2).tail else expP [kSemi] (ws ++ l2))
    | [] => Exr.no (by
      show Fl (if sayW lE = kOpen then _ else expP [kSemi] lE)
      rw [say_E, if_neg (by decide)]
      exact expP_fl _ (by decide))
    | w :: ws => by
      have h1 := expP_x (l2 := l2) [kSemi] (by decide) (w :: ws)
      revert h1
      show Exr true l2 (w :: ws) (expP [kSemi] (w :: (ws ++ lE))) (expP [kSemi] (w :: (ws ++ l2))) → Exr true l2 (w :: ws) (if sayW (w :: (ws ++ lE)) = kOpen then expP [kShut] (ws ++ lE) else expP [kSemi] (w :: (ws ++ lE))) (if sayW (w :: (ws ++ l2)) = kOpen then expP [kShut] (ws ++ l2) else expP [kSemi] (w :: (ws ++ l2)))
      intro h1
      rw [say_cons, say_cons]
      split
      · exact (expP_x _ (by decide) ws).mono (suf_cons w ws)
      · exact h1
  have hnm : ∀ {β : Type} (f g : Nat → ByteArray → List Wd → Pz β), (∀ p s ws, Exr true l2 ws (f p s (ws ++ lE)) (g p s (ws ++ l2))) → (∀ p s, Fl (f p s lE)) → ∀ ws, Exr true l2 ws ((nameP (ws ++ lE)).and (f (hdW (ws ++ lE)).p)) ((nameP (ws ++ l2)).and (g (hdW (ws ++ l2)).p)) := by
    intro β f g hf hE ws
    cases ws with
    | nil => exact Exr.no nameP_fl.and
    | cons w ws => exact Exr.andw (nameP_x hl (w :: ws)) (fun s ws _ => hf _ s ws) fun s => hE _ s
  unfold rpcP
  refine (ofP_x (by decide) ws).and fun w ws _ => (expP_x _ (by decide) ws).and fun _ ws _ => ?_
  refine hnm (fun p1 inn l => (expP [kRpar, kRet, kLpar] l).and fun _ l2 => (nameP l2).and fun out l => (expP [kRpar] l).and fun _ l => (if sayW l = kOpen then expP [kShut] l.tail else expP [kSemi] l).and fun _ l => .ok (⟨w.t, inn, out, w.p, p1, (hdW l2).p⟩ : Rp) l) (fun p1 inn l => (expP [kRpar, kRet, kLpar] l).and fun _ l2 => (nameP l2).and fun out l => (expP [kRpar] l).and fun _ l => (if sayW l = kOpen then expP [kShut] l.tail else expP [kSemi] l).and fun _ l => .ok (⟨w.t, inn, out, w.p, p1, (hdW l2).p⟩ : Rp) l) (fun p1 inn ws => ?_) (fun _ _ => (expP_fl _ (by decide)).and) ws
  refine (expP_x _ (by decide) ws).and fun _ ws _ => ?_
  exact hnm (fun p2 out l => (expP [kRpar] l).and fun _ l => (if sayW l = kOpen then expP [kShut] l.tail else expP [kSemi] l).and fun _ l => .ok (⟨w.t, inn, out, w.p, p1, p2⟩ : Rp) l) (fun p2 out l => (expP [kRpar] l).and fun _ l => (if sayW l = kOpen then expP [kShut] l.tail else expP [kSemi] l).and fun _ l => .ok (⟨w.t, inn, out, w.p, p1, p2⟩ : Rp) l) (fun p2 out ws => (expP_x _ (by decide) ws).and fun _ ws _ => (hend ws).and fun _ ws _ => Exr.ok _) (fun _ _ => (expP_fl _ (by decide)).and) ws
theorem svS_fl (x : Sv) : Fl (svS x lE) := by
  unfold svS
  rw [say_E, if_neg (by decide), if_neg (by decide)]
  exact fl_refuse _
theorem svS_x (hl : 1 ≤ l2.length) (x : Sv) : ∀ ws, Exr true l2 ws (svS x (ws ++ lE)) (svS x (ws ++ l2))
  | [] => Exr.no (svS_fl x)
  | w :: ws => by
    show Exr true l2 (w :: ws) (svS x (w :: (ws ++ lE))) (svS x (w :: (ws ++ l2)))
    unfold svS
    rw [say_cons, say_cons, List.tail_cons, List.tail_cons]
    split
    · exact (Exr.ok x).mono (suf_cons w ws)
    split
    · exact Exr.room (((rpcP_x hl ws).and fun r ws _ => Exr.ok _).mono (suf_cons w ws))
    · exact Exr.no (fl_refuse _)
theorem svP_x (hl : 1 ≤ l2.length) : ∀ ws, Exr true l2 ws (svP (ws ++ lE)) (svP (ws ++ l2))
  | [] => Exr.no (by unfold svP; exact (ofP_fl0 (by decide)).and)
  | w :: ws => by
    show Exr true l2 (w :: ws) (svP (w :: (ws ++ lE))) (svP (w :: (ws ++ l2)))
    unfold svP
    exact ((ofP_x (by decide) ws).and fun w ws _ => blkP_x hl (svS_x hl) svS_fl _ ws).mono (suf_cons w ws)
theorem impP_x : ∀ ws, Exr true l2 ws (impP (ws ++ lE)) (impP (ws ++ l2))
  | [] => Exr.no (by
    unfold impP
    refine Fl.and ?_
    show Fl (litP _ (if sayW [] = kPub then _ else []))
    rw [if_neg (by decide)]
    exact litP_fl0 _)
  | [w] => Exr.no (by
    unfold impP
    refine Fl.and ?_
    show Fl (litP _ (if sayW lE = kPub then _ else lE))
    rw [say_E, if_neg (by decide)]
    exact litP_fl _)
  | w :: v :: ws => by
    have h1 := litP_x (l2 := l2) (fun s => pathL s.data.toList) (v :: ws)
    revert h1
    show Exr true l2 (v :: ws) (litP (fun s => pathL s.data.toList) (v :: (ws ++ lE))) (litP (fun s => pathL s.data.toList) (v :: (ws ++ l2))) → Exr true l2 (w :: v :: ws) (impP (w :: v :: (ws ++ lE))) (impP (w :: v :: (ws ++ l2)))
    intro h1
    show Exr true l2 (w :: v :: ws) ((litP (fun s => pathL s.data.toList) (if sayW (v :: (ws ++ lE)) = kPub then ws ++ lE else v :: (ws ++ lE))).and fun x l3 => (expP [kSemi] l3).and fun _ l3 => .ok (⟨x.t, decide (sayW (v :: (ws ++ lE)) = kPub), x.p⟩ : Im) l3) ((litP (fun s => pathL s.data.toList) (if sayW (v :: (ws ++ l2)) = kPub then ws ++ l2 else v :: (ws ++ l2))).and fun x l3 => (expP [kSemi] l3).and fun _ l3 => .ok (⟨x.t, decide (sayW (v :: (ws ++ l2)) = kPub), x.p⟩ : Im) l3)
    rw [say_cons, say_cons]
    by_cases hp : sy v = kPub
    · rw [if_pos hp, if_pos hp]
      exact ((litP_x _ ws).mono ((suf_cons v ws).trans (suf_cons w _))).and fun x ws _ => (expP_x _ (by decide) ws).and fun _ ws _ => Exr.ok _
    · rw [if_neg hp, if_neg hp]
      exact (h1.mono (suf_cons w _)).and fun x ws _ => (expP_x _ (by decide) ws).and fun _ ws _ => Exr.ok _
theorem fiS_fl (dn : List Wd → Bool) (x : Tr) : Fl (fiS dn x lE) := by
  unfold fiS
  rw [say_E, if_neg (by decide), if_neg (by decide), if_neg (by decide), if_neg (by decide), if_neg (by decide), if_neg (by decide)]
  exact fl_refuse _
theorem fiS_x (hl : 1 ≤ l2.length) {dn : List Wd → Bool} (hd : ∀ l, dn l = decide ((hdW l).k = 1)) (x : Tr) : ∀ ws, Exr true l2 ws (fiS dn x (ws ++ lE)) (fiS dn x (ws ++ l2))
  | [] => Exr.no (fiS_fl dn x)
  | w :: ws => by
    have h1 := impP_x (l2 := l2) (w :: ws)
    have h2 := msP_x hl hd ((w :: ws) ++ lE).length ((w :: ws) ++ l2).length (by simp; omega) 1 (w :: ws)
    have h3 := enP_x hl (w :: ws)
    have h4 := svP_x hl (w :: ws)
    revert h1 h2 h3 h4
    show Exr true l2 (w :: ws) (impP (w :: (ws ++ lE))) (impP (w :: (ws ++ l2))) → Exr true l2 (w :: ws) (msP dn (w :: (ws ++ lE)).length 1 (w :: (ws ++ lE))) (msP dn (w :: (ws ++ l2)).length 1 (w :: (ws ++ l2))) → Exr true l2 (w :: ws) (enP (w :: (ws ++ lE))) (enP (w :: (ws ++ l2))) → Exr true l2 (w :: ws) (svP (w :: (ws ++ lE))) (svP (w :: (ws ++ l2))) → Exr true l2 (w :: ws) (fiS dn x (w :: (ws ++ lE))) (fiS dn x (w :: (ws ++ l2)))
    intro h1 h2 h3 h4
    unfold fiS
    rw [say_cons, say_cons, List.tail_cons, List.tail_cons]
    split
    · exact (Exr.ok x).mono (suf_cons w ws)
    split
    · split
      · exact Exr.no (fl_refuse _)
      · cases ws with
        | nil => exact Exr.no (fullP_fl _ _).and
        | cons v ws => exact (Exr.andw (fullP_x hl kNone v.p (v :: ws)) (fun s ws _ => (expP_x _ (by decide) ws).and fun _ ws _ => Exr.ok _) fun _ => (expP_fl _ (by decide)).and).mono (suf_cons w _)
    split
    · exact Exr.room (h1.and fun y ws _ => Exr.ok _)
    split
    · exact Exr.room (h2.and fun y ws _ => Exr.ok _)
    split
    · exact Exr.room (h3.and fun y ws _ => Exr.ok _)
    split
    · exact Exr.room (h4.and fun y ws _ => Exr.ok _)
    · exact Exr.no (fl_refuse _)
end Go.Proofs.YthmdaejlopjjoaaGreatDoor
