/-
  Lists of records: how they lie, what bytes are split to.
-/
import Derived.Test.YtlckppmggklinaaCopy
namespace Go.Proofs.Ytlckppmggklinaa
open Go.RowKit
set_option linter.unusedVariables false

theorem OwnRec.isRec {w : World} {base : Nat} {v : Value} {r : Rc} (h : OwnRec w base v r) : IsRec w base w.heap.size v r := by
  obtain ⟨vb, vr, rfl, h1, h2⟩ := h
  obtain ⟨A, c, rfl, b1⟩ := h1.bs
  obtain ⟨A', c', rfl, b2⟩ := h2.bs
  exact ⟨A, _, c, A', _, c', rfl, b1, b2⟩
theorem IsRec.kept {w w' : World} {lo hi : Nat} {v : Value} {r : Rc} (h : IsRec w lo hi v r) (k : Kept lo hi w w') : IsRec w' lo hi v r := by
  obtain ⟨A, n, c, A', n', c', rfl, h1, h2⟩ := h
  exact ⟨A, n, c, A', n', c', rfl, h1.kept k, h2.kept k⟩
theorem IsRec.mono {w : World} {lo hi lo' hi' : Nat} {v : Value} {r : Rc} (h : IsRec w lo hi v r) (h1 : lo' ≤ lo) (h2 : hi ≤ hi') : IsRec w lo' hi' v r := by
  obtain ⟨A, n, c, A', n', c', rfl, b1, b2⟩ := h
  exact ⟨A, n, c, A', n', c', rfl, b1.mono h1 h2, b2.mono h1 h2⟩
theorem OwnRec.kept {w w' : World} {base : Nat} {v : Value} {r : Rc} (h : OwnRec w base v r) (k : ∀ g u l, Own w base u l → u.ownBlock = some g → w'.heap[g]? = w.heap[g]?) : OwnRec w' base v r := by
  obtain ⟨vb, vr, rfl, h1, h2⟩ := h
  exact ⟨vb, vr, rfl, h1.kept fun g hg => k g _ _ h1 hg, h2.kept fun g hg => k g _ _ h2 hg⟩
theorem OwnRec.base_ {w : World} {base base' : Nat} {v : Value} {r : Rc} (h : OwnRec w base v r) (hb : base' ≤ base) : OwnRec w base' v r := by
  obtain ⟨vb, vr, rfl, h1, h2⟩ := h
  exact ⟨vb, vr, rfl, h1.base_ hb, h2.base_ hb⟩

def AllRec (w : World) (lo hi : Nat) : List Value → List Rc → Prop
  | [], [] => True
  | v :: vs, r :: rs => IsRec w lo hi v r ∧ AllRec w lo hi vs rs
  | _, _ => False
def AllOwn (w : World) (base : Nat) : List Value → List Rc → Prop
  | [], [] => True
  | v :: vs, r :: rs => OwnRec w base v r ∧ AllOwn w base vs rs
  | _, _ => False

theorem AllOwn.snoc {w : World} {base : Nat} {v : Value} {r : Rc} (hv : OwnRec w base v r) : ∀ {vs : List Value} {rs : List Rc}, AllOwn w base vs rs → AllOwn w base (vs ++ [v]) (rs ++ [r])
  | [], [], _ => ⟨hv, trivial⟩
  | _ :: _, _ :: _, h => ⟨h.1, AllOwn.snoc hv h.2⟩
theorem AllOwn.kept {w w' : World} {base : Nat} (k : ∀ g u l, Own w base u l → u.ownBlock = some g → w'.heap[g]? = w.heap[g]?) : ∀ {vs : List Value} {rs : List Rc}, AllOwn w base vs rs → AllOwn w' base vs rs
  | [], [], _ => trivial
  | _ :: _, _ :: _, h => ⟨h.1.kept k, AllOwn.kept k h.2⟩
theorem AllOwn.allRec {w : World} {base : Nat} : ∀ {vs : List Value} {rs : List Rc}, AllOwn w base vs rs → AllRec w base w.heap.size vs rs
  | [], [], _ => trivial
  | _ :: _, _ :: _, h => ⟨h.1.isRec, AllOwn.allRec h.2⟩
theorem AllRec.kept {w w' : World} {lo hi : Nat} (k : Kept lo hi w w') : ∀ {vs : List Value} {rs : List Rc}, AllRec w lo hi vs rs → AllRec w' lo hi vs rs
  | [], [], _ => trivial
  | _ :: _, _ :: _, h => ⟨h.1.kept k, AllRec.kept k h.2⟩
theorem AllRec.mono {w : World} {lo hi lo' hi' : Nat} (h1 : lo' ≤ lo) (h2 : hi ≤ hi') : ∀ {vs : List Value} {rs : List Rc}, AllRec w lo hi vs rs → AllRec w lo' hi' vs rs
  | [], [], _ => trivial
  | _ :: _, _ :: _, h => ⟨h.1.mono h1 h2, AllRec.mono h1 h2 h.2⟩
theorem AllRec.length {w : World} {lo hi : Nat} : ∀ {vs : List Value} {rs : List Rc}, AllRec w lo hi vs rs → vs.length = rs.length
  | [], [], _ => rfl
  | _ :: _, _ :: _, h => by simp [AllRec.length h.2]
theorem AllOwn.length {w : World} {base : Nat} : ∀ {vs : List Value} {rs : List Rc}, AllOwn w base vs rs → vs.length = rs.length
  | [], [], _ => rfl
  | _ :: _, _ :: _, h => by simp [AllOwn.length h.2]
theorem AllRec.get {w : World} {lo hi : Nat} : ∀ {vs : List Value} {rs : List Rc} (i : Nat) (h1 : i < vs.length) (h2 : i < rs.length), AllRec w lo hi vs rs → IsRec w lo hi vs[i] rs[i]
  | _ :: _, _ :: _, 0, _, _, h => h.1
  | _ :: vs, _ :: rs, i + 1, h1, h2, h => AllRec.get (vs := vs) (rs := rs) i (by simpa using h1) (by simpa using h2) h.2

/-- The cells of records, one behind the other. -/
def flat (vs : List Value) : List Value := vs.flatMap fun v => v.cells.toList
theorem flat_snoc (vs : List Value) (v : Value) : flat (vs ++ [v]) = flat vs ++ v.cells.toList := by simp [flat]
theorem IsRec.cells {w : World} {lo hi : Nat} {v : Value} {r : Rc} (h : IsRec w lo hi v r) : v.cells.toList.length = 5 := by
  obtain ⟨A, n, c, A', n', c', rfl, _⟩ := h; rfl
theorem AllRec.flat_length {w : World} {lo hi : Nat} : ∀ {vs : List Value} {rs : List Rc}, AllRec w lo hi vs rs → (flat vs).length = rs.length * 5
  | [], [], _ => rfl
  | v :: vs, r :: rs, h => by
    have h1 := h.1.cells
    have h2 := AllRec.flat_length h.2
    show ((v.cells.toList ++ flat vs)).length = _
    rw [List.length_append, h1, h2, List.length_cons]; omega
theorem AllRec.flat_get {w : World} {lo hi : Nat} : ∀ {vs : List Value} {rs : List Rc} (i j : Nat) (h1 : i < vs.length), j < 5 → AllRec w lo hi vs rs → (flat vs)[5 * i + j]? = vs[i].cells.toList[j]?
  | v :: vs, r :: rs, 0, j, _, hj, h => by
    show (v.cells.toList ++ flat vs)[5 * 0 + j]? = _
    rw [List.getElem?_append_left (by rw [h.1.cells]; omega)]
    simp
  | v :: vs, r :: rs, i + 1, j, h1, hj, h => by
    show (v.cells.toList ++ flat vs)[5 * (i + 1) + j]? = _
    rw [List.getElem?_append_right (by rw [h.1.cells]; omega), h.1.cells, show 5 * (i + 1) + j - 5 = 5 * i + j by omega]
    exact AllRec.flat_get (vs := vs) (rs := rs) i j (by simpa using h1) hj h.2

/-- A slice of records that lies anywhere in blocks lo .. hi-1. -/
def Rs (w : World) (lo hi : Nat) (A : Option Addr) (n c : Nat) (rs : List Rc) : Prop :=
  rs.length = n ∧ n ≤ c ∧ c ≤ maxLen ∧ ∃ vs, AllRec w lo hi vs rs ∧ (0 < n → ∃ b o, A = some ⟨b, o, none⟩ ∧ lo ≤ b ∧ b < hi ∧ ∀ k u, (flat vs)[k]? = some u → w.cell? ⟨b, o + k, none⟩ = some u)

theorem Rs.kept {w w' : World} {lo hi n c : Nat} {A : Option Addr} {rs : List Rc} (h : Rs w lo hi A n c rs) (k : Kept lo hi w w') : Rs w' lo hi A n c rs := by
  obtain ⟨h1, h2, h3, vs, ha, hc⟩ := h
  refine ⟨h1, h2, h3, vs, ha.kept k, fun hn => ?_⟩
  obtain ⟨b, o, e, p, q, hc⟩ := hc hn
  exact ⟨b, o, e, p, q, fun i u hu => (World.cell?_of_block (a := ⟨b, o + i, none⟩) (k b p q)).trans (hc i u hu)⟩
theorem Rs.mono {w : World} {lo hi lo' hi' n c : Nat} {A : Option Addr} {rs : List Rc} (h : Rs w lo hi A n c rs) (h1 : lo' ≤ lo) (h2 : hi ≤ hi') : Rs w lo' hi' A n c rs := by
  obtain ⟨e1, e2, e3, vs, ha, hc⟩ := h
  refine ⟨e1, e2, e3, vs, ha.mono h1 h2, fun hn => ?_⟩
  obtain ⟨b, o, e, p, q, hc⟩ := hc hn
  exact ⟨b, o, e, by omega, by omega, hc⟩
/-- Element i: its five cells. -/
theorem Rs.at_ {w : World} {lo hi n c i : Nat} {A : Option Addr} {rs : List Rc} (h : Rs w lo hi A n c rs) (hin : i < n) :
    ∃ b o r B m d B' m' d', A = some ⟨b, o, none⟩ ∧ b < hi ∧ rs[i]? = some r ∧ Bs w lo hi B m d r.b ∧ Bs w lo hi B' m' d' r.raw ∧
      w.cell? ⟨b, o + i * 5, none⟩ = some (.int .i64 r.num) ∧ w.cell? ⟨b, o + i * 5 + 1, none⟩ = some (.int .i64 r.wire) ∧ w.cell? ⟨b, o + i * 5 + 2, none⟩ = some (.int .u64 r.n) ∧
      w.cell? ⟨b, o + i * 5 + 3, none⟩ = some (.slice B m d) ∧ w.cell? ⟨b, o + i * 5 + 4, none⟩ = some (.slice B' m' d') := by
  obtain ⟨h1, h2, h3, vs, ha, hc⟩ := h
  obtain ⟨b, o, rfl, _, hbh, hc⟩ := hc (by omega)
  have hl := ha.length
  have hg := ha.get i (by omega) (by omega)
  obtain ⟨B, m, d, B', m', d', hv, hb, hr⟩ := hg
  have hf : ∀ j u, j < 5 → vs[i].cells.toList[j]? = some u → w.cell? ⟨b, o + i * 5 + j, none⟩ = some u := fun j u hj hu => by
    have := hc (5 * i + j) u (by rw [ha.flat_get i j (by omega) hj]; exact hu)
    rw [show o + i * 5 + j = o + (5 * i + j) by omega]; exact this
  rw [hv] at hf
  exact ⟨b, o, rs[i], B, m, d, B', m', d', rfl, hbh, List.getElem?_eq_getElem (by omega), hb, hr, hf 0 _ (by omega) rfl, hf 1 _ (by omega) rfl, hf 2 _ (by omega) rfl, hf 3 _ (by omega) rfl, hf 4 _ (by omega) rfl⟩
theorem Rs.nil (w : World) (lo hi : Nat) (A : Option Addr) {c : Nat} (hc : c ≤ maxLen) : Rs w lo hi A 0 c [] := ⟨rfl, by omega, hc, [], trivial, fun h => absurd h (by omega)⟩

/-- A row of records of the call's own. -/
def OwnRecs (w : World) (base : Nat) (v : Value) (rs : List Rc) : Prop := ∃ vs, w.ownsRow base 34 5 v rs.length (flat vs) ∧ AllOwn w base vs rs
theorem OwnRecs.rs {w : World} {base : Nat} {v : Value} {rs : List Rc} (h : OwnRecs w base v rs) : ∃ A c, v = .slice A rs.length c ∧ Rs w base w.heap.size A rs.length c rs := by
  obtain ⟨vs, h, ha⟩ := h
  rcases h.2 with ⟨rfl, h0⟩ | ⟨g, cap, cur, rfl, hb, hh, hnc, hm, hsz, ht⟩
  · have hl : rs = [] := List.eq_nil_of_length_eq_zero h0
    subst hl
    exact ⟨none, 0, rfl, Rs.nil _ _ _ _ (by unfold maxLen; omega)⟩
  · refine ⟨_, _, rfl, rfl, hnc, hm, vs, ha.allRec, fun _ => ⟨g, 0, rfl, hb, ?_, fun k u hu => ?_⟩⟩
    · rcases Nat.lt_or_ge g w.heap.size with hlt | hge
      · exact hlt
      · rw [Array.getElem?_eq_none hge] at hh; cases hh
    · rw [cell_of_row w g (0 + k) cur 34 (0, 0) hh, Nat.zero_add]
      have h1 : (cur.toList.take (rs.length * 5))[k]? = (flat vs)[k]? := by rw [ht]
      have hk : k < (flat vs).length := by
        rcases Nat.lt_or_ge k (flat vs).length with hlt | hge
        · exact hlt
        · rw [List.getElem?_eq_none hge] at hu; cases hu
      have hfl := ha.allRec.flat_length
      rw [List.getElem?_take_of_lt (by omega)] at h1
      rw [← Array.getElem?_toList, h1, hu]

/-- Bytes and records never lie in one block. -/
theorem own_ne {w : World} {base base' n : Nat} {u v : Value} {l : List UInt8} {xs : List Value} (h : Own w base u l) (k : w.ownsRow base' 34 5 v n xs) {g : Nat} (hg : u.ownBlock = some g) : v.ownBlock ≠ some g := by
  intro hv
  rcases h.2 with ⟨rfl, _⟩ | ⟨g1, _, cur, rfl, _, hh, _⟩
  · cases hg
  rcases k.2 with ⟨rfl, _⟩ | ⟨g2, _, cur2, rfl, _, hh2, _⟩
  · cases hv
  have e1 : g1 = g := by simpa [Value.ownBlock] using hg
  have e2 : g2 = g := by simpa [Value.ownBlock] using hv
  subst e1; subst e2
  rw [hh] at hh2
  injection hh2 with hh2
  injection hh2 with _ ht
  exact absurd ht (by decide)

/-- All records of bytes: (error, records); at most so many. -/
def spF : Nat → List UInt8 → Nat × List Rc
  | 0, _ => (0, [])
  | f + 1, l => if l = [] then (0, []) else if (nxR l).1 ≠ 0 then ((nxR l).1, []) else
      if (spF f (l.drop (nxR l).2.2)).1 ≠ 0 then ((spF f (l.drop (nxR l).2.2)).1, []) else (0, (nxR l).2.1 :: (spF f (l.drop (nxR l).2.2)).2)
def spL (l : List UInt8) : Nat × List Rc := spF l.length l

theorem spL_nil : spL [] = (0, []) := rfl
theorem bdR_bound (x : Nat) (l : List UInt8) (h : (bdR x l).1 = 0) : (bdR x l).2.2.2 ≤ l.length := by
  unfold bdR at h ⊢
  by_cases h0 : x = 0
  · rw [if_pos h0] at h ⊢
    have := (rv_bound l 0 0 (by omega) (by decide)).2 h
    simp only; omega
  rw [if_neg h0] at h ⊢
  by_cases h1 : x = 1
  · rw [if_pos h1] at h ⊢
    unfold fxR at h ⊢
    by_cases hl : l.length < 8
    · rw [if_pos hl] at h; simp at h
    · rw [if_neg hl]; simp only; omega
  rw [if_neg h1] at h ⊢
  by_cases h2 : x = 2
  · rw [if_pos h2] at h ⊢
    unfold ctR at h ⊢
    simp only at h ⊢
    by_cases a1 : (rv l 0 0).1 ≠ 0
    · rw [if_pos a1] at h; exact absurd h a1
    rw [if_neg a1] at h ⊢
    by_cases a2 : 1048576 < (rv l 0 0).2.1
    · rw [if_pos a2] at h; simp at h
    rw [if_neg a2] at h ⊢
    by_cases a3 : l.length < (rv l 0 0).2.2 + (rv l 0 0).2.1
    · rw [if_pos a3] at h; simp at h
    rw [if_neg a3]; simp only; omega
  rw [if_neg h2] at h ⊢
  by_cases h5 : x = 5
  · rw [if_pos h5] at h ⊢
    unfold fxR at h ⊢
    by_cases hl : l.length < 4
    · rw [if_pos hl] at h; simp at h
    · rw [if_neg hl]; simp only; omega
  rw [if_neg h5] at h; simp at h
/-- A record that is read has at least one byte, and lies in the bytes. -/
theorem nxR_pos (l : List UInt8) (h : (nxR l).1 = 0) : 0 < (nxR l).2.2 ∧ (nxR l).2.2 ≤ l.length ∧ (nxR l).2.1.raw = l.take (nxR l).2.2 := by
  unfold nxR at h ⊢
  by_cases a1 : (rv l 0 0).1 ≠ 0
  · rw [if_pos a1] at h; exact absurd h a1
  rw [if_neg a1] at h ⊢
  by_cases a2 : (rv l 0 0).2.1 / 8 = 0 ∨ 536870911 < (rv l 0 0).2.1 / 8
  · rw [if_pos a2] at h; simp at h
  rw [if_neg a2] at h ⊢
  by_cases a3 : (bdR ((rv l 0 0).2.1 % 8) (l.drop (rv l 0 0).2.2)).1 ≠ 0
  · rw [if_pos a3] at h; exact absurd h a3
  rw [if_neg a3]
  have hb := (rv_bound l 0 0 (by omega) (by decide)).2 (by simpa using a1)
  have hc := bdR_bound _ _ (by simpa using a3)
  simp only [List.length_drop] at hc
  refine ⟨by simp only; omega, by simp only; omega, rfl⟩
theorem spF_fuel : ∀ (f g : Nat) (l : List UInt8), l.length ≤ f → l.length ≤ g → spF f l = spF g l
  | 0, g, l, hf, _ => by
    have hl : l = [] := List.eq_nil_of_length_eq_zero (by omega)
    subst hl
    cases g <;> simp [spF]
  | f + 1, 0, l, _, hg => by
    have hl : l = [] := List.eq_nil_of_length_eq_zero (by omega)
    subst hl
    simp [spF]
  | f + 1, g + 1, l, hf, hg => by
    rw [spF, spF]
    by_cases hl : l = []
    · rw [if_pos hl, if_pos hl]
    rw [if_neg hl, if_neg hl]
    by_cases he : (nxR l).1 ≠ 0
    · rw [if_pos he, if_pos he]
    rw [if_neg he, if_neg he]
    have hp := nxR_pos l (by simpa using he)
    rw [spF_fuel f g (l.drop (nxR l).2.2) (by simp; omega) (by simp; omega)]
theorem spL_bad (l : List UInt8) (h : l ≠ []) (he : (nxR l).1 ≠ 0) : spL l = ((nxR l).1, []) := by
  have hl := List.length_pos_iff.2 h
  unfold spL
  rw [show l.length = (l.length - 1) + 1 by omega, spF, if_neg h, if_pos he]
theorem spL_ok (l : List UInt8) (h : l ≠ []) (he : (nxR l).1 = 0) :
    spL l = if (spL (l.drop (nxR l).2.2)).1 ≠ 0 then ((spL (l.drop (nxR l).2.2)).1, []) else (0, (nxR l).2.1 :: (spL (l.drop (nxR l).2.2)).2) := by
  have hl := List.length_pos_iff.2 h
  have hp := nxR_pos l he
  unfold spL
  rw [show l.length = (l.length - 1) + 1 by omega, spF, if_neg h, if_neg (by simpa using he), spF_fuel (l.length - 1) (l.drop (nxR l).2.2).length (l.drop (nxR l).2.2) (by simp; omega) (Nat.le_refl _)]
def spR (l : List UInt8) : Nat × List Rc := if 1048576 < l.length then (5, []) else spL l
/-- What has been read, and what is to come. -/
def comb (acc : List Rc) (q : Nat × List Rc) : Nat × List Rc := if q.1 ≠ 0 then (q.1, []) else (0, acc ++ q.2)
theorem comb_nil (l : List UInt8) : comb [] (spL l) = spL l := by
  unfold comb
  by_cases h : (spL l).1 ≠ 0
  · rw [if_pos h]
    by_cases hl : l = []
    · subst hl; rw [spL_nil] at h; simp at h
    by_cases he : (nxR l).1 = 0
    · rw [spL_ok l hl he] at h ⊢
      by_cases h2 : (spL (l.drop (nxR l).2.2)).1 ≠ 0
      · rw [if_pos h2]
      · rw [if_neg h2] at h; simp at h
    · rw [spL_bad l hl he]
  · rw [if_neg h]
    have : (spL l).1 = 0 := by simpa using h
    rw [List.nil_append, ← this]
theorem comb_ok (acc : List Rc) (l : List UInt8) (h : l ≠ []) (he : (nxR l).1 = 0) : comb acc (spL l) = comb (acc ++ [(nxR l).2.1]) (spL (l.drop (nxR l).2.2)) := by
  rw [spL_ok l h he]
  unfold comb
  by_cases h2 : (spL (l.drop (nxR l).2.2)).1 ≠ 0
  · rw [if_pos h2, if_pos h2, if_pos h2]
  · rw [if_neg h2, if_neg h2, if_neg (by simp)]; simp
theorem comb_bad (acc : List Rc) (l : List UInt8) (h : l ≠ []) (he : (nxR l).1 ≠ 0) : comb acc (spL l) = ((nxR l).1, []) := by
  rw [spL_bad l h he]; unfold comb; rw [if_pos he]
end Go.Proofs.Ytlckppmggklinaa
