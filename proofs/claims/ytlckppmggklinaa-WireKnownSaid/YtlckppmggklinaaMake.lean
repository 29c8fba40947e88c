/-
  Make.
-/
import Derived.Test.YtlckppmggklinaaSplit
namespace Go.Proofs.Ytlckppmggklinaa
open Go.RowKit
set_option linter.unusedVariables false

/-- The bytes of a record that is made. -/
def mkRaw (num wire : Int) (n : Nat) (b : List UInt8) : List UInt8 :=
  Lib.uvarint (8 * num + wire).toNat ++ (if wire = 0 then Lib.uvarint n else if wire = 1 then fixB 8 n else if wire = 5 then fixB 4 n else Lib.uvarint b.length ++ b)
def mkR (num wire : Int) (n : Nat) (b : List UInt8) : Int × Rc :=
  if mayE num wire n b.length ≠ 0 then (mayE num wire n b.length, .zero)
  else (0, ⟨num, wire, if wire = 2 then 0 else n, if wire = 2 then b else [], mkRaw num wire n b⟩)

def MakeP (w : World) (R : Int × Rc) (e : Ending) (w' : World) : Prop :=
  ∃ v, e = .returned (.tuple #[v, .int .i64 R.1]) ∧ OwnRec w' w.heap.size v R.2 ∧ Below w.heap.size w w'

theorem mayE_cases {num wire n size : Int} (h : mayE num wire n size = 0) : 1 ≤ num ∧ num ≤ 536870911 ∧ (wire = 0 ∨ wire = 1 ∨ (wire = 5 ∧ n < 4294967296) ∨ (wire = 2 ∧ size ≤ 1048576)) := by
  unfold mayE at h
  by_cases h1 : num < 1
  · rw [if_pos h1] at h; omega
  rw [if_neg h1] at h
  by_cases h2 : 536870911 < num
  · rw [if_pos h2] at h; omega
  rw [if_neg h2] at h
  refine ⟨by omega, by omega, ?_⟩
  by_cases h3 : wire = 0
  · exact .inl h3
  rw [if_neg h3] at h
  by_cases h4 : wire = 1
  · exact .inr (.inl h4)
  rw [if_neg h4] at h
  by_cases h5 : wire = 5
  · rw [if_pos h5] at h
    by_cases h6 : 4294967296 ≤ n
    · rw [if_pos h6] at h; omega
    · exact .inr (.inr (.inl ⟨h5, by omega⟩))
  rw [if_neg h5] at h
  by_cases h7 : wire = 2
  · rw [if_pos h7] at h
    by_cases h6 : 1048576 < size
    · rw [if_pos h6] at h; omega
    · exact .inr (.inr (.inr ⟨h7, by omega⟩))
  rw [if_neg h7] at h; omega

theorem tag_or (num : Int) (x : Nat) (h0 : 1 ≤ num) (h1 : num ≤ 536870911) (hx : x < 8) : bits .or .u64 (num * 8) (x : Int) = 8 * num + x := by
  obtain ⟨m, rfl⟩ := Int.eq_ofNat_of_zero_le (show 0 ≤ num by omega)
  have := bits_or_u64_nat (m * 8) x (by omega) (by omega)
  rw [show ((m : Int) * 8) = ((m * 8 : Nat) : Int) by simp, this, Nat.or_comm, show m * 8 = m * 2 ^ 3 by omega, or_shift x m 3 (by omega)]
  omega

/-- What Make has made, ahead of the answer's copy: r lies in block q. -/
structure MkFin (w W : World) (q : Nat) (r : Rc) (vb vr : Value) : Prop where
  rec_ : Blk W q 34 #[.int .i64 r.num, .int .i64 r.wire, .int .u64 r.n, vb, vr]
  res : Blk W w.heap.size 34 #[.int .i64 0, .int .i64 0, .int .u64 0, .slice none 0 0, .slice none 0 0]
  ob : Own W (w.heap.size + 1) vb r.b
  or_ : Own W (w.heap.size + 1) vr r.raw
  bel : Below w.heap.size w W
  lt : w.heap.size < q

theorem MkFin.end_ {w W : World} {q : Nat} {r : Rc} {vb vr : Value} (h : MkFin w W q r vb vr) :
    Blk (set5 W w.heap.size (.int .i64 r.num) (.int .i64 r.wire) (.int .u64 r.n) vb vr) w.heap.size 34 #[.int .i64 r.num, .int .i64 r.wire, .int .u64 r.n, vb, vr] ∧
    MakeP w (0, r) (.returned (.tuple #[.agg #[.int .i64 r.num, .int .i64 r.wire, .int .u64 r.n, vb, vr], .int .i64 0])) (set5 W w.heap.size (.int .i64 r.num) (.int .i64 r.wire) (.int .u64 r.n) vb vr) := by
  refine ⟨h.res.set5 _ _ _ _ _, _, rfl, ⟨vb, vr, rfl, ?_, ?_⟩, ?_⟩
  · refine (h.ob.kept fun g hg => ?_).base_ (by omega)
    have := (h.ob.lt hg).1
    exact (Kept.set5 (Kept.refl g (g + 1) W) (.inl (by omega)) _ _ _ _ _) g (by omega) (by omega)
  · refine (h.or_.kept fun g hg => ?_).base_ (by omega)
    have := (h.or_.lt hg).1
    exact (Kept.set5 (Kept.refl g (g + 1) W) (.inl (by omega)) _ _ _ _ _) g (by omega) (by omega)
  · unfold set5
    exact ((((h.bel.setCell (by simp) _).setCell (by simp) _).setCell (by simp) _).setCell (by simp) _).setCell (by simp) _

theorem make_err_end {w : World} {e : Int} {n : Nat} {num wire : Int} {b : List UInt8} (he : mayE num wire n b.length = e) (h0 : e ≠ 0) :
    MakeP w (mkR num wire n b) (.returned (.tuple #[.agg #[.int .i64 0, .int .i64 0, .int .u64 0, .slice none 0 0, .slice none 0 0], .int .i64 e])) (w.alloc (.cells #[.int .i64 0, .int .i64 0, .int .u64 0, .slice none 0 0, .slice none 0 0] 34)) := by
  have hm : mkR num wire n b = (e, .zero) := by unfold mkR; rw [he, if_pos h0]
  rw [hm]
  exact ⟨_, rfl, ⟨_, _, rfl, Own.nil _ _, Own.nil _ _⟩, (Below.refl _ _).alloc (Nat.le_refl _) _⟩

set_option maxRecDepth 100000 in
set_option maxHeartbeats 1000000 in
theorem make_err {w : World} {lo hi m c n : Nat} {num wire : Int} {A : Option Addr} {b : List UInt8} (hB : Bs w lo hi A m c b) (he : mayE num wire n b.length ≠ 0) :
    Calls Try.prog 24 #[.int .i64 num, .int .i64 wire, .int .u64 n, .slice A m c] w (MakeP w (mkR num wire n b)) := by
  have hl := hB.len
  have hm := fun W => mayBe_any num wire n m W
  obtain ⟨e, hE⟩ : ∃ e, e = mayE num wire n b.length := ⟨_, rfl⟩
  rw [← hE] at he
  rw [← hl] at hm
  rw [← hE] at hm
  rw [← hl]
  have hb : (e != 0) = true := by simp [he]
  have HM := Lib.hid hm
  have HE := Lib.hid hE
  have H0 := Lib.hid he
  clear hm hE he hl
  go_enter Try.func24, Try.ntmps24
  go_wp2_with fail
  refine (HM.out _).mono ?_
  rintro e w1 ⟨rfl, rfl⟩
  go_wp2
  exact bodyPost_ret (results_rec Try.results24 _ _ w.heap.size _ _ _ _ _ rfl (Blk.new _ _ _)) rfl (make_err_end HE.out.symm H0.out)


/-- The record's block and the answer's, behind a second append. -/
theorem mk_blks {w w1 w2 : World} {v1 v2 a0 a1 a2 a3 a4 : Value} {T : List UInt8} (hown1 : Own w1 (w.heap.size + 1) v1 T) (hs1 : w.heap.size + 1 ≤ w1.heap.size) (hb1 : Blk w1 w.heap.size 34 #[.int .i64 0, .int .i64 0, .int .u64 0, .slice none 0 0, .slice none 0 0])
    (hgrow2 : Grew (w1.alloc (.cells #[a0, a1, a2, a3, a4] 34)) w2 v1 v2) :
    Blk w2 w1.heap.size 34 #[a0, a1, a2, a3, a4] ∧ Blk w2 w.heap.size 34 #[.int .i64 0, .int .i64 0, .int .u64 0, .slice none 0 0, .slice none 0 0] := by
  refine ⟨(Blk.new w1 34 #[a0, a1, a2, a3, a4]).grown hgrow2.1 (fun e => ?_), (hb1.alloc _).grown hgrow2.1 (fun e => ?_)⟩
  · have := (hown1.lt e.symm).2; omega
  · have := (hown1.lt e.symm).1; omega

theorem mk_first {w w1 : World} {v1 : Value} (hgrow1 : Grew (w.alloc (.cells #[.int .i64 0, .int .i64 0, .int .u64 0, .slice none 0 0, .slice none 0 0] 34)) w1 (.slice none 0 0) v1) :
    w.heap.size + 1 ≤ w1.heap.size ∧ Blk w1 w.heap.size 34 #[.int .i64 0, .int .i64 0, .int .u64 0, .slice none 0 0, .slice none 0 0] ∧ Below w.heap.size w w1 := by
  have hs := hgrow1.size
  refine ⟨by simpa using hs, (Blk.new w 34 _).grown hgrow1.1 (fun e => by cases e), ((Below.refl _ _).alloc (Nat.le_refl _) _).trans (hgrow1.below (by simp <;> omega) (fun g hg => by cases hg))⟩

theorem mk_fin_n {w w1 w2 : World} {v1 v2 : Value} {T raw : List UInt8} {num wire : Int} {n : Nat} (hown1 : Own w1 (w.heap.size + 1) v1 T)
    (hgrow1 : Grew (w.alloc (.cells #[.int .i64 0, .int .i64 0, .int .u64 0, .slice none 0 0, .slice none 0 0] 34)) w1 (.slice none 0 0) v1)
    (hgrow2 : Grew (w1.alloc (.cells #[.int .i64 num, .int .i64 wire, .int .u64 0, .slice none 0 0, v1] 34)) w2 v1 v2) (hown2 : Own w2 (w.heap.size + 1) v2 raw) :
    MkFin w ((w2.setCell ⟨w1.heap.size, 2, none⟩ (.int .u64 n)).setCell ⟨w1.heap.size, 4, none⟩ v2) w1.heap.size ⟨num, wire, n, [], raw⟩ (.slice none 0 0) v2 := by
  obtain ⟨hs1, hb1, hbel⟩ := mk_first hgrow1
  obtain ⟨hq, hh⟩ := mk_blks hown1 hs1 hb1 hgrow2
  have hs2 := hgrow2.size
  simp at hs2
  have hv2 : v2.ownBlock ≠ some w1.heap.size := by
    intro e
    rcases hgrow2.2 with h | ⟨g, h, hg⟩
    · rw [h] at e; have := (hown1.lt e).2; omega
    · rw [h] at e; injection e with e; simp at hg; omega
  refine ⟨?_, (hh.far (by simp; omega) _).far (by simp; omega) _, Own.nil _ _, (hown2.setCell (p := ⟨w1.heap.size, 2, none⟩) hv2 _).setCell (p := ⟨w1.heap.size, 4, none⟩) hv2 _, ?_, by omega⟩
  · have := (hq.set_ 2 (.int .u64 n)).set_ 4 v2
    exact this
  · exact ((hbel.alloc (by omega) _).trans (hgrow2.below (by simp <;> omega) (fun g hg => by have := (hown1.lt hg).1; omega))).setCell (by simp; omega) _ |>.setCell (by simp; omega) _

theorem appendVar_nat (base : Nat) (v : Value) (xs : List UInt8) (n : Nat) (w : World) (h1 : (n : Int) ≤ 18446744073709551615) (hown : Own w base v xs) (hl : xs.length ≤ 1073741824) (hb : base ≤ w.heap.size) :
    Calls Try.prog 41 #[v, .int .u64 n] w (AppVar w base v (xs ++ Lib.uvarint n)) := by
  have := appendVar_any base v xs n w (by omega) h1 hown hl hb
  rwa [Int.toNat_natCast] at this
theorem appendFixed_nat (base : Nat) (v : Value) (xs : List UInt8) (n k : Nat) (w : World) (h1 : (n : Int) ≤ 18446744073709551615) (hown : Own w base v xs) (hl : xs.length ≤ 1073741824) (hk : k ≤ 8) (hb : base ≤ w.heap.size) :
    Calls Try.prog 45 #[v, .int .u64 n, .int .i64 k] w (AppVar w base v (xs ++ fixB k n)) := by
  have := appendFixed_any base v xs n k w (by omega) h1 hown hl hk hb
  rwa [Int.toNat_natCast] at this

theorem Own.val {w : World} {base : Nat} {v : Value} {l : List UInt8} (h : Own w base v l) : ∃ A k c, v = .slice A k c := by
  obtain ⟨A, c, e, _⟩ := h.bs
  exact ⟨A, _, c, e⟩

def TagC (t : Int) (T : List UInt8) : Prop := ∀ (W : World) (base : Nat), base ≤ W.heap.size → Calls Try.prog 41 #[.slice none 0 0, .int .u64 t] W (AppVar W base (.slice none 0 0) T)
theorem tagC (t : Int) (h0 : 0 ≤ t) (h1 : t ≤ 18446744073709551615) : TagC t (Lib.uvarint t.toNat) := fun W base hb => by
  have := appendVar_any base (.slice none 0 0) [] t W h0 h1 (Own.nil _ _) (by simp) hb
  simpa using this

set_option maxRecDepth 100000 in
set_option maxHeartbeats 1000000 in
theorem make_0 {w : World} {lo hi m c n : Nat} {num : Int} {A : Option Addr} {b : List UInt8} (hB : Bs w lo hi A m c b) (h1 : 1 ≤ num) (h2 : num ≤ 536870911) (hn : (n : Int) ≤ 18446744073709551615) :
    Calls Try.prog 24 #[.int .i64 num, .int .i64 0, .int .u64 n, .slice A m c] w (MakeP w (mkR num 0 n b)) := by
  have hl := hB.len
  have hm := fun W => mayBe_any num 0 n m W
  have hE : mayE num 0 n m = 0 := by simp [mayE]; omega
  have hR : mkR num 0 n b = (0, ⟨num, 0, n, [], Lib.uvarint (8 * num).toNat ++ Lib.uvarint n⟩) := by
    unfold mkR; rw [hl, hE]; simp [mkRaw]
  rw [hE] at hm
  rw [hR]
  have ho := tag_or num 0 h1 h2 (by omega)
  have ho' : bits .or .u64 (num * 8) 0 = 8 * num := by simpa using ho
  have HM := Lib.hid hm
  have htl := Lib.uvarint_length64 (x := (8 * num).toNat) (by omega)
  have hT := tagC (8 * num) (by omega) (by omega)
  generalize Lib.uvarint (8 * num).toNat = T at *
  have HT := Lib.hid hT
  clear hm hE hR ho hT hl hB
  go_enter Try.func24, Try.ntmps24
  go_wp2_with fail
  refine (HM.out _).mono ?_
  rintro e w1 ⟨rfl, rfl⟩
  go_wp2_with fail
  refine (HT.out _ (w.heap.size + 1) (by simp)).mono ?_
  rintro e w1 ⟨v1, rfl, hown1, hgrow1⟩
  obtain ⟨A1, k1, c1, rfl⟩ := hown1.val
  go_wp2_with fail
  refine (appendVar_nat (w.heap.size + 1) _ T n _ hn (hown1.alloc _) (by omega) (by have := (mk_first hgrow1).1; simp; omega)).mono ?_
  rintro e w2 ⟨v2, rfl, hown2, hgrow2⟩
  obtain ⟨A2, k2, c2, rfl⟩ := hown2.val
  obtain ⟨hq, hh⟩ := mk_blks hown1 (mk_first hgrow1).1 (mk_first hgrow1).2.1 hgrow2
  obtain ⟨⟨a0, a1, a2, a3, a4⟩, ⟨b0, b1, b2, b3, b4⟩⟩ := hq.five
  obtain ⟨⟨d0, d1, d2, d3, d4⟩, ⟨f0, f1, f2, f3, f4⟩⟩ := hh.five
  have hlt := (mk_first hgrow1).1
  have HF := Lib.hid (mk_fin_n (n := n) hown1 hgrow1 hgrow2 hown2)
  clear hq hh hown1 hown2 hgrow1 hgrow2
  go_wp2
  exact bodyPost_ret (results_rec Try.results24 _ _ w.heap.size _ _ _ _ _ rfl HF.out.end_.1) rfl HF.out.end_.2
end Go.Proofs.Ytlckppmggklinaa
