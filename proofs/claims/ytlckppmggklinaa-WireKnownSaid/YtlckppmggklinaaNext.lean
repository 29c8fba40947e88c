/-
  Next.
-/
import Derived.Test.YtlckppmggklinaaMake3
namespace Go.Proofs.Ytlckppmggklinaa
open Go.RowKit
set_option linter.unusedVariables false
attribute [local go_sem ↓] Go.wp_at_zero Go.wp_at_succ

theorem nxR_err (l : List UInt8) (h : (nxR l).1 ≠ 0) : nxR l = ((nxR l).1, .zero, 0) := by
  unfold nxR at h ⊢
  by_cases a1 : (rv l 0 0).1 ≠ 0
  · rw [if_pos a1]
  rw [if_neg a1] at h ⊢
  by_cases a2 : (rv l 0 0).2.1 / 8 = 0 ∨ 536870911 < (rv l 0 0).2.1 / 8
  · rw [if_pos a2]
  rw [if_neg a2] at h ⊢
  by_cases a3 : (bdR ((rv l 0 0).2.1 % 8) (l.drop (rv l 0 0).2.2)).1 ≠ 0
  · rw [if_pos a3]
  rw [if_neg a3] at h; simp at h

def NextP (w : World) (R : Nat × Rc × Nat) (e : Ending) (w' : World) : Prop :=
  ∃ v, e = .returned (.tuple #[v, .int .i64 R.2.2, .int .i64 R.1]) ∧ OwnRec w' w.heap.size v R.2.1 ∧ Below w.heap.size w w'

theorem results_rec3 {fn : Func} {p u x : Tmp} (h : fn.results = #[.cell p 34, .tmp u, .tmp x]) (tmps : Array Value) (w : World) (g : Nat) (a b c d e : Value)
    (hp : tmps.getD p undef = .pointer (some ⟨g, 0, none⟩)) (hg : Blk w g 34 #[a, b, c, d, e]) :
    (results fn tmps).run Try.prog w = .ok (.tuple #[.agg #[a, b, c, d, e], tmps.getD u undef, tmps.getD x undef]) w := by
  have hp' : tmps[p]?.getD undef = .pointer (some ⟨g, 0, none⟩) := by simpa using hp
  simp only [results, h]
  simp [Result.andThen, hp', asAddr, run_loadVar_row (P := Try.prog) w g 34 34 #[a, b, c, d, e] (0, 0) _ hg Try.underlying34 rfl Try.size34]

/-- The world ahead of Next's answer. -/
structure NxS (w W : World) (q : Nat) (a b c d e : Value) (p : Nat) (A : Option Addr) (n k : Nat) : Prop where
  res : Blk W w.heap.size 34 #[.int .i64 0, .int .i64 0, .int .u64 0, .slice none 0 0, .slice none 0 0]
  rd : Rd W (w.heap.size + 1) A n k p
  seen : Blk W q 34 #[a, b, c, d, e]
  bel : Below w.heap.size w W
theorem NxS.below {w W W' : World} {q : Nat} {a b c d e : Value} {p n k : Nat} {A : Option Addr} (h : NxS w W q a b c d e p A n k) (hb : Below W.heap.size W W') : NxS w W' q a b c d e p A n k :=
  ⟨h.res.below hb h.res.lt, h.rd.below hb h.rd.lt, h.seen.below hb h.seen.lt, h.bel.trans (hb.mono h.bel.size)⟩
theorem NxS.drew {w W : World} {q : Nat} {a b c d e : Value} {p n k : Nat} {A : Option Addr} (h : NxS w W q a b c d e p A n k) : NxS w W.drew q a b c d e p A n k := ⟨h.res, h.rd, h.seen, h.bel.drew⟩

theorem NxS.at1 {w W : World} {q : Nat} {a b c d e : Value} {p n k : Nat} {A : Option Addr} (h : NxS w W q a b c d e p A n k) : W.cell? ⟨w.heap.size + 1, 1, none⟩ = some (.int .i64 (p : Int)) := h.rd.cell 1

theorem next_end {w W W' : World} {q : Nat} {a b c d e x y : Value} {p n k : Nat} {A : Option Addr} {s : Rc} (h : NxS w W q a b c d e p A n k) (hb : Below W.heap.size W W')
    (ox : Own W' W.heap.size x s.b) (oy : Own W' W.heap.size y s.raw) :
    Blk (set5 W' w.heap.size (.int .i64 s.num) (.int .i64 s.wire) (.int .u64 s.n) x y) w.heap.size 34 #[.int .i64 s.num, .int .i64 s.wire, .int .u64 s.n, x, y] ∧
    NextP w (0, s, p) (.returned (.tuple #[.agg #[.int .i64 s.num, .int .i64 s.wire, .int .u64 s.n, x, y], .int .i64 p, .int .i64 0])) (set5 W' w.heap.size (.int .i64 s.num) (.int .i64 s.wire) (.int .u64 s.n) x y) := by
  have hlt := h.res.lt
  refine ⟨(h.below hb).res.set5 _ _ _ _ _, _, rfl, ⟨x, y, rfl, ?_, ?_⟩, ?_⟩
  · refine (ox.kept fun g hg => ?_).base_ (by omega)
    have := (ox.lt hg).1
    exact (Kept.set5 (Kept.refl g (g + 1) W') (.inl (by omega)) _ _ _ _ _) g (by omega) (by omega)
  · refine (oy.kept fun g hg => ?_).base_ (by omega)
    have := (oy.lt hg).1
    exact (Kept.set5 (Kept.refl g (g + 1) W') (.inl (by omega)) _ _ _ _ _) g (by omega) (by omega)
  · unfold set5
    exact (((((h.below hb).bel.setCell (by simp) _).setCell (by simp) _).setCell (by simp) _).setCell (by simp) _).setCell (by simp) _

set_option maxRecDepth 100000 in
set_option maxHeartbeats 1000000 in
theorem next_any {w : World} {lo hi n c : Nat} {A : Option Addr} {l : List UInt8} (hB : Bs w lo hi A n c l) (hhi : hi ≤ w.heap.size) (hn : n ≤ 2147483648) :
    Calls Try.prog 31 #[.slice A n c] w (NextP w (nxR l)) := by
  have hW := (hB.alloc hhi (.cells #[.int .i64 0, .int .i64 0, .int .u64 0, .slice none 0 0, .slice none 0 0] 34)).alloc (by simp <;> omega) (.cells #[.slice A n c, .int .i64 0] 70)
  have hR : Rd ((w.alloc (.cells #[.int .i64 0, .int .i64 0, .int .u64 0, .slice none 0 0, .slice none 0 0] 34)).alloc (.cells #[.slice A n c, .int .i64 0] 70)) (w.heap.size + 1) A n c 0 := by
    have := Blk.new (w.alloc (.cells #[.int .i64 0, .int .i64 0, .int .u64 0, .slice none 0 0, .slice none 0 0] 34)) 70 #[.slice A n c, .int .i64 0]
    simpa [Rd] using this
  have hv := record_any hR hW (by omega) (by omega) hn
  rw [List.drop_zero] at hv
  have hbd := nxR_b l
  have herr := nxR_err l
  have hll := hB.len
  generalize nxR l = R at *
  have HV := Lib.hid hv
  clear hv hR hW
  obtain ⟨e, s, k⟩ := R
  have hres : Blk ((w.alloc (.cells #[.int .i64 0, .int .i64 0, .int .u64 0, .slice none 0 0, .slice none 0 0] 34)).alloc (.cells #[.slice A n c, .int .i64 0] 70)) w.heap.size 34 #[.int .i64 0, .int .i64 0, .int .u64 0, .slice none 0 0, .slice none 0 0] := (Blk.new _ _ _).alloc _
  have HRS := Lib.hid hres
  clear hres
  simp only at hbd herr
  by_cases he : e = 0
  · subst he
    clear herr
    go_enter Try.func31, Try.ntmps31
    go_wp2_with fail
    refine HV.out.mono ?_
    rintro e w1 ⟨v, p1, rfl, ⟨B, m, d, B', m', d', rfl, hsb, hsw⟩, hR1, hG1, hp1, hp2⟩
    have hp3 := hp1 rfl
    simp only [Nat.zero_add] at hp3 hsb hsw
    subst hp3
    have hz1 : w.heap.size + 2 ≤ w1.heap.size := by have := hG1.size; simpa using this
    have hbel : Below w.heap.size w w1 := (((Below.refl _ _).alloc (Nat.le_refl _) _).alloc (by simp) _).trans (Below.of_only hG1 (by simp <;> omega) (by simp <;> omega))
    have hs : NxS w (w1.alloc (.cells #[.int .i64 s.num, .int .i64 s.wire, .int .u64 s.n, .slice B m d, .slice B' m' d'] 34)) w1.heap.size (.int .i64 s.num) (.int .i64 s.wire) (.int .u64 s.n) (.slice B m d) (.slice B' m' d') p1 A n c :=
      ⟨(HRS.out.grown hG1 (by intro h; injection h with h; omega)).alloc _, hR1.alloc _, Blk.new _ _ _, hbel.alloc (by omega) _⟩
    have hcp := copy_any (r := s) (hsb.alloc (by omega) (.cells #[.int .i64 s.num, .int .i64 s.wire, .int .u64 s.n, .slice B m d, .slice B' m' d'] 34)).drew (hsw.alloc (by omega) _).drew (by simp <;> omega) (by omega) (by omega)
    have HC := Lib.hid hcp
    clear hp1 hR1 hcp hsb hsw hbel
    go_wp2_with fail
    replace hs := hs.drew
    obtain ⟨⟨c0, c1, c2, c3, c4⟩, _⟩ := hs.seen.five
    have r1 := hs.at1
    go_region_with (first | (go_at_call 27; refine HC.out.mono ?_; rintro e w2 ⟨v2, rfl, ⟨vb, vr, rfl, ob, orr⟩, hb2⟩; obtain ⟨Ab, kb, cb, rfl⟩ := ob.val; obtain ⟨Ar, kr, cr, rfl⟩ := orr.val; have r2 := (hs.below hb2).at1; obtain ⟨⟨_, _, _, _, _⟩, ⟨_, _, _, _, _⟩⟩ := (hs.below hb2).res.five))
    all_goals
      have HF := Lib.hid (next_end hs hb2 ob orr)
      clear hs hb2 ob orr
      go_wp2
      exact bodyPost_ret (results_rec3 Try.results31 _ _ w.heap.size _ _ _ _ _ rfl HF.out.1) rfl HF.out.2
  · have hne : ((e : Int) != 0) = true := by simp; omega
    have hE := herr he
    simp only [Prod.mk.injEq, true_and] at hE
    obtain ⟨rfl, rfl⟩ := hE
    clear he herr hbd
    go_enter Try.func31, Try.ntmps31
    go_wp2_with fail
    refine HV.out.mono ?_
    rintro e w1 ⟨v, p1, rfl, ⟨B, m, d, B', m', d', rfl, hsb, hsw⟩, hR1, hG1, hp1, hp2⟩
    clear hp1 hp2 hR1 hsb hsw
    have hz1 : w.heap.size + 2 ≤ w1.heap.size := by have := hG1.size; simpa using this
    have hbel : Below w.heap.size w w1 := (((Below.refl _ _).alloc (Nat.le_refl _) _).alloc (by simp) _).trans (Below.of_only hG1 (by simp <;> omega) (by simp <;> omega))
    have hres := (HRS.out.grown hG1 (by intro h; injection h with h; omega)).alloc (.cells #[.int .i64 Rc.zero.num, .int .i64 Rc.zero.wire, .int .u64 Rc.zero.n, .slice B m d, .slice B' m' d'] 34)
    obtain ⟨⟨c0, c1, c2, c3, c4⟩, ⟨f0, f1, f2, f3, f4⟩⟩ := hres.five
    have HB := Lib.hid (hres.set5 (.int .i64 0) (.int .i64 0) (.int .u64 0) (.slice none 0 0) (.slice none 0 0))
    have HBL := Lib.hid (hbel.alloc (by omega) (.cells #[.int .i64 Rc.zero.num, .int .i64 Rc.zero.wire, .int .u64 Rc.zero.n, .slice B m d, .slice B' m' d'] 34))
    clear hres hbel
    go_wp2
    refine bodyPost_ret (results_rec3 Try.results31 _ _ w.heap.size _ _ _ _ _ rfl HB.out) rfl ⟨_, rfl, ⟨_, _, rfl, Own.nil _ _, Own.nil _ _⟩, ?_⟩
    exact ((((HBL.out.setCell (by simp) _).setCell (by simp) _).setCell (by simp) _).setCell (by simp) _).setCell (by simp) _
end Go.Proofs.Ytlckppmggklinaa
