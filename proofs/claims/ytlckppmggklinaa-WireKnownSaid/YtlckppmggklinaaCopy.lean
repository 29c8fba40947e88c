/-
  Copy.
-/
import Derived.Test.YtlckppmggklinaaCheck
import Derived.Deep.RegionWith
import Derived.Deep.DrawnRows
namespace Go.Proofs.Ytlckppmggklinaa
open Go.RowKit
set_option linter.unusedVariables false
attribute [local go_sem ↓] Go.wp_at_zero Go.wp_at_succ

/-- A record whose bytes are the call's own. -/
def OwnRec (w : World) (base : Nat) (v : Value) (r : Rc) : Prop :=
  ∃ vb vr, v = .agg #[.int .i64 r.num, .int .i64 r.wire, .int .u64 r.n, vb, vr] ∧ Own w base vb r.b ∧ Own w base vr r.raw

def FreshRec (w : World) (r : Rc) (e : Ending) (w' : World) : Prop := ∃ v, e = .returned v ∧ OwnRec w' w.heap.size v r ∧ Below w.heap.size w w'

theorem copy_side (w W : World) (o1 o2 : Obj) (h : Below (w.heap.size + 1 + 1) ((w.alloc o1).alloc o2) W) : Below w.heap.size w W :=
  (((Below.refl _ _).alloc (Nat.le_refl _) _).alloc (by simp) _).trans (h.mono (by omega))

theorem copy_side2 (w W : World) (o1 o2 : Obj) (h : Below ((w.alloc o1).alloc o2).drew.heap.size ((w.alloc o1).alloc o2).drew W) : Below w.heap.size w W :=
  copy_side w W o1 o2 ((Below.refl _ _).drew.trans (h.mono (by simp)))

theorem copy_keep {w W : World} {a b c d e : Value} {o2 : Obj} (h : Below ((w.alloc (.cells #[a, b, c, d, e] 34)).alloc o2).drew.heap.size ((w.alloc (.cells #[a, b, c, d, e] 34)).alloc o2).drew W) :
    Blk W w.heap.size 34 #[a, b, c, d, e] := Blk.below ((Blk.new w 34 #[a, b, c, d, e]).alloc o2).drew h (by simp <;> omega)
theorem copy_keep2 {w W W' : World} {a b c d e : Value} {o2 : Obj} (h : Below ((w.alloc (.cells #[a, b, c, d, e] 34)).alloc o2).drew.heap.size ((w.alloc (.cells #[a, b, c, d, e] 34)).alloc o2).drew W) (h' : Below W.heap.size W W') :
    Blk W' w.heap.size 34 #[a, b, c, d, e] :=
  copy_keep (h.trans (h'.mono h.size))

structure CopyFin (w W : World) (a b c d e x y : Value) (lx ly : List UInt8) : Prop where
  ox : Own W (w.heap.size + 2) x lx
  oy : Own W (w.heap.size + 2) y ly
  b0 : Blk W w.heap.size 34 #[a, b, c, d, e]
  b1 : Blk W (w.heap.size + 1) 34 #[.int .i64 0, .int .i64 0, .int .u64 0, .slice none 0 0, .slice none 0 0]
  bel : Below w.heap.size w W
  sz : w.heap.size + 2 ≤ W.heap.size

theorem copy_fin {w W1 W2 : World} {a b c d e x y : Value} {lx ly : List UInt8}
    (hx : Below ((w.alloc (.cells #[a, b, c, d, e] 34)).alloc (.cells #[.int .i64 0, .int .i64 0, .int .u64 0, .slice none 0 0, .slice none 0 0] 34)).drew.heap.size ((w.alloc (.cells #[a, b, c, d, e] 34)).alloc (.cells #[.int .i64 0, .int .i64 0, .int .u64 0, .slice none 0 0, .slice none 0 0] 34)).drew W1)
    (ox : Own W1 ((w.alloc (.cells #[a, b, c, d, e] 34)).alloc (.cells #[.int .i64 0, .int .i64 0, .int .u64 0, .slice none 0 0, .slice none 0 0] 34)).drew.heap.size x lx) (hy : Below W1.heap.size W1 W2) (oy : Own W2 W1.heap.size y ly) : CopyFin w W2 a b c d e x y lx ly := by
  have hz : ((w.alloc (.cells #[a, b, c, d, e] 34)).alloc (.cells #[.int .i64 0, .int .i64 0, .int .u64 0, .slice none 0 0, .slice none 0 0] 34)).drew.heap.size = w.heap.size + 2 := by simp
  have hs1 := hx.size
  have hs2 := hy.size
  rw [hz] at ox hs1
  have hall := hx.trans (hy.mono hx.size)
  refine ⟨ox.kept fun g hg => hy.block g (ox.lt hg).2, oy.base_ hs1, copy_keep hall, ?_, copy_side2 w _ _ _ hall, by omega⟩
  have h := (Blk.new (w.alloc (.cells #[a, b, c, d, e] 34)) 34 #[.int .i64 0, .int .i64 0, .int .u64 0, .slice none 0 0, .slice none 0 0]).drew
  have e1 : (w.alloc (.cells #[a, b, c, d, e] 34)).heap.size = w.heap.size + 1 := by simp
  rw [e1] at h
  exact h.below hall (by rw [hz]; omega)

theorem CopyFin.swap {w W : World} {a b c d e x y : Value} {lx ly : List UInt8} (h : CopyFin w W a b c d e x y lx ly) : CopyFin w W a b c d e y x ly lx := ⟨h.oy, h.ox, h.b0, h.b1, h.bel, h.sz⟩

theorem CopyFin.end_ {w W : World} {d e x y : Value} {r : Rc} (h : CopyFin w W (.int .i64 r.num) (.int .i64 r.wire) (.int .u64 r.n) d e x y r.b r.raw) :
    Blk (set5 ((W.setCell ⟨w.heap.size, 3, none⟩ x).setCell ⟨w.heap.size, 4, none⟩ y) (w.heap.size + 1) (.int .i64 r.num) (.int .i64 r.wire) (.int .u64 r.n) x y) (w.heap.size + 1) 34 #[.int .i64 r.num, .int .i64 r.wire, .int .u64 r.n, x, y] ∧
    FreshRec w r (.returned (.agg #[.int .i64 r.num, .int .i64 r.wire, .int .u64 r.n, x, y])) (set5 ((W.setCell ⟨w.heap.size, 3, none⟩ x).setCell ⟨w.heap.size, 4, none⟩ y) (w.heap.size + 1) (.int .i64 r.num) (.int .i64 r.wire) (.int .u64 r.n) x y) := by
  refine ⟨Blk.set5 ((h.b1.far (by simp) _).far (by simp) _) _ _ _ _ _, _, rfl, ⟨x, y, rfl, ?_, ?_⟩, ?_⟩
  · refine (h.ox.kept fun g hg => ?_).base_ (by omega)
    have := (h.ox.lt hg).1
    exact (Kept.set5 (((Kept.refl g (g + 1) W).setCell (p := ⟨w.heap.size, 3, none⟩) (.inl (by simp; omega)) x).setCell (p := ⟨w.heap.size, 4, none⟩) (.inl (by simp; omega)) y) (.inl (by omega)) _ _ _ _ _) g (by omega) (by omega)
  · refine (h.oy.kept fun g hg => ?_).base_ (by omega)
    have := (h.oy.lt hg).1
    exact (Kept.set5 (((Kept.refl g (g + 1) W).setCell (p := ⟨w.heap.size, 3, none⟩) (.inl (by simp; omega)) x).setCell (p := ⟨w.heap.size, 4, none⟩) (.inl (by simp; omega)) y) (.inl (by omega)) _ _ _ _ _) g (by omega) (by omega)
  · unfold set5
    exact ((((((h.bel.setCell (by simp) _).setCell (by simp) _).setCell (by simp) _).setCell (by simp) _).setCell (by simp) _).setCell (by simp) _).setCell (by simp) _

set_option maxRecDepth 100000 in
set_option maxHeartbeats 1000000 in
theorem copy_any {w : World} {lo hi n c n' c' : Nat} {A A' : Option Addr} {r : Rc} (hb : Bs w lo hi A n c r.b) (hw : Bs w lo hi A' n' c' r.raw) (h1 : hi ≤ w.heap.size) (hn : r.b.length ≤ 2147483648) (hn' : r.raw.length ≤ 2147483648) :
    Calls Try.prog 27 #[.agg #[.int .i64 r.num, .int .i64 r.wire, .int .u64 r.n, .slice A n c, .slice A' n' c']] w (FreshRec w r) := by
  have HB := Lib.hid (fun (W : World) (h : Below w.heap.size w W) => own_any (hb.below h h1) hn)
  have HW := Lib.hid (fun (W : World) (h : Below w.heap.size w W) => own_any (hw.below h h1) hn')
  clear hb hw
  go_enter Try.func27, Try.ntmps27
  go_wp2_with fail
  go_region_with (first | (go_at_call_of 46 (Value.slice A n c); (refine (HB.out _ ?_).mono ?_); (exact copy_side2 w _ _ _ hb2); (rintro e w1 ⟨v1, rfl, ho1, hb1⟩); (obtain ⟨B1, k1, rfl, hs1⟩ := ho1.bs; clear hs1); (clear c3 c4 f3 f4; obtain ⟨⟨d0, d1, d2, d3, d4⟩, ⟨g0, g1, g2, g3, g4⟩⟩ := (copy_keep2 hb2 hb1).five)) | (go_at_call_of 46 (Value.slice A' n' c'); (refine (HW.out _ ?_).mono ?_); (exact copy_side2 w _ _ _ hb1); (rintro e w2 ⟨v2, rfl, ho2, hb2⟩); (obtain ⟨B2, k2, rfl, hs2⟩ := ho2.bs; clear hs2); (clear c3 c4 f3 f4; obtain ⟨⟨d0, d1, d2, d3, d4⟩, ⟨g0, g1, g2, g3, g4⟩⟩ := (copy_keep2 hb1 hb2).five)) | (go_at_call_of 46 (Value.slice A n c); (refine (HB.out _ ?_).mono ?_); (exact copy_side w _ _ _ (Below.refl _ _).drew); (rintro e w1 ⟨v1, rfl, ho1, hb1⟩); (obtain ⟨B1, k1, rfl, hs1⟩ := ho1.bs; clear hs1); (obtain ⟨⟨_, _, _, c3, c4⟩, ⟨_, _, _, f3, f4⟩⟩ := (copy_keep hb1).five)) | (go_at_call_of 46 (Value.slice A' n' c'); (refine (HW.out _ ?_).mono ?_); (exact copy_side w _ _ _ (Below.refl _ _).drew); (rintro e w2 ⟨v2, rfl, ho2, hb2⟩); (obtain ⟨B2, k2, rfl, hs2⟩ := ho2.bs; clear hs2); (obtain ⟨⟨_, _, _, c3, c4⟩, ⟨_, _, _, f3, f4⟩⟩ := (copy_keep hb2).five)))
  all_goals
    first
      | have hf := copy_fin hb1 ho1 hb2 ho2
      | have hf := (copy_fin hb2 ho2 hb1 ho1).swap
    clear hb1 hb2 ho1 ho2
    obtain ⟨⟨p0, p1, p2, p3, p4⟩, ⟨q0, q1, q2, q3, q4⟩⟩ := hf.b1.five
    have HF := Lib.hid hf
    clear hf
    go_wp2
    exact bodyPost_ret (results_cell_row (P := Try.prog) Try.results27 _ _ (w.heap.size + 1) 34 _ (0, 0) _ rfl HF.out.end_.1 Try.underlying34 rfl Try.size34) rfl HF.out.end_.2
end Go.Proofs.Ytlckppmggklinaa
