/-
  Words for the walk of WireMakes.
-/
import Derived.Test.YtlckppmggklinaaRMake3
namespace Go.Proofs.Ytlckppmggklinaa
open Go.RowKit
set_option linter.unusedVariables false
attribute [local go_sem ↓] Go.wp_at_zero Go.wp_at_succ

theorem mkR_len {num wire : Int} {n : Nat} {b : List UInt8} (hb : b.length ≤ 400) (hn : (n : Int) ≤ 18446744073709551615) : (mkR num wire n b).2.b.length ≤ 400 ∧ (mkR num wire n b).2.raw.length ≤ 430 := by
  unfold mkR
  by_cases h : mayE num wire n b.length ≠ 0
  · rw [if_pos h]; simp [Rc.zero]
  rw [if_neg h]
  obtain ⟨h1, h2, h3⟩ := mayE_cases (by simpa using h)
  have ht := Lib.uvarint_length64 (x := (8 * num + wire).toNat) (by omega)
  have hv := Lib.uvarint_length64 (x := n) (by omega)
  have hv2 := Lib.uvarint_length64 (x := b.length) (by omega)
  refine ⟨?_, ?_⟩
  · by_cases q : wire = 2
    · simp only [if_pos q]; omega
    · simp only [if_neg q]; simp
  simp only [mkRaw, List.length_append]
  split
  · omega
  split
  · rw [fixB_length]; omega
  split
  · rw [fixB_length]; omega
  · rw [List.length_append]; omega

/-- What stands after the calls: the two records. -/
structure MkW (lo hi : Nat) (W : World) (qx qy : Nat) (s : Rc) (B B' C C' : Option Addr) (m d m' d' k f k' f' : Nat) : Prop where
  bx : Blk W qx 34 #[.int .i64 s.num, .int .i64 s.wire, .int .u64 s.n, .slice B m d, .slice B' m' d']
  by_ : Blk W qy 34 #[.int .i64 s.num, .int .i64 s.wire, .int .u64 s.n, .slice C k f, .slice C' k' f']
  lx : lo ≤ qx ∧ qx < hi
  ly : lo ≤ qy ∧ qy < hi
  b1 : Bs W lo hi B m d s.b
  b2 : Bs W lo hi B' m' d' s.raw
  b3 : Bs W lo hi C k f s.b
  b4 : Bs W lo hi C' k' f' s.raw
section
variable {lo hi : Nat} {W W' : World} {qx qy : Nat} {s : Rc} {B B' C C' : Option Addr} {m d m' d' k f k' f' : Nat}
theorem MkW.kept (h : MkW lo hi W qx qy s B B' C C' m d m' d' k f k' f') (q : Kept lo hi W W') : MkW lo hi W' qx qy s B B' C C' m d m' d' k f k' f' :=
  ⟨h.bx.stays (q _ h.lx.1 h.lx.2), h.by_.stays (q _ h.ly.1 h.ly.2), h.lx, h.ly, h.b1.kept q, h.b2.kept q, h.b3.kept q, h.b4.kept q⟩
theorem MkW.rsame (h : MkW lo hi W qx qy s B B' C C' m d m' d' k f k' f') (hh : hi ≤ W.heap.size) :
    Calls Try.prog 26 #[.agg #[.int .i64 s.num, .int .i64 s.wire, .int .u64 s.n, .slice B m d, .slice B' m' d'], .agg #[.int .i64 s.num, .int .i64 s.wire, .int .u64 s.n, .slice C k f, .slice C' k' f']] W fun e w' => e = .returned (.bool true) ∧ Below W.heap.size W w' := by
  have := rsame_any h.b1 h.b2 h.b3 h.b4 hh hh
  rwa [rcEq_refl s] at this
end

theorem InB.set {W : World} {lo hi k : Nat} {A : Option Addr} (h : InB W lo hi A k) (g i : Nat) (y : Int) : InB (W.setCell ⟨g, i, none⟩ (.int .u8 y)) lo hi A k := by
  rcases h with h | ⟨g', cur, e, h1, h2, h3, h4⟩
  · exact .inl h
  · by_cases hg : g' = g
    · subst hg
      refine .inr ⟨g', _, e, h1, h2, h3.set_ i _, fun j hj => ?_⟩
      obtain ⟨x, hx⟩ := h4 j hj
      by_cases e : i = j
      · subst e
        have : i < cur.size := by
          rcases Nat.lt_or_ge i cur.size with h | h
          · exact h
          · rw [Array.getElem?_eq_none h] at hx; cases hx
        exact ⟨y, by simp [this]⟩
      · exact ⟨x, by rw [Array.getElem?_setIfInBounds_ne e]; exact hx⟩
    · exact .inr ⟨g', cur, e, h1, h2, h3.far (by simpa using hg) _, h4⟩
end Go.Proofs.Ytlckppmggklinaa
