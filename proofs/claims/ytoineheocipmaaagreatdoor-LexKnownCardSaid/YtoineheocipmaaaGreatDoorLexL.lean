/-
  lex: lists of words, in memory.
-/
import Derived.Test.YtoineheocipmaaaGreatDoorLexT
namespace Go.Proofs.YtoineheocipmaaaGreatDoor
open Go.RowKit
set_option linter.unusedVariables false
set_option linter.unusedSimpArgs false

structure Wd where
  k : Nat
  p : Nat
  t : ByteArray
  n : Int
def Wd.cs (x : Wd) : List Value := [.int .i64 x.k, .int .i64 x.p, .string x.t, .int .i64 x.n]
def wcs (l : List Wd) : List Value := l.flatMap Wd.cs
theorem wcs_snoc (l : List Wd) (x : Wd) : wcs (l ++ [x]) = wcs l ++ x.cs := by simp [wcs]
theorem Tryz.info33 : (Tryz.prog.info? 33).map (fun i => (i.zero, i.size, i.bytes)) = some (some (.agg #[.int .i64 0, .int .i64 0, .string ⟨#[]⟩, .int .i64 0]), 4, 40) := by kernel_rfl
/-- v is a list of words of the call's own. -/
def OwnW (w : World) (base : Nat) (v : Value) (l : List Wd) : Prop := w.ownsRow base 33 4 v l.length (wcs l)
theorem OwnW.nil (w : World) (base : Nat) : OwnW w base (.slice none 0 0) [] := ⟨rfl, .inl ⟨rfl, rfl⟩⟩
theorem OwnW.kept {w w' : World} {base : Nat} {v : Value} {l : List Wd} (h : OwnW w base v l) (k : ∀ g, v.ownBlock = some g → w'.heap[g]? = w.heap[g]?) : OwnW w' base v l := by
  refine ⟨h.1, ?_⟩
  rcases h.2 with h | ⟨g, cap, cur, rfl, hb, hh, r⟩
  · exact .inl h
  · exact .inr ⟨g, cap, cur, rfl, hb, by rw [k g rfl]; exact hh, r⟩
theorem OwnW.lt {w : World} {base : Nat} {v : Value} {l : List Wd} (h : OwnW w base v l) {g : Nat} (hg : v.ownBlock = some g) : base ≤ g ∧ g < w.heap.size := by
  rcases h.2 with ⟨rfl, _⟩ | ⟨g', cap, cur, rfl, hb, hh, r⟩
  · cases hg
  · have : g' = g := by simpa [Value.ownBlock] using hg
    subst this
    refine ⟨hb, ?_⟩
    rcases Nat.lt_or_ge g' w.heap.size with hlt | hge
    · exact hlt
    · rw [Array.getElem?_eq_none hge] at hh; cases hh
theorem OwnW.below {w w' : World} {base : Nat} {v : Value} {l : List Wd} (h : OwnW w base v l) (hb : Below w.heap.size w w') : OwnW w' base v l := h.kept fun g hg => hb.block g (h.lt hg).2
theorem OwnW.drew {w : World} {base : Nat} {v : Value} {l : List Wd} (h : OwnW w base v l) : OwnW w.drew base v l := h
theorem OwnW.val {w : World} {base : Nat} {v : Value} {l : List Wd} (h : OwnW w base v l) : ∃ A c, v = .slice A l.length c ∧ l.length ≤ c ∧ c ≤ 9223372036854775807 ∧ (0 < l.length → ∃ g, A = some ⟨g, 0, none⟩ ∧ ∀ j, j < (wcs l).length → w.cell? ⟨g, j, none⟩ = (wcs l)[j]?) := by
  rcases h.2 with ⟨rfl, h0⟩ | ⟨g, cap, cur, rfl, hb, hh, hnc, hm, hsz, ht⟩
  · exact ⟨none, 0, by rw [h0], by omega, by omega, by intro h; omega⟩
  · refine ⟨_, _, rfl, hnc, by unfold maxLen at hm; omega, fun _ => ⟨g, rfl, fun j hj => ?_⟩⟩
    rw [cell_of_row w g j cur 33 (0, 0) hh]
    have h1 : (cur.toList.take (l.length * 4))[j]? = (wcs l)[j]? := by rw [ht]
    have h2 : (wcs l).length = l.length * 4 := by rw [← ht, List.length_take]; have := hsz; simp at *; omega
    rw [List.getElem?_take_of_lt (by omega)] at h1
    rw [← Array.getElem?_toList, h1]

theorem run_append_w {P : Program} {w : World} {base B : Nat} {v : Value} {xs : List Wd} (t ty : TypeId) (i : TypeInfo)
    (ht : P.underlying t = some (.slice 33)) (hi : P.info? 33 = some i) (hz : i.zero = some (.agg #[.int .i64 0, .int .i64 0, .string ⟨#[]⟩, .int .i64 0])) (hsize : i.size = 4) (hby : i.bytes = 40)
    (hown : OwnW w base v xs) (x : Wd) (hB : Blk w B 33 #[.int .i64 x.k, .int .i64 x.p, .string x.t, .int .i64 x.n]) (hlen : xs.length ≤ 1073741824) (hbase : base ≤ w.heap.size) :
    ∃ v' w', (Builtin.append_ #[t, t] ty #[v, .slice (some ⟨B, 0, none⟩) 1 1]).run P w = .ok v' w' ∧ OwnW w' base v' (xs ++ [x]) ∧ Grew w w' v v' := by
  obtain ⟨v', w', hrun, h2, h3, _, h5⟩ := run_append_own_at (P := P) w base t ty 33 i _ 4 40 ht hi hz hsize hby rfl (by omega) v xs.length (wcs xs) hown ⟨B, 0, none⟩ 1 1 x.cs rfl (World.news_of_block hB) (by intro u hu; simp only [Wd.cs, List.mem_cons, List.mem_nil_iff, or_false] at hu; rcases hu with rfl | rfl | rfl | rfl <;> rfl) (by unfold maxLen; omega) (by omega) hbase
  refine ⟨v', w', hrun, ?_, ⟨h3, h5.imp id fun e => ⟨_, e, Nat.le_refl _⟩⟩⟩
  unfold OwnW
  rw [wcs_snoc, List.length_append]
  exact h2
end Go.Proofs.YtoineheocipmaaaGreatDoor
