/-
  CopyBytes, EqBytes; Rune, and the document's Rune.
-/
import Derived.Test.YtoineheocipmaaaDoorKeys
namespace Go.Proofs.YtoineheocipmaaaDoor
open Go.RowKit
open Go.Lib (byteCells byteCells_length byteCells_append)
set_option linter.unusedVariables false

/-- Is a number a rune? -/
def rnB (n : Int) : Bool := decide ((0 ≤ n ∧ n < 55296) ∨ (57343 < n ∧ n ≤ 1114111))
theorem isRune_any (n : Int) (w : World) : Calls Tryd.prog 66 #[.int .i64 n] w fun e w' => e = .returned (.bool (rnB n)) ∧ w = w' := by
  rcases (show n < 0 ∨ (0 ≤ n ∧ n < 55296) ∨ (55296 ≤ n ∧ n ≤ 57343) ∨ (57343 < n ∧ n ≤ 1114111) ∨ 1114111 < n by omega) with h | ⟨h, h'⟩ | ⟨h, h'⟩ | ⟨h, h'⟩ | h
  all_goals
    go_enter Tryd.func66, Tryd.ntmps66
    go_wp2
    go_ret
    exact ⟨ret_bool (by unfold rnB; first | (simp; omega) | (rw [Bool.eq_iff_iff]; simp; omega)), rfl⟩
/-- An answer of bytes and an error. -/
def BytesP (w : World) (R : Nat × List UInt8) (e : Ending) (w' : World) : Prop := ∃ v, e = .returned (.tuple #[v, .int .i64 R.1]) ∧ Own w' w.heap.size v R.2 ∧ Below w.heap.size w w'
def ruR (l : List UInt8) (n : Int) : Nat × List UInt8 := if rnB n then (0, l ++ Lib.encodeRune n) else (20, [])

/-- utf8.AppendRune onto bytes of the call's own. -/
theorem appendRune_any {w : World} {base : Nat} {v : Value} {l : List UInt8} {r : Int} (h0 : -2147483648 ≤ r) (h1 : r ≤ 2147483647) (ho : Own w base v l) (hl : l.length + 4 ≤ 140737488355328) (hb : base ≤ w.heap.size) :
    Calls Tryd.prog 67 #[v, .int .i32 r] w fun e w' => ∃ v', e = .returned v' ∧ Own w' base v' (l ++ Lib.encodeRune r) ∧ Below base w w' := by
  refine (Tryd.utf8_AppendRune_plain base v l.length (byteCells l) r h0 h1 w ho hl hb).mono fun e w' hp => ?_
  obtain ⟨v', rfl, h2, o, hg⟩ := hp
  refine ⟨v', rfl, ?_, ?_⟩
  · unfold Own
    rw [List.length_append, byteCells_append, Lib.byteCells_encodeRune, ← Lib.runeCells_length]
    exact h2
  · exact Below.grown ((Below.refl _ _).alloc hb _) hg (by simp; omega) (fun g e => (ho.lt e).1)

/-- Numbers that are bytes, written out. -/
theorem Bs.ints (w : World) (zs : List Int) (h : ∀ z ∈ zs, 0 ≤ z ∧ z < 256) (hl : zs.length ≤ 1000) :
    Bs (w.alloc (.cells (zs.map (Value.int .u8)).toArray 5)) w.heap.size (w.heap.size + 1) (some ⟨w.heap.size, 0, none⟩) zs.length zs.length (zs.map fun z => UInt8.ofNat z.toNat) := by
  have := Bs.lit w (zs.map fun z => UInt8.ofNat z.toNat) (by simpa using hl)
  have e : byteCells (zs.map fun z => UInt8.ofNat z.toNat) = zs.map (Value.int .u8) := by
    simp only [byteCells, List.map_map]
    apply List.map_congr_left
    intro z hz
    have := h z hz
    simp only [Function.comp]
    rw [ofNat_toNat8 this.1 this.2]
  rw [e] at this
  simpa using this

/-- Bytes by their numbers. -/
theorem enc_bytes (r : Int) : Lib.encodeRune r = (Lib.encodeRuneZ r).map fun x => UInt8.ofNat x.toNat := rfl

end Go.Proofs.YtoineheocipmaaaDoor
