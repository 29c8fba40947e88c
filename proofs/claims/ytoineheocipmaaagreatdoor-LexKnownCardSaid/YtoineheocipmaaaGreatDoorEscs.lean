/-
  escapes: the map of what may stand behind a backslash.
-/
import Derived.Test.YtoineheocipmaaaGreatDoorMaps
import Derived.Deep.DeepCutAuto
namespace Go.Proofs.YtoineheocipmaaaGreatDoor
open Go.RowKit Go.Maps
set_option linter.unusedVariables false
set_option linter.unusedSimpArgs false

/-- What the map has. -/
def escs : List (Int × Value) := [(97, .agg #[.int .u8 7, .int .i64 0, .int .i64 0, .int .i64 0, .int .i64 0, .bool false]), (98, .agg #[.int .u8 8, .int .i64 0, .int .i64 0, .int .i64 0, .int .i64 0, .bool false]), (102, .agg #[.int .u8 12, .int .i64 0, .int .i64 0, .int .i64 0, .int .i64 0, .bool false]), (110, .agg #[.int .u8 10, .int .i64 0, .int .i64 0, .int .i64 0, .int .i64 0, .bool false]), (114, .agg #[.int .u8 13, .int .i64 0, .int .i64 0, .int .i64 0, .int .i64 0, .bool false]), (116, .agg #[.int .u8 9, .int .i64 0, .int .i64 0, .int .i64 0, .int .i64 0, .bool false]), (118, .agg #[.int .u8 11, .int .i64 0, .int .i64 0, .int .i64 0, .int .i64 0, .bool false]), (92, .agg #[.int .u8 92, .int .i64 0, .int .i64 0, .int .i64 0, .int .i64 0, .bool false]), (39, .agg #[.int .u8 39, .int .i64 0, .int .i64 0, .int .i64 0, .int .i64 0, .bool false]), (34, .agg #[.int .u8 34, .int .i64 0, .int .i64 0, .int .i64 0, .int .i64 0, .bool false]), (63, .agg #[.int .u8 63, .int .i64 0, .int .i64 0, .int .i64 0, .int .i64 0, .bool false]), (48, .agg #[.int .u8 0, .int .i64 8, .int .i64 0, .int .i64 1, .int .i64 3, .bool false]), (49, .agg #[.int .u8 0, .int .i64 8, .int .i64 0, .int .i64 1, .int .i64 3, .bool false]), (50, .agg #[.int .u8 0, .int .i64 8, .int .i64 0, .int .i64 1, .int .i64 3, .bool false]), (51, .agg #[.int .u8 0, .int .i64 8, .int .i64 0, .int .i64 1, .int .i64 3, .bool false]), (52, .agg #[.int .u8 0, .int .i64 8, .int .i64 0, .int .i64 1, .int .i64 3, .bool false]), (53, .agg #[.int .u8 0, .int .i64 8, .int .i64 0, .int .i64 1, .int .i64 3, .bool false]), (54, .agg #[.int .u8 0, .int .i64 8, .int .i64 0, .int .i64 1, .int .i64 3, .bool false]), (55, .agg #[.int .u8 0, .int .i64 8, .int .i64 0, .int .i64 1, .int .i64 3, .bool false]), (120, .agg #[.int .u8 0, .int .i64 16, .int .i64 1, .int .i64 1, .int .i64 2, .bool false]), (88, .agg #[.int .u8 0, .int .i64 16, .int .i64 1, .int .i64 1, .int .i64 2, .bool false]), (117, .agg #[.int .u8 0, .int .i64 16, .int .i64 1, .int .i64 4, .int .i64 4, .bool true]), (85, .agg #[.int .u8 0, .int .i64 16, .int .i64 1, .int .i64 8, .int .i64 8, .bool true])]

theorem Blk.six {w : World} {g : Nat} {t : TypeId} {a b c d e f : Value} (h : Blk w g t #[a, b, c, d, e, f]) :
    w.cell? ⟨g, 0, none⟩ = some a ∧ w.cell? ⟨g, 1, none⟩ = some b ∧ w.cell? ⟨g, 2, none⟩ = some c ∧ w.cell? ⟨g, 3, none⟩ = some d ∧ w.cell? ⟨g, 4, none⟩ = some e ∧ w.cell? ⟨g, 5, none⟩ = some f :=
  ⟨h.cell 0, h.cell 1, h.cell 2, h.cell 3, h.cell 4, h.cell 5⟩

structure EscS (w W : World) (b : Nat) (xs : List (Int × Value)) : Prop where
  map_ : MapAt W b xs
  oct : Blk W w.heap.size 262 #[.int .u8 0, .int .i64 8, .int .i64 0, .int .i64 1, .int .i64 3, .bool false]
  hex : Blk W (w.heap.size + 1) 262 #[.int .u8 0, .int .i64 16, .int .i64 1, .int .i64 1, .int .i64 2, .bool false]
  bel : Below w.heap.size w W
  lt : w.heap.size + 2 ≤ b
theorem EscS.next {w W W' : World} {b : Nat} {xs ys : List (Int × Value)} (h : EscS w W b xs) (hm : MapAt W' b ys) (hg : W.grownBy W' (some b)) : EscS w W' b ys :=
  have hl := h.lt
  ⟨hm, h.oct.grown hg (by simp; omega), h.hex.grown hg (by simp; omega), h.bel.grown hg h.bel.size (fun g e => by injection e with e; omega), h.lt⟩
theorem EscS.start {w W0 : World} (ho : Blk W0 w.heap.size 262 #[.int .u8 0, .int .i64 8, .int .i64 0, .int .i64 1, .int .i64 3, .bool false]) (hx : Blk W0 (w.heap.size + 1) 262 #[.int .u8 0, .int .i64 16, .int .i64 1, .int .i64 1, .int .i64 2, .bool false]) (hb : Below w.heap.size w W0) (hz : W0.heap.size = w.heap.size + 2) : EscS w (W0.alloc (.map #[] 0)) W0.heap.size [] :=
  ⟨⟨#[], 0, heap_alloc_new _ _, rfl⟩, ho.alloc _, hx.alloc _, hb.alloc hb.size _, by omega⟩

set_option maxRecDepth 100000 in
set_option maxHeartbeats 2000000 in
theorem escapes_any (w : World) : Calls Tryz.prog 200 #[] w fun e w' => e = .returned (.map (some (w.heap.size + 1 + 1))) ∧ MapAt w' (w.heap.size + 1 + 1) escs ∧ Below w.heap.size w w' := by
  have ho := (Blk.new w 262 #[.int .u8 0, .int .i64 8, .int .i64 0, .int .i64 1, .int .i64 3, .bool false]).alloc (.cells #[.int .u8 0, .int .i64 16, .int .i64 1, .int .i64 1, .int .i64 2, .bool false] 262)
  have hx : Blk ((w.alloc (.cells #[.int .u8 0, .int .i64 8, .int .i64 0, .int .i64 1, .int .i64 3, .bool false] 262)).alloc (.cells #[.int .u8 0, .int .i64 16, .int .i64 1, .int .i64 1, .int .i64 2, .bool false] 262)) (w.heap.size + 1) 262 #[.int .u8 0, .int .i64 16, .int .i64 1, .int .i64 1, .int .i64 2, .bool false] := by
    have := Blk.new (w.alloc (.cells #[.int .u8 0, .int .i64 8, .int .i64 0, .int .i64 1, .int .i64 3, .bool false] 262)) 262 #[.int .u8 0, .int .i64 16, .int .i64 1, .int .i64 1, .int .i64 2, .bool false]
    simpa using this
  have hb0 : Below w.heap.size w ((w.alloc (.cells #[.int .u8 0, .int .i64 8, .int .i64 0, .int .i64 1, .int .i64 3, .bool false] 262)).alloc (.cells #[.int .u8 0, .int .i64 16, .int .i64 1, .int .i64 1, .int .i64 2, .bool false] 262)) := ((Below.refl _ _).alloc (Nat.le_refl _) _).alloc (by simp) _
  have hz : ((w.alloc (.cells #[.int .u8 0, .int .i64 8, .int .i64 0, .int .i64 1, .int .i64 3, .bool false] 262)).alloc (.cells #[.int .u8 0, .int .i64 16, .int .i64 1, .int .i64 1, .int .i64 2, .bool false] 262)).heap.size = w.heap.size + 2 := by simp
  have hmm := @run_makeMap Tryz.prog
  go_enter Tryz.func200, Tryz.ntmps200
  go_upto_region 3 with fail
  generalize (((w.alloc (.cells #[.int .u8 0, .int .i64 8, .int .i64 0, .int .i64 1, .int .i64 3, .bool false] 262)).alloc (.cells #[.int .u8 0, .int .i64 16, .int .i64 1, .int .i64 1, .int .i64 2, .bool false] 262))) = W0 at *
  have hS := EscS.start ho hx hb0 hz
  obtain ⟨a0, a1, a2, a3, a4, a5⟩ := hS.oct.six
  obtain ⟨b0, b1, b2, b3, b4, b5⟩ := hS.hex.six
  have HS := Lib.hid hS
  have HZ := Lib.hid hz
  clear hS hz ho hx hb0
  go_wp2_with (refine wpList_ins rfl _ _ _ 240 rfl 5 262 Tryz.underlying240 Tryz.underlying5 W0.heap.size _ rfl HS.out.map_ _ _ rfl rfl (by simp [lookL]) ?_; intro W hm hg; simp only [Act.eval, Array.getD_eq_getD_getElem?, List.getElem?_toArray, List.getElem?_cons_succ, List.getElem?_cons_zero, Option.getD_some] at hm; replace HS := Lib.hid (HS.out.next hm hg); clear hm hg a0 a1 a2 a3 a4 a5 b0 b1 b2 b3 b4 b5; obtain ⟨a0, a1, a2, a3, a4, a5⟩ := HS.out.oct.six; obtain ⟨b0, b1, b2, b3, b4, b5⟩ := HS.out.hex.six)
  go_ret
  have h2 : MapAt W W0.heap.size escs := HS.out.map_
  have hz := HZ.out
  rw [hz] at h2
  refine ⟨?_, h2, HS.out.bel⟩
  show Ending.returned (Value.map (some W0.heap.size)) = _
  rw [hz]
end Go.Proofs.YtoineheocipmaaaGreatDoor
