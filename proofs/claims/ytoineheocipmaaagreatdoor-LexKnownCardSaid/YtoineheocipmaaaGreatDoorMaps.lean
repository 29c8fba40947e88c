/-
  A map with bytes as keys that the call made: what it has, as a list. escapes.
-/
import Derived.Test.YtoineheocipmaaaGreatDoorRune
import Derived.Maps.Own
namespace Go.Proofs.YtoineheocipmaaaGreatDoor
open Go.RowKit Go.Instr
set_option linter.unusedVariables false
set_option linter.unusedSimpArgs false

def pairOf (e : MapEntry) : Value × Value := (e.key, e.val)
def keyed (x : Int × Value) : Value × Value := (.int .u8 x.1, x.2)
/-- Block b is a map with these keys and elements, in this order. -/
def MapAt (w : World) (b : Nat) (xs : List (Int × Value)) : Prop := ∃ es cl, w.heap[b]? = some (.map es cl) ∧ es.toList.map pairOf = xs.map keyed
def lookL : List (Int × Value) → Int → Option Value
  | [], _ => none
  | x :: xs, z => if z = x.1 then some x.2 else lookL xs z

theorem findNow_look (z : Int) : ∀ (l : List MapEntry) (xs : List (Int × Value)) (i : Nat), l.map pairOf = xs.map keyed →
    (lookL xs z = none → findNow (.int .u8) (.int .u8 z) l i = some none) ∧ (∀ v, lookL xs z = some v → ∃ j, findNow (.int .u8) (.int .u8 z) l i = some (some (j, v)))
  | [], [], i, _ => ⟨fun _ => rfl, fun v h => by cases h⟩
  | e :: l, x :: xs, i, h => by
    simp only [List.map_cons, List.cons.injEq] at h
    obtain ⟨h1, h2⟩ := h
    have hk : e.key = .int .u8 x.1 := congrArg Prod.fst h1
    have hv : e.val = x.2 := congrArg Prod.snd h1
    have ih := findNow_look z l xs (i + 1) h2
    by_cases q : z = x.1
    · refine ⟨fun hn => ?_, fun v hs => ⟨i, ?_⟩⟩
      · rw [lookL, if_pos q] at hn; cases hn
      · rw [lookL, if_pos q] at hs
        injection hs with hs
        simp [findNow, sameNow, hk, q, hv, hs]
    · have hne : (z == x.1) = false := by simp [q]
      refine ⟨fun hn => ?_, fun v hs => ?_⟩
      · rw [lookL, if_neg q] at hn
        simp only [findNow, sameNow, hk, if_true, hne]
        exact ih.1 hn
      · rw [lookL, if_neg q] at hs
        obtain ⟨j, hj⟩ := ih.2 v hs
        exact ⟨j, by simp only [findNow, sameNow, hk, if_true, hne]; exact hj⟩

section
variable {P : Program} {w : World} {b : Nat} {xs : List (Int × Value)} {t kt et : TypeId}
/-- The world with another map in block b. -/
def mapPut (w : World) (b : Nat) (o : Obj) : World := { w with heap := w.heap.setIfInBounds b o }
theorem mapPut_size (w : World) (b : Nat) (o : Obj) : (mapPut w b o).heap.size = w.heap.size := by simp [mapPut]
theorem mapPut_other {w : World} {b i : Nat} {o : Obj} (h : i ≠ b) : (mapPut w b o).heap[i]? = w.heap[i]? := by simp [mapPut, Array.getElem?_setIfInBounds, Ne.symm h]
theorem mapPut_self {w : World} {b : Nat} {o : Obj} (h : b < w.heap.size) : (mapPut w b o).heap[b]? = some o := by simp [mapPut, Array.getElem?_setIfInBounds, h]

theorem run_check (hk : P.underlying kt = some (.int .u8)) (e : Bool) (N : Nat) (hN : 0 < N) (z : Int) (w : World) : (checkKey e N kt (.int .u8 z)).run P w = .ok () w := by
  cases N with
  | zero => omega
  | succ n => unfold checkKey; simp [run_underlying hk, Result.andThen]

theorem run_ins (hm : MapAt w b xs) (ht : P.underlying t = some (.map kt et)) (hk : P.underlying kt = some (.int .u8)) (z : Int) (v : Value) (hnew : lookL xs z = none) :
    ∃ w', (Instr.mapUpdate t (.map (some b)) (.int .u8 z) v).run P w = .ok () w' ∧ MapAt w' b (xs ++ [(z, v)]) ∧ w.grownBy w' (some b) := by
  obtain ⟨es, cl, hb, he⟩ := hm
  have hlt : b < w.heap.size := (Array.getElem?_eq_some_iff.1 hb).1
  have hf := (findNow_look z es.toList xs 0 he).1 hnew
  refine ⟨mapPut w b (.map (es.push ⟨.int .u8 z, v, cl⟩) (cl + 1)), ?_, ⟨_, _, mapPut_self hlt, ?_⟩, ⟨rfl, rfl, rfl, by rw [mapPut_size]; exact Nat.le_refl _, fun i _ hi => mapPut_other (fun e => hi (by rw [e]))⟩⟩
  · simp [Instr.mapUpdate, run_underlying ht, getObj, setObj, Sem.run, hb, run_check hk, run_underlying hk, findKey, hf, Result.andThen, mapPut]
  · rw [Array.toList_push, List.map_append, he, List.map_append]; rfl
theorem run_look (hm : MapAt w b xs) (ht : P.underlying t = some (.map kt et)) (hk : P.underlying kt = some (.int .u8)) (z : Int) (zero : Value) (hz : (zeroValue et).run P w = .ok zero w) :
    (Instr.lookup t (.map (some b)) (.int .u8 z) true).run P w = .ok (.tuple #[(lookL xs z).getD zero, .bool (lookL xs z).isSome]) w := by
  obtain ⟨es, cl, hb, he⟩ := hm
  have hf := findNow_look z es.toList xs 0 he
  cases hl : lookL xs z with
  | none =>
    have h1 := hf.1 hl
    simp [Instr.lookup, run_underlying ht, getObj, Sem.run, hb, run_check hk, run_underlying hk, findKey, h1, hz, Result.andThen]
  | some v =>
    obtain ⟨j, h1⟩ := hf.2 v hl
    simp [Instr.lookup, run_underlying ht, getObj, Sem.run, hb, run_check hk, run_underlying hk, findKey, h1, Result.andThen]

theorem wpList_ins {ops : Array Oper} {rest : List Oper} {o : Oper} {a : Act} {Q : Exit → Act → World → Prop} (hg : o.guard = none) (m x v : Operand) (t : TypeId) (hop : o.op = Op.insert t m x v)
    (kt et : TypeId) (ht : P.underlying t = some (.map kt et)) (hk : P.underlying kt = some (.int .u8)) (b : Nat) (xs : List (Int × Value)) (hm : a.eval m = .map (some b)) (hmap : MapAt w b xs) (z : Int) (val : Value) (hx : a.eval x = .int .u8 z) (hv : a.eval v = val) (hnew : lookL xs z = none)
    (hK : ∀ w', MapAt w' b (xs ++ [(z, val)]) → w.grownBy w' (some b) → wpList P ops Q rest (a.put o.dst undef) w') : wpList P ops Q (o :: rest) a w := by
  refine wpList_plain hg fun K' hK' => ?_
  obtain ⟨w', hrun, r1, r2⟩ := run_ins (P := P) hmap ht hk z val hnew
  unfold Oper.wp
  simp [execOp, hop, hm, hx, hv, hrun, Result.andThen]
  exact hK' _ _ (hK w' r1 r2)
end
end Go.Proofs.YtoineheocipmaaaGreatDoor
