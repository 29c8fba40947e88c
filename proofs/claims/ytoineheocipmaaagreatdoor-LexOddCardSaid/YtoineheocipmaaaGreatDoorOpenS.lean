/-
  Arguments that are lists of seeds, and lists of numbers, opened.
-/
import Derived.Test.YtoineheocipmaaaGreatDoorOpen
import Derived.Test.YtoineheocipmaaaGreatDoorLexRow
import Derived.Test.YtoineheocipmaaaGreatDoorRN
import Derived.Deep.Slices
import Derived.Deep.Fields
import Derived.ChangeMaps5
namespace Go.Proofs.YtoineheocipmaaaGreatDoor
open Go.RowKit Go.WideShapes Go.ChangeShapes Go.ChangeAt Go.Deep
set_option linter.unusedVariables false
set_option linter.unusedSimpArgs false
set_option maxRecDepth 100000

theorem Tryz.cells3 : Tryz.prog.cellsOf 3 = 1 := by kernel_rfl
theorem Tryz.cells97 : Tryz.prog.cellsOf 97 = 3 := by kernel_rfl
section
variable {H : Type} {enc : TypeId × Value → H} {W : World}
theorem int_of_trod {t : TypeId} {k : IntKind} {fuel : Nat} {v : Value} {x : DataW H × List MemPlace} (hu : Tryz.prog.underlying t = some (.int k)) (h : DataW.trod enc Tryz.prog W 0 (fun _ => true) true fuel t [v] = some x) : ∃ n : Int, v = .int k n ∧ (Lit.int k n).wf = true := by
  obtain ⟨n, e, _, hw⟩ := DataW.trod_int hu h
  simp only [List.cons.injEq, and_true] at e
  exact ⟨n, e, hw⟩
/-- Three cells, each read by itself. -/
theorem trod3 {t : TypeId} {fs : Array Field} {fuel : Nat} {cs : List Value} {x : DataW H × List MemPlace} (hs : Tryz.prog.underlying t = some (.struct fs)) (hone : oneCellFields Tryz.prog fs = true) (h3 : fs.size = 3) (hC : Tryz.prog.cellsOf t = 3)
    (h : DataW.trod enc Tryz.prog W 0 (fun _ => true) true fuel t cs = some x) :
    ∃ c0 c1 c2 n, cs = [c0, c1, c2] ∧ ∀ (j : Nat) (f : Field), fs[j]? = some f → ∃ y, ∃ v, cs[j]? = some v ∧ DataW.trod enc Tryz.prog W 0 (fun _ => true) true n f.type [v] = some y := by
  obtain ⟨ys, n, _, _, hl, hyl, hf⟩ := DataW.trod_struct hs h
  rw [hC] at hl
  match cs, hl with
  | [c0, c1, c2], _ =>
    refine ⟨c0, c1, c2, n, rfl, fun j f hj => ?_⟩
    obtain ⟨ho, hk⟩ := hone_of hone j f hj
    have hjl : j < 3 := by rw [← h3]; exact (Array.getElem?_eq_some_iff.1 hj).1
    have h1 := hf j f hj
    rw [ho, hk, List.drop_eq_getElem_cons (by simpa using hjl), List.take_succ_cons, List.take_zero] at h1
    rw [List.getElem?_eq_getElem (by omega)] at h1
    exact ⟨_, _, List.getElem?_eq_getElem (by simpa using hjl), h1⟩
theorem seed_of_trod {fuel : Nat} {cs : List Value} {x : DataW H × List MemPlace} (h : DataW.trod enc Tryz.prog W 0 (fun _ => true) true fuel 97 cs = some x) :
    ∃ (y : Sd) (B : Option Addr) (m d : Nat), cs = [.int .i64 y.k, .int .i64 y.n, .slice B m d] ∧ Bs W 0 W.heap.size B m d y.b := by
  obtain ⟨fs, hu, hone, h3, t0, t1, t2⟩ : ∃ fs, Tryz.prog.underlying 97 = some (.struct fs) ∧ oneCellFields Tryz.prog fs = true ∧ fs.size = 3 ∧ (fs[0]?.map (·.type)) = some 3 ∧ (fs[1]?.map (·.type)) = some 3 ∧ (fs[2]?.map (·.type)) = some 42 :=
    ⟨_, Tryz.underlying97, by kernel_rfl, by kernel_rfl, by kernel_rfl, by kernel_rfl, by kernel_rfl⟩
  obtain ⟨c0, c1, c2, n, rfl, hf⟩ := trod3 hu hone h3 Tryz.cells97 h
  obtain ⟨f0, e0, q0⟩ := Option.map_eq_some_iff.1 t0
  obtain ⟨f1, e1, q1⟩ := Option.map_eq_some_iff.1 t1
  obtain ⟨f2, e2, q2⟩ := Option.map_eq_some_iff.1 t2
  obtain ⟨y0, v0, p0, g0⟩ := hf 0 f0 e0
  obtain ⟨y1, v1, p1, g1⟩ := hf 1 f1 e1
  obtain ⟨y2, v2, p2, g2⟩ := hf 2 f2 e2
  rw [q0] at g0; rw [q1] at g1; rw [q2] at g2
  simp only [List.getElem?_cons_zero, List.getElem?_cons_succ, Option.some.injEq] at p0 p1 p2
  subst p0; subst p1; subst p2
  obtain ⟨n0, rfl, _⟩ := int_of_trod Tryz.underlying3 g0
  obtain ⟨n1, rfl, _⟩ := int_of_trod Tryz.underlying3 g1
  obtain ⟨A, m, c, l, rfl, hb⟩ := bs_of_trod g2
  exact ⟨⟨n0, n1, l⟩, A, m, c, rfl, hb⟩
theorem seeds_of_trod {fuel : Nat} {v : Value} {x : DataW H × List MemPlace} (h : DataW.trod enc Tryz.prog W 0 (fun _ => true) true fuel 29 [v] = some x) : ∃ l, RdS W W.heap.size v l := by
  rcases open_slice Tryz.underlying29 h with ⟨hcs, _⟩ | ⟨a, n, c, m, k, D, Pl, hcs, _, hl, hm, hmm, _, hi⟩
  · obtain rfl : v = .slice none 0 0 := by simpa using hcs
    exact ⟨[], none, 0, rfl, by simp, by unfold maxLen; omega, by simp⟩
  · obtain rfl : v = .slice (some a) n c := by simpa using hcs
    simp only [if_true] at hmm
    subst hmm
    rw [Tryz.cells97] at hi
    have hel : ∀ i, ∃ q : Sd × Option Addr × Nat × Nat, i < n → Bs W 0 W.heap.size q.2.1 q.2.2.1 q.2.2.2 q.1.b ∧ W.cells? 0 (a.add (i * 3)) 3 = some [.int .i64 q.1.k, .int .i64 q.1.n, .slice q.2.1 q.2.2.1 q.2.2.2] := by
      intro i
      by_cases hin : i < n
      · obtain ⟨cs', hc, ht⟩ := hi i (by omega)
        obtain ⟨y, B, m', d', e, hb⟩ := seed_of_trod ht
        exact ⟨(y, B, m', d'), fun _ => ⟨hb, by rw [hc, e]⟩⟩
      · exact ⟨(⟨0, 0, []⟩, none, 0, 0), fun q => absurd q hin⟩
    obtain ⟨f, hf⟩ := Classical.axiomOfChoice hel
    refine ⟨(List.range n).map fun i => (f i).1, some a, m, by simp, by simpa using hl, hm, fun h0 => ?_⟩
    have hn : 0 < n := by simpa using h0
    obtain ⟨b, o, s⟩ := a
    obtain ⟨_, _, hat0⟩ := World.cells?_some (hf 0 hn).2
    have hz := hat0 0 (by omega)
    simp only [List.getElem?_cons_zero] at hz
    obtain rfl : s = none := by simpa [Addr.add] using World.cell?_spot hz
    simp only [add_plain] at hz
    refine ⟨b, o, rfl, cell_lt hz, fun i hi' => ?_⟩
    have hin : i < n := by simpa using hi'
    obtain ⟨hb, hc⟩ := hf i hin
    obtain ⟨_, _, hat⟩ := World.cells?_some hc
    simp only [add_plain] at hat
    have hx : ((List.range n).map fun i => (f i).1)[i]'hi' = (f i).1 := by simp
    rw [hx]
    exact ⟨_, _, _, hb, by have h := hat 0 (by omega); simp only [Nat.add_zero, List.getElem?_cons_zero, List.getElem?_cons_succ] at h; exact h, by have h := hat 1 (by omega); simp only [Nat.add_zero, List.getElem?_cons_zero, List.getElem?_cons_succ] at h; exact h, by have h := hat 2 (by omega); simp only [Nat.add_zero, List.getElem?_cons_zero, List.getElem?_cons_succ] at h; exact h⟩
theorem open_sds {base : Nat} {v : Value} {d : DataW H} {p : List MemPlace} (hv : Value.okWide Tryz.prog W .any base 29 v) (h : DataW.Trod enc Tryz.prog W 0 (fun _ => true) true 29 v d p) : ∃ l, RdS W W.heap.size v l := by
  obtain ⟨a0, len, cap, rfl⟩ := okWide_slice Tryz.underlying29 hv
  obtain ⟨fuel, hf⟩ := h
  exact seeds_of_trod (by simpa [Value.cells] using hf)
theorem open_ns {base : Nat} {v : Value} {d : DataW H} {p : List MemPlace} (hv : Value.okWide Tryz.prog W .any base 35 v) (h : DataW.Trod enc Tryz.prog W 0 (fun _ => true) true 35 v d p) :
    ∃ A n c l, v = .slice A n c ∧ RdN W W.heap.size A n c l := by
  obtain ⟨a0, len, cap, rfl⟩ := okWide_slice Tryz.underlying35 hv
  obtain ⟨fuel, hf⟩ := h
  have hf' : DataW.trod enc Tryz.prog W 0 (fun _ => true) true fuel 35 [.slice a0 len cap] = some (d, p) := by simpa [Value.cells] using hf
  rcases open_ints Tryz.underlying35 Tryz.underlying3 Tryz.cells3 hf' with ⟨hcs, hx⟩ | ⟨a, n, c, zs, hcs, _, hl, hm, hz, hx, hcell, hwz⟩
  · simp only [List.cons.injEq, and_true] at hcs
    injection hcs with e1 e2 e3
    subst e1; subst e2; subst e3
    exact ⟨none, 0, 0, [], rfl, rfl, by omega, by unfold maxLen; omega, fun h => absurd h (by omega)⟩
  · simp only [List.cons.injEq, and_true] at hcs
    injection hcs with e1 e2 e3
    subst e1; subst e2; subst e3
    simp only [if_true] at hz
    refine ⟨some a, len, cap, zs.take len, rfl, by simp; omega, hl, hm, fun hn => ?_⟩
    obtain ⟨b, o, s⟩ := a
    obtain rfl : s = none := by simpa [Addr.add] using World.cell?_spot (hcell 0 (by omega))
    have hc0 := hcell 0 (by omega)
    rw [add_plain] at hc0
    refine ⟨b, o, rfl, cell_lt hc0, fun j hj => ?_⟩
    have hj' : j < len := by simp at hj; omega
    have hc := hcell j (by omega)
    rw [add_plain] at hc
    rw [hc]
    simp only [List.getElem_take]
    simp [List.getD, List.getElem?_eq_getElem (show j < zs.length by omega)]
end
end Go.Proofs.YtoineheocipmaaaGreatDoor
