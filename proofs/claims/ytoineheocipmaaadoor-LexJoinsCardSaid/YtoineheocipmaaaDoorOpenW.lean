/-
  Arguments that are lists of words, opened.
-/
import Derived.Test.YtoineheocipmaaaDoorOpen
import Derived.Test.YtoineheocipmaaaDoorLexI
import Derived.Deep.Slices
import Derived.Deep.Fields
import Derived.ChangeMaps5
namespace Go.Proofs.YtoineheocipmaaaDoor
open Go.RowKit Go.WideShapes Go.ChangeShapes Go.ChangeAt Go.Deep
set_option linter.unusedVariables false
set_option linter.unusedSimpArgs false
set_option maxRecDepth 100000

theorem Tryd.cells3 : Tryd.prog.cellsOf 3 = 1 := by kernel_rfl
theorem Tryd.cells24 : Tryd.prog.cellsOf 24 = 4 := by kernel_rfl
section
variable {H : Type} {enc : TypeId × Value → H} {W : World}
theorem int_of_trod {t : TypeId} {k : IntKind} {fuel : Nat} {v : Value} {x : DataW H × List MemPlace} (hu : Tryd.prog.underlying t = some (.int k)) (h : DataW.trod enc Tryd.prog W 0 (fun _ => true) true fuel t [v] = some x) : ∃ n : Int, v = .int k n ∧ (Lit.int k n).wf = true := by
  obtain ⟨n, e, _, hw⟩ := DataW.trod_int hu h
  simp only [List.cons.injEq, and_true] at e
  exact ⟨n, e, hw⟩
theorem str_of_trod {t : TypeId} {fuel : Nat} {v : Value} {x : DataW H × List MemPlace} (hu : Tryd.prog.underlying t = some .string) (h : DataW.trod enc Tryd.prog W 0 (fun _ => true) true fuel t [v] = some x) : ∃ s : ByteArray, v = .string s := by
  obtain ⟨s, e, _, _⟩ := DataW.trod_string hu h
  simp only [List.cons.injEq, and_true] at e
  exact ⟨s, e⟩
/-- Four cells, each read by itself. -/
theorem trod4 {t : TypeId} {fs : Array Field} {fuel : Nat} {cs : List Value} {x : DataW H × List MemPlace} (hs : Tryd.prog.underlying t = some (.struct fs)) (hone : oneCellFields Tryd.prog fs = true) (h4 : fs.size = 4) (hC : Tryd.prog.cellsOf t = 4)
    (h : DataW.trod enc Tryd.prog W 0 (fun _ => true) true fuel t cs = some x) :
    ∃ c0 c1 c2 c3 n, cs = [c0, c1, c2, c3] ∧ ∀ (j : Nat) (f : Field), fs[j]? = some f → ∃ y, ∃ v, cs[j]? = some v ∧ DataW.trod enc Tryd.prog W 0 (fun _ => true) true n f.type [v] = some y := by
  obtain ⟨ys, n, _, _, hl, hyl, hf⟩ := DataW.trod_struct hs h
  rw [hC] at hl
  match cs, hl with
  | [c0, c1, c2, c3], _ =>
    refine ⟨c0, c1, c2, c3, n, rfl, fun j f hj => ?_⟩
    obtain ⟨ho, hk⟩ := hone_of hone j f hj
    have hjl : j < 4 := by rw [← h4]; exact (Array.getElem?_eq_some_iff.1 hj).1
    have h1 := hf j f hj
    rw [ho, hk, List.drop_eq_getElem_cons (by simpa using hjl), List.take_succ_cons, List.take_zero] at h1
    rw [List.getElem?_eq_getElem (by omega)] at h1
    exact ⟨_, _, List.getElem?_eq_getElem (by simpa using hjl), h1⟩
theorem word_of_trod {fuel : Nat} {cs : List Value} {x : DataW H × List MemPlace} (h : DataW.trod enc Tryd.prog W 0 (fun _ => true) true fuel 24 cs = some x) :
    ∃ y : Wi, cs = [.int .i64 y.k, .int .i64 y.p, .string y.t, .int .i64 y.n] := by
  obtain ⟨fs, hu, hone, h4, t0, t1, t2, t3⟩ : ∃ fs, Tryd.prog.underlying 24 = some (.struct fs) ∧ oneCellFields Tryd.prog fs = true ∧ fs.size = 4 ∧ (fs[0]?.map (·.type)) = some 3 ∧ (fs[1]?.map (·.type)) = some 3 ∧ (fs[2]?.map (·.type)) = some 9 ∧ (fs[3]?.map (·.type)) = some 3 :=
    ⟨_, Tryd.underlying24, by kernel_rfl, by kernel_rfl, by kernel_rfl, by kernel_rfl, by kernel_rfl, by kernel_rfl⟩
  obtain ⟨c0, c1, c2, c3, n, rfl, hf⟩ := trod4 hu hone h4 Tryd.cells24 h
  obtain ⟨f0, e0, q0⟩ := Option.map_eq_some_iff.1 t0
  obtain ⟨f1, e1, q1⟩ := Option.map_eq_some_iff.1 t1
  obtain ⟨f2, e2, q2⟩ := Option.map_eq_some_iff.1 t2
  obtain ⟨f3, e3, q3⟩ := Option.map_eq_some_iff.1 t3
  obtain ⟨y0, v0, p0, g0⟩ := hf 0 f0 e0
  obtain ⟨y1, v1, p1, g1⟩ := hf 1 f1 e1
  obtain ⟨y2, v2, p2, g2⟩ := hf 2 f2 e2
  obtain ⟨y3, v3, p3, g3⟩ := hf 3 f3 e3
  rw [q0] at g0; rw [q1] at g1; rw [q2] at g2; rw [q3] at g3
  simp only [List.getElem?_cons_zero, List.getElem?_cons_succ, Option.some.injEq] at p0 p1 p2 p3
  subst p0; subst p1; subst p2; subst p3
  obtain ⟨n0, rfl, _⟩ := int_of_trod Tryd.underlying3 g0
  obtain ⟨n1, rfl, _⟩ := int_of_trod Tryd.underlying3 g1
  obtain ⟨s2, rfl⟩ := str_of_trod Tryd.underlying9 g2
  obtain ⟨n3, rfl, _⟩ := int_of_trod Tryd.underlying3 g3
  exact ⟨⟨n0, n1, s2, n3⟩, rfl⟩
theorem ws_of_trod {fuel : Nat} {v : Value} {x : DataW H × List MemPlace} (h : DataW.trod enc Tryd.prog W 0 (fun _ => true) true fuel 22 [v] = some x) : ∃ l, RdI W W.heap.size v l := by
  rcases open_slice Tryd.underlying22 h with ⟨hcs, _⟩ | ⟨a, n, c, m, k, D, Pl, hcs, _, hl, hm, hmm, _, hi⟩
  · obtain rfl : v = .slice none 0 0 := by simpa using hcs
    exact ⟨[], none, 0, rfl, by simp, by unfold maxLen; omega, by simp⟩
  · obtain rfl : v = .slice (some a) n c := by simpa using hcs
    simp only [if_true] at hmm
    subst hmm
    rw [Tryd.cells24] at hi
    have hel : ∀ i, ∃ q : Wi, i < n → W.cells? 0 (a.add (i * 4)) 4 = some [.int .i64 q.k, .int .i64 q.p, .string q.t, .int .i64 q.n] := by
      intro i
      by_cases hin : i < n
      · obtain ⟨cs', hc, ht⟩ := hi i (by omega)
        obtain ⟨y, e⟩ := word_of_trod ht
        exact ⟨y, fun _ => by rw [hc, e]⟩
      · exact ⟨⟨0, 0, ⟨#[]⟩, 0⟩, fun q => absurd q hin⟩
    obtain ⟨f, hf⟩ := Classical.axiomOfChoice hel
    refine ⟨(List.range n).map f, some a, m, by simp, by simpa using hl, hm, fun h0 => ?_⟩
    have hn : 0 < n := by simpa using h0
    obtain ⟨b, o, s⟩ := a
    obtain ⟨_, _, hat0⟩ := World.cells?_some (hf 0 hn)
    have hz := hat0 0 (by omega)
    simp only [List.getElem?_cons_zero] at hz
    obtain rfl : s = none := by simpa [Addr.add] using World.cell?_spot hz
    simp only [add_plain] at hz
    refine ⟨b, o, rfl, cell_lt hz, fun i hi' => ?_⟩
    have hin : i < n := by simpa using hi'
    obtain ⟨_, _, hat⟩ := World.cells?_some (hf i hin)
    simp only [add_plain] at hat
    have hx : ((List.range n).map f)[i]'hi' = f i := by simp
    rw [hx]
    exact ⟨by have h := hat 0 (by omega); simp only [Nat.add_zero, List.getElem?_cons_zero, List.getElem?_cons_succ] at h; exact h, by have h := hat 1 (by omega); simp only [Nat.add_zero, List.getElem?_cons_zero, List.getElem?_cons_succ] at h; exact h, by have h := hat 2 (by omega); simp only [Nat.add_zero, List.getElem?_cons_zero, List.getElem?_cons_succ] at h; exact h, by have h := hat 3 (by omega); simp only [Nat.add_zero, List.getElem?_cons_zero, List.getElem?_cons_succ] at h; exact h⟩
theorem open_ws {base : Nat} {v : Value} {d : DataW H} {p : List MemPlace} (hv : Value.okWide Tryd.prog W .any base 22 v) (h : DataW.Trod enc Tryd.prog W 0 (fun _ => true) true 22 v d p) : ∃ l, RdI W W.heap.size v l := by
  obtain ⟨a0, len, cap, rfl⟩ := okWide_slice Tryd.underlying22 hv
  obtain ⟨fuel, hf⟩ := h
  exact ws_of_trod (by simpa [Value.cells] using hf)
end
end Go.Proofs.YtoineheocipmaaaDoor
