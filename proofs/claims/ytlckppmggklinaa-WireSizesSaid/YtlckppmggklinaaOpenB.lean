/-
  Arguments that are pairs of numbers, records, rows, and lists of them, opened.
-/
import Derived.Test.YtlckppmggklinaaOpen
import Derived.Test.YtlckppmggklinaaLists
import Derived.Deep.Slices
import Derived.Deep.Fields
namespace Go.Proofs.Ytlckppmggklinaa
open Go.RowKit Go.WideShapes Go.ChangeShapes Go.ChangeAt Go.Deep
set_option linter.unusedVariables false

theorem Try.cells3 : Try.prog.cellsOf 3 = 1 := by kernel_rfl
theorem Try.cells32 : Try.prog.cellsOf 32 = 2 := by kernel_rfl
theorem Try.cells34 : Try.prog.cellsOf 34 = 5 := by kernel_rfl
theorem Try.cells56 : Try.prog.cellsOf 56 = 5 := by kernel_rfl

section
variable {H : Type} {enc : TypeId × Value → H} {W : World}
/-- [2]int -/
theorem open_pair {base : Nat} {v : Value} {d : DataW H} {p : List MemPlace} (hv : Value.okWide Try.prog W .any base 32 v) (h : DataW.Trod enc Try.prog W 0 (fun _ => true) true 32 v d p) :
    ∃ a0 a1 : Int, v = .agg #[.int .i64 a0, .int .i64 a1] := by
  have hu : Try.prog.underlying 32 = some (.array 2 3) := by kernel_rfl
  have hv' : ∃ cs, v = .agg cs ∧ cs.size = Try.prog.cellsOf 32 := by
    simp only [Value.okWide, hu] at hv
    obtain ⟨cs, h1, h2, _⟩ := hv
    exact ⟨cs, h1, h2⟩
  obtain ⟨cs, rfl, hsz⟩ := hv'
  obtain ⟨l⟩ := cs
  rw [Try.cells32] at hsz
  match l, hsz with
  | [c0, c1], _ =>
    obtain ⟨fuel, hf⟩ := h
    obtain ⟨xs, m, _, _, _, hlen, hg⟩ := DataW.trod_array hu hf
    rw [Try.cells3] at hg
    match xs, hlen with
    | [y0, y1], _ =>
      have g0 : DataW.trod enc Try.prog W 0 (fun _ => true) true m 3 [c0] = some y0 := by simpa [Value.cells] using hg 0 (by omega)
      have g1 : DataW.trod enc Try.prog W 0 (fun _ => true) true m 3 [c1] = some y1 := by simpa [Value.cells] using hg 1 (by omega)
      obtain ⟨n0, e0, _⟩ := DataW.trod_int Try.underlying3 g0
      obtain ⟨n1, e1, _⟩ := DataW.trod_int Try.underlying3 g1
      simp only [List.cons.injEq, and_true] at e0 e1
      exact ⟨n0, n1, by rw [e0, e1]⟩

/-- Five cells, each read by itself. -/
theorem trod5 {t : TypeId} {fs : Array Field} {fuel : Nat} {cs : List Value} {x : DataW H × List MemPlace} (hs : Try.prog.underlying t = some (.struct fs)) (hone : oneCellFields Try.prog fs = true) (h5 : fs.size = 5) (hC : Try.prog.cellsOf t = 5)
    (h : DataW.trod enc Try.prog W 0 (fun _ => true) true fuel t cs = some x) :
    ∃ c0 c1 c2 c3 c4 n, cs = [c0, c1, c2, c3, c4] ∧ ∀ (j : Nat) (f : Field), fs[j]? = some f → ∃ y, ∃ v, cs[j]? = some v ∧ DataW.trod enc Try.prog W 0 (fun _ => true) true n f.type [v] = some y := by
  obtain ⟨ys, n, _, _, hl, hyl, hf⟩ := DataW.trod_struct hs h
  rw [hC] at hl
  match cs, hl with
  | [c0, c1, c2, c3, c4], _ =>
    refine ⟨c0, c1, c2, c3, c4, n, rfl, fun j f hj => ?_⟩
    obtain ⟨ho, hk⟩ := hone_of hone j f hj
    have hjl : j < 5 := by rw [← h5]; exact (Array.getElem?_eq_some_iff.1 hj).1
    have h1 := hf j f hj
    rw [ho, hk, List.drop_eq_getElem_cons (by simpa using hjl), List.take_succ_cons, List.take_zero] at h1
    rw [List.getElem?_eq_getElem (by omega)] at h1
    exact ⟨_, _, List.getElem?_eq_getElem (by simpa using hjl), h1⟩

theorem int_of_trod {t : TypeId} {k : IntKind} {fuel : Nat} {v : Value} {x : DataW H × List MemPlace} (hu : Try.prog.underlying t = some (.int k)) (h : DataW.trod enc Try.prog W 0 (fun _ => true) true fuel t [v] = some x) : ∃ n : Int, v = .int k n ∧ (Lit.int k n).wf = true := by
  obtain ⟨n, e, _, hw⟩ := DataW.trod_int hu h
  simp only [List.cons.injEq, and_true] at e
  exact ⟨n, e, hw⟩

theorem rec_of_trod {fuel : Nat} {cs : List Value} {x : DataW H × List MemPlace} (h : DataW.trod enc Try.prog W 0 (fun _ => true) true fuel 34 cs = some x) :
    ∃ v r, IsRec W 0 W.heap.size v r ∧ v.cells.toList = cs ∧ (r.n : Int) ≤ 18446744073709551615 := by
  obtain ⟨fs, hu, hone, h5, t0, t1, t2, t3, t4⟩ : ∃ fs, Try.prog.underlying 34 = some (.struct fs) ∧ oneCellFields Try.prog fs = true ∧ fs.size = 5 ∧ (fs[0]?.map (·.type)) = some 3 ∧ (fs[1]?.map (·.type)) = some 3 ∧ (fs[2]?.map (·.type)) = some 23 ∧ (fs[3]?.map (·.type)) = some 22 ∧ (fs[4]?.map (·.type)) = some 22 :=
    ⟨_, Try.underlying34, by kernel_rfl, by kernel_rfl, by kernel_rfl, by kernel_rfl, by kernel_rfl, by kernel_rfl, by kernel_rfl⟩
  obtain ⟨c0, c1, c2, c3, c4, n, rfl, hf⟩ := trod5 hu hone h5 Try.cells34 h
  obtain ⟨f0, e0, q0⟩ := Option.map_eq_some_iff.1 t0
  obtain ⟨f1, e1, q1⟩ := Option.map_eq_some_iff.1 t1
  obtain ⟨f2, e2, q2⟩ := Option.map_eq_some_iff.1 t2
  obtain ⟨f3, e3, q3⟩ := Option.map_eq_some_iff.1 t3
  obtain ⟨f4, e4, q4⟩ := Option.map_eq_some_iff.1 t4
  obtain ⟨y0, v0, p0, g0⟩ := hf 0 f0 e0
  obtain ⟨y1, v1, p1, g1⟩ := hf 1 f1 e1
  obtain ⟨y2, v2, p2, g2⟩ := hf 2 f2 e2
  obtain ⟨y3, v3, p3, g3⟩ := hf 3 f3 e3
  obtain ⟨y4, v4, p4, g4⟩ := hf 4 f4 e4
  rw [q0] at g0; rw [q1] at g1; rw [q2] at g2; rw [q3] at g3; rw [q4] at g4
  simp only [List.getElem?_cons_zero, List.getElem?_cons_succ, Option.some.injEq] at p0 p1 p2 p3 p4
  subst p0; subst p1; subst p2; subst p3; subst p4
  obtain ⟨n0, rfl, _⟩ := int_of_trod Try.underlying3 g0
  obtain ⟨n1, rfl, _⟩ := int_of_trod Try.underlying3 g1
  obtain ⟨n2, rfl, hw⟩ := int_of_trod Try.underlying23 g2
  obtain ⟨A, m, c, l, rfl, hb⟩ := bs_of_trod g3
  obtain ⟨A', m', c', l', rfl, hb'⟩ := bs_of_trod g4
  have h0 : 0 ≤ n2 ∧ n2 ≤ 18446744073709551615 := bounds_u64 hw
  obtain ⟨k, rfl⟩ := Int.eq_ofNat_of_zero_le h0.1
  exact ⟨_, ⟨n0, n1, k, l, l'⟩, ⟨A, m, c, A', m', c', rfl, hb, hb'⟩, rfl, by simpa using h0.2⟩

theorem allRec_map {lo hi : Nat} (f : Nat → Value × Rc) : ∀ l : List Nat, (∀ i ∈ l, IsRec W lo hi (f i).1 (f i).2) → AllRec W lo hi (l.map fun i => (f i).1) (l.map fun i => (f i).2)
  | [], _ => trivial
  | i :: l, h => ⟨h i (by simp), allRec_map f l fun j hj => h j (by simp [hj])⟩

theorem rs_of_trod {fuel : Nat} {v : Value} {x : DataW H × List MemPlace} (h : DataW.trod enc Try.prog W 0 (fun _ => true) true fuel 44 [v] = some x) :
    ∃ A n c rs, v = .slice A n c ∧ Rs W 0 W.heap.size A n c rs ∧ ∀ r ∈ rs, (r.n : Int) ≤ 18446744073709551615 := by
  rcases open_slice Try.underlying44 h with ⟨hcs, _⟩ | ⟨a, n, c, m, k, D, Pl, hcs, _, hl, hm, hmm, _, hi⟩
  · obtain rfl : v = .slice none 0 0 := by simpa using hcs
    exact ⟨none, 0, 0, [], rfl, Rs.nil _ _ _ _ (by unfold maxLen; omega), by simp⟩
  · obtain rfl : v = .slice (some a) n c := by simpa using hcs
    simp only [if_true] at hmm
    subst hmm
    rw [Try.cells34] at hi
    have hel : ∀ i, ∃ q : Value × Rc, i < n → IsRec W 0 W.heap.size q.1 q.2 ∧ (q.2.n : Int) ≤ 18446744073709551615 ∧ ∀ j u, q.1.cells.toList[j]? = some u → W.cell? ((a.add (i * 5)).add j) = some u := by
      intro i
      by_cases hin : i < n
      · obtain ⟨cs', hc, ht⟩ := hi i (by omega)
        obtain ⟨v, r, h1, h2, h3⟩ := rec_of_trod ht
        obtain ⟨_, hcl, hat⟩ := World.cells?_some hc
        refine ⟨(v, r), fun _ => ⟨h1, h3, fun j u hu => ?_⟩⟩
        rw [h2] at hu
        have hj : j < 5 := by
          rcases Nat.lt_or_ge j cs'.length with q | q
          · omega
          · rw [List.getElem?_eq_none q] at hu; cases hu
        rw [hat j hj, hu]
      · exact ⟨(.bool true, ⟨0, 0, 0, [], []⟩), fun q => absurd q hin⟩
    obtain ⟨f, hf⟩ := Classical.axiomOfChoice hel
    refine ⟨some a, n, m, (List.range n).map fun i => (f i).2, rfl, ⟨by simp, hl, hm, (List.range n).map fun i => (f i).1, allRec_map f _ fun i hi => (hf i (by simpa using hi)).1, fun hn => ?_⟩, ?_⟩
    · have har := allRec_map (W := W) (lo := 0) (hi := W.heap.size) f (List.range n) fun i hi => (hf i (by simpa using hi)).1
      have hc0 : ∀ k u, (flat ((List.range n).map fun i => (f i).1))[k]? = some u → W.cell? (a.add k) = some u := by
        intro k u hu
        have hlt : k < n * 5 := by
          have := har.flat_length
          rcases Nat.lt_or_ge k (flat ((List.range n).map fun i => (f i).1)).length with q | q
          · rw [this] at q; simpa using q
          · rw [List.getElem?_eq_none q] at hu; cases hu
        have hk5 : k / 5 < n := by omega
        have e : k = 5 * (k / 5) + k % 5 := by omega
        rw [e, har.flat_get (k / 5) (k % 5) (by simpa using hk5) (by omega)] at hu
        have := (hf (k / 5) hk5).2.2 (k % 5) u (by simpa using hu)
        rw [Go.Deep.add_add, show k / 5 * 5 + k % 5 = k by omega] at this
        exact this
      obtain ⟨b, o, s⟩ := a
      have hl5 := (hf 0 hn).1.cells
      have hfirst : W.cell? ((⟨b, o, s⟩ : Addr).add 0) = some ((f 0).1.cells.toList[0]'(by omega)) := by
        have := (hf 0 hn).2.2 0 _ (List.getElem?_eq_getElem (show 0 < (f 0).1.cells.toList.length by omega))
        simpa [Addr.add] using this
      obtain rfl : s = none := by simpa [Addr.add] using World.cell?_spot hfirst
      rw [add_plain] at hfirst
      refine ⟨b, o, rfl, Nat.zero_le _, cell_lt hfirst, fun k u hu => ?_⟩
      have := hc0 k u hu
      rwa [add_plain] at this
    · intro r hr
      obtain ⟨i, hi, rfl⟩ := List.mem_map.1 hr
      exact (hf i (by simpa using hi)).2.1

theorem open_rs {base : Nat} {v : Value} {d : DataW H} {p : List MemPlace} (hv : Value.okWide Try.prog W .any base 44 v) (h : DataW.Trod enc Try.prog W 0 (fun _ => true) true 44 v d p) :
    ∃ A n c rs, v = .slice A n c ∧ Rs W 0 W.heap.size A n c rs ∧ ∀ r ∈ rs, (r.n : Int) ≤ 18446744073709551615 := by
  obtain ⟨a0, len, cap, rfl⟩ := okWide_slice Try.underlying44 hv
  obtain ⟨fuel, hf⟩ := h
  exact rs_of_trod (by simpa [Value.cells] using hf)
end
end Go.Proofs.Ytlckppmggklinaa
