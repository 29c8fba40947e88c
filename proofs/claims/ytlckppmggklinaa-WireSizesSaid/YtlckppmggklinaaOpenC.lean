/-
  Arguments that are rows, and lists of rows, opened.
-/
import Derived.Test.YtlckppmggklinaaOpenB
import Derived.Test.YtlckppmggklinaaLonger
namespace Go.Proofs.Ytlckppmggklinaa
open Go.RowKit Go.WideShapes Go.ChangeShapes Go.ChangeAt Go.Deep
set_option linter.unusedVariables false

/-- A list of rows, wherever it lies. -/
def Rws (w : World) (lo hi : Nat) (A : Option Addr) (n c : Nat) (xs : List Rw) : Prop :=
  xs.length = n ∧ n ≤ c ∧ c ≤ maxLen ∧ ∀ i, i < n → ∃ b o B m d x, A = some ⟨b, o, none⟩ ∧ lo ≤ b ∧ b < hi ∧ xs[i]? = some x ∧ Bs w lo hi B m d x.b ∧ (x.n : Int) ≤ 18446744073709551615 ∧
    w.cell? ⟨b, o + i * 5, none⟩ = some (.int .i64 x.num) ∧ w.cell? ⟨b, o + i * 5 + 1, none⟩ = some (.int .i64 x.wire) ∧ w.cell? ⟨b, o + i * 5 + 2, none⟩ = some (.int .u64 x.n) ∧
      w.cell? ⟨b, o + i * 5 + 3, none⟩ = some (.slice B m d) ∧ w.cell? ⟨b, o + i * 5 + 4, none⟩ = some (.int .i64 x.more)
theorem Rws.kept {w w' : World} {lo hi n c : Nat} {A : Option Addr} {xs : List Rw} (h : Rws w lo hi A n c xs) (k : Kept lo hi w w') : Rws w' lo hi A n c xs := by
  obtain ⟨h1, h2, h3, h4⟩ := h
  refine ⟨h1, h2, h3, fun i hi => ?_⟩
  obtain ⟨b, o, B, m, d, x, e, p, q, hx, hb, hn, c0, c1, c2, c3, c4⟩ := h4 i hi
  have hc : ∀ j, w'.cell? ⟨b, j, none⟩ = w.cell? ⟨b, j, none⟩ := fun j => World.cell?_of_block (a := ⟨b, j, none⟩) (k b p q)
  exact ⟨b, o, B, m, d, x, e, p, q, hx, hb.kept k, hn, (hc _).trans c0, (hc _).trans c1, (hc _).trans c2, (hc _).trans c3, (hc _).trans c4⟩

section
variable {H : Type} {enc : TypeId × Value → H} {W : World}
theorem row_of_trod {fuel : Nat} {cs : List Value} {x : DataW H × List MemPlace} (h : DataW.trod enc Try.prog W 0 (fun _ => true) true fuel 56 cs = some x) :
    ∃ (x : Rw) (B : Option Addr) (m d : Nat), cs = [.int .i64 x.num, .int .i64 x.wire, .int .u64 x.n, .slice B m d, .int .i64 x.more] ∧ Bs W 0 W.heap.size B m d x.b ∧ (x.n : Int) ≤ 18446744073709551615 := by
  obtain ⟨fs, hu, hone, h5, t0, t1, t2, t3, t4⟩ : ∃ fs, Try.prog.underlying 56 = some (.struct fs) ∧ oneCellFields Try.prog fs = true ∧ fs.size = 5 ∧ (fs[0]?.map (·.type)) = some 3 ∧ (fs[1]?.map (·.type)) = some 3 ∧ (fs[2]?.map (·.type)) = some 23 ∧ (fs[3]?.map (·.type)) = some 22 ∧ (fs[4]?.map (·.type)) = some 3 :=
    ⟨_, Try.underlying56, by kernel_rfl, by kernel_rfl, by kernel_rfl, by kernel_rfl, by kernel_rfl, by kernel_rfl, by kernel_rfl⟩
  obtain ⟨c0, c1, c2, c3, c4, n, rfl, hf⟩ := trod5 hu hone h5 Try.cells56 h
  obtain ⟨f0, e0, q0⟩ := Option.map_eq_some_iff.1 t0
  obtain ⟨f1, e1, q1⟩ := Option.map_eq_some_iff.1 t1
  obtain ⟨f2, e2, q2⟩ := Option.map_eq_some_iff.1 t2
  obtain ⟨f3, e3, q3⟩ := Option.map_eq_some_iff.1 t3
  obtain ⟨f4, e4, q4⟩ := Option.map_eq_some_iff.1 t4
  obtain ⟨y0, v0, p0, g0⟩ := hf 0 f0 e0
  obtain ⟨y1, v1, p1, g1⟩ := hf 1 f1 e1
  obtain ⟨y2, v2, p2, g2⟩ := hf 2 f2 e2
  obtain ⟨y3, v3, p3, g3⟩ := hf 3 f3 e3
  obtain ⟨y4, v4, p4, g4⟩ := hf 4 f4 e4
  rw [q0] at g0; rw [q1] at g1; rw [q2] at g2; rw [q3] at g3; rw [q4] at g4
  simp only [List.getElem?_cons_zero, List.getElem?_cons_succ, Option.some.injEq] at p0 p1 p2 p3 p4
  subst p0; subst p1; subst p2; subst p3; subst p4
  obtain ⟨n0, rfl, _⟩ := int_of_trod Try.underlying3 g0
  obtain ⟨n1, rfl, _⟩ := int_of_trod Try.underlying3 g1
  obtain ⟨n2, rfl, hw⟩ := int_of_trod Try.underlying23 g2
  obtain ⟨A, m, c, l, rfl, hb⟩ := bs_of_trod g3
  obtain ⟨n4, rfl, _⟩ := int_of_trod Try.underlying3 g4
  have h0 : 0 ≤ n2 ∧ n2 ≤ 18446744073709551615 := bounds_u64 hw
  obtain ⟨k, rfl⟩ := Int.eq_ofNat_of_zero_le h0.1
  exact ⟨⟨n0, n1, k, l, n4⟩, A, m, c, rfl, hb, by simpa using h0.2⟩

theorem open_row {base : Nat} {v : Value} {d : DataW H} {p : List MemPlace} (hv : Value.okWide Try.prog W .any base 56 v) (h : DataW.Trod enc Try.prog W 0 (fun _ => true) true 56 v d p) :
    ∃ (x : Rw) (B : Option Addr) (m d : Nat), v = .agg #[.int .i64 x.num, .int .i64 x.wire, .int .u64 x.n, .slice B m d, .int .i64 x.more] ∧ Bs W 0 W.heap.size B m d x.b ∧ (x.n : Int) ≤ 18446744073709551615 := by
  obtain ⟨cs, rfl, hsz⟩ := okWide_struct Try.underlying56 hv
  obtain ⟨fuel, hf⟩ := h
  obtain ⟨x, B, m, d, e, hb, hn⟩ := row_of_trod hf
  refine ⟨x, B, m, d, ?_, hb, hn⟩
  have : cs.toList = _ := e
  congr 1
  apply Array.ext'
  exact this

theorem open_rows {base : Nat} {v : Value} {d : DataW H} {p : List MemPlace} (hv : Value.okWide Try.prog W .any base 52 v) (h : DataW.Trod enc Try.prog W 0 (fun _ => true) true 52 v d p) :
    ∃ A n c xs, v = .slice A n c ∧ Rws W 0 W.heap.size A n c xs := by
  obtain ⟨a0, len, cap, rfl⟩ := okWide_slice Try.underlying52 hv
  obtain ⟨fuel, hf⟩ := h
  have hf' : DataW.trod enc Try.prog W 0 (fun _ => true) true fuel 52 [.slice a0 len cap] = some (d, p) := by simpa [Value.cells] using hf
  rcases open_slice Try.underlying52 hf' with ⟨hcs, _⟩ | ⟨a, n, c, m, k, D, Pl, hcs, _, hl, hm, hmm, _, hi⟩
  · simp only [List.cons.injEq, and_true] at hcs
    injection hcs with e1 e2 e3
    subst e1; subst e2; subst e3
    exact ⟨none, 0, 0, [], rfl, rfl, by omega, by unfold maxLen; omega, fun i hi => absurd hi (by omega)⟩
  · simp only [List.cons.injEq, and_true] at hcs
    injection hcs with e1 e2 e3
    subst e1; subst e2; subst e3
    simp only [if_true] at hmm
    rw [Try.cells56] at hi
    have hel : ∀ i, ∃ q : Rw × Option Addr × Nat × Nat, i < len → Bs W 0 W.heap.size q.2.1 q.2.2.1 q.2.2.2 q.1.b ∧ (q.1.n : Int) ≤ 18446744073709551615 ∧ W.cells? 0 (a.add (i * 5)) 5 = some [.int .i64 q.1.num, .int .i64 q.1.wire, .int .u64 q.1.n, .slice q.2.1 q.2.2.1 q.2.2.2, .int .i64 q.1.more] := by
      intro i
      by_cases hin : i < len
      · obtain ⟨cs', hc, ht⟩ := hi i (by omega)
        obtain ⟨x, B, m, d, e, hb, hn⟩ := row_of_trod ht
        refine ⟨(x, B, m, d), fun _ => ⟨hb, hn, ?_⟩⟩
        rw [hc, e]
      · exact ⟨(⟨0, 0, 0, [], 0⟩, none, 0, 0), fun q => absurd q hin⟩
    obtain ⟨f, hf⟩ := Classical.axiomOfChoice hel
    refine ⟨some a, len, cap, (List.range len).map fun i => (f i).1, rfl, by simp, hl, hm, fun i hin => ?_⟩
    obtain ⟨hb, hn, hc⟩ := hf i hin
    obtain ⟨_, _, hat⟩ := World.cells?_some hc
    obtain ⟨b, o, s⟩ := a
    have h0 := hat 0 (by omega)
    simp only [List.getElem?_cons_zero] at h0
    obtain ⟨_, _, hat0⟩ := World.cells?_some (hf 0 (by omega)).2.2
    have hz := hat0 0 (by omega)
    simp only [List.getElem?_cons_zero] at hz
    obtain rfl : s = none := by simpa [Addr.add] using World.cell?_spot hz
    simp only [add_plain] at hat h0
    refine ⟨b, o, (f i).2.1, (f i).2.2.1, (f i).2.2.2, (f i).1, rfl, Nat.zero_le _, cell_lt h0, by simp [hin], hb, hn, by simpa using hat 0 (by omega), by simpa using hat 1 (by omega), by simpa using hat 2 (by omega), by simpa using hat 3 (by omega), by simpa using hat 4 (by omega)⟩
end
end Go.Proofs.Ytlckppmggklinaa
