/-
  LexBack, walked.
-/
import Derived.Test.YtoineheocipmaaaGreatDoorLexRow
import Derived.Test.YtoineheocipmaaaGreatDoorLexX
import Derived.BigQuiet
namespace Go.Proofs.YtoineheocipmaaaGreatDoor
open Go.RowKit
set_option linter.unusedVariables false
set_option linter.unusedSimpArgs false

/-- Two lists that can be read. -/
structure Sm2 (w w1 : World) (l m : List Wi) (h1 h2 : Nat) (v u : Value) : Prop where
  o1 : RdI w1 h1 v l
  o2 : RdI w1 h2 u m
  b : Below w.heap.size w w1
theorem Sm2.drewN {w w1 : World} {l m : List Wi} {B1 B2 : Nat} {v u : Value} (h : Sm2 w w1 l m B1 B2 v u) (k : Nat) : Sm2 w (w1.drewN k) l m B1 B2 v u := ⟨h.o1, h.o2, Below.drewN_ h.b k⟩
theorem alike_len {l : List Wi} {m : Nat} {L : List Wd} (h : Alike l m L) : (L.map Wd.i).length = l.length + 1 := by rw [List.length_map, h.len]
theorem alike_last {l : List Wi} {m : Nat} {L : List Wd} (h : Alike l m L) (hi : l.length < (L.map Wd.i).length) : (L.map Wd.i)[l.length] = ⟨0, m, ⟨#[]⟩, 0⟩ := by
  have h2 := h.last
  have hi2 : l.length < L.length := by simpa using hi
  rw [List.getElem?_eq_getElem hi2] at h2
  have h3 := Option.some.inj h2
  rw [List.getElem_map, h3]
  rfl
theorem alike_same {l : List Wi} {m : Nat} {L : List Wd} (h : Alike l m L) (i : Nat) (hi : i < l.length) (hi2 : i < (L.map Wd.i).length) : ∃ p, (L.map Wd.i)[i] = ⟨l[i].k, p, l[i].t, l[i].n⟩ := by
  obtain ⟨y, hy, h1, h2, h3⟩ := h.same i hi
  have hi3 : i < L.length := by simpa using hi2
  rw [List.getElem?_eq_getElem hi3] at hy
  have hy := Option.some.inj hy
  refine ⟨y.p, ?_⟩
  rw [List.getElem_map, hy]
  show (⟨(y.k : Int), (y.p : Int), y.t, y.n⟩ : Wi) = _
  rw [h1, h2, h3]
theorem RdI.cells {w : World} {hi c n : Nat} {A : Option Addr} {l : List Wi} (h : RdI w hi (.slice A n c) l) (h0 : 0 < l.length) : ∃ g o, A = some ⟨g, o, none⟩ ∧ n = l.length ∧ l.length ≤ c ∧ ∀ i (h : i < l.length),
    w.cell? ⟨g, o + i * 4, none⟩ = some (.int .i64 l[i].k) ∧ w.cell? ⟨g, o + i * 4 + 1, none⟩ = some (.int .i64 l[i].p) ∧ w.cell? ⟨g, o + i * 4 + 2, none⟩ = some (.string l[i].t) ∧ w.cell? ⟨g, o + i * 4 + 3, none⟩ = some (.int .i64 l[i].n) := by
  obtain ⟨A', c', e, h1, h2, h3⟩ := h
  simp only [Value.slice.injEq] at e
  obtain ⟨rfl, rfl, rfl⟩ := e
  obtain ⟨g, o, hA, _, hc⟩ := h3 h0
  exact ⟨g, o, hA, rfl, h1, hc⟩
set_option maxRecDepth 100000 in
set_option maxHeartbeats 1000000 in
theorem back_any (l : List Sd) (v : Value) (w : World) (hE : Env w) (hv : RdS w w.heap.size v l) : Calls Tryz.prog 4 #[v] w fun e w' => e = .returned (.bool true) ∧ Below w.heap.size w w' := by
  have hok := rowS_ok l
  have hlen := rowS_len l
  have hrow := fun W (h : RdS W w.heap.size v l) (h2 : w.heap.size ≤ W.heap.size) => row_any l w.heap.size v W h h2
  generalize rowS l = L at *
  have hjl := jL_few L hok
  have hjoin := fun W u (h : RdI W W.heap.size u L) => join_any L W.heap.size u W h (Nat.le_refl _) (by omega) (fun x hx => by have := (hok x hx).few; omega)
  unfold StrP at hjoin
  obtain ⟨s, hs⟩ : ∃ s : ByteArray, s = ⟨(jL L).toArray⟩ := ⟨_, rfl⟩
  have hss : s.size ≤ 65536 := by rw [hs]; show (jL L).length ≤ _; omega
  obtain ⟨Ls, hw, hal⟩ := back_words hok hss (by rw [hs])
  have hwords := fun W (h : Env W) => words_any s W h (by omega)
  simp only [hw] at hwords
  rw [← hs] at hjoin
  have hlast := alike_last hal
  have hsame := alike_same hal
  have hal2 := alike_len hal
  unfold WsP at hwords
  generalize hM : Ls.map Wd.i = M at *
  have hwords2 : ∀ W, Env W → Calls Tryz.prog 13 #[.string s] W fun e w' => ∃ v, e = .returned (.tuple #[v, .int .i64 0, .int .i64 0]) ∧ OwnI w' W.heap.size v M ∧ Below W.heap.size W w' := by
    intro W h
    refine (hwords W h).mono ?_
    rintro e w' ⟨u, rfl, ho, hb⟩
    exact ⟨u, rfl, by rw [← hM]; exact ho.i, hb⟩
  have HE := Lib.hid hE
  have HV := Lib.hid hv
  have HROW := Lib.hid hrow
  have HJOIN := Lib.hid hjoin
  have HW := Lib.hid hwords2
  have HLAST := Lib.hid hlast
  have HSAME := Lib.hid hsame
  have HAL2 := Lib.hid hal2
  clear hE hv hrow hjoin hwords hwords2 hlast hsame hal hal2 hw hM hok hs hjl
  go_enter Tryz.func4, Tryz.ntmps4
  go_wp2_with fail
  refine (lexWorks_any _ HE.out).mono ?_
  rintro e w1 ⟨rfl, hb1⟩
  have HB1 := Lib.hid hb1
  clear hb1
  go_wp2_with fail
  refine (HROW.out _ (HV.out.below HB1.out (Nat.le_refl _)) HB1.out.size).mono ?_
  rintro e w2 ⟨u, rfl, ho2, hb2⟩
  have HRD2 := Lib.hid ho2.rd
  have HB2 := Lib.hid (HB1.out.trans (hb2.mono HB1.out.size))
  obtain ⟨A2, c2, rfl, _, _, _⟩ := ho2.rd
  clear ho2 hb2
  go_wp2_with fail
  refine (HJOIN.out _ _ HRD2.out).mono ?_
  rintro e w3 ⟨rfl, hb3⟩
  have hsz23 := hb3.size
  have HRD3 := Lib.hid (HRD2.out.below hb3 (Nat.le_refl _))
  have HB3 := Lib.hid (HB2.out.trans (hb3.mono HB2.out.size))
  clear hb3
  go_wp2_with fail
  refine (HW.out _ (HE.out.below HB3.out)).mono ?_
  rintro e w4 ⟨v4, rfl, ho4, hb4⟩
  have HRD4 := Lib.hid ho4.rd
  obtain ⟨A4, c4, rfl, _, _, _⟩ := ho4.rd
  have HR := Lib.hid (Sm2.mk (w := w) (HRD3.out.below hb4 hsz23) HRD4.out (HB3.out.trans (hb4.mono HB3.out.size)))
  clear ho4 hb4
  obtain ⟨g4, o4, rfl, _, hc4, hcs4⟩ := HRD4.out.cells (by have := HAL2.out; omega)
  have hal2 := HAL2.out
  have hll : L.length < M.length := by omega
  obtain ⟨q0, q1, q2, q3⟩ := hcs4 L.length hll
  have hq := HLAST.out hll
  rw [hq] at q0 q1 q2 q3
  have HCS := Lib.hid hcs4
  have e1 : ((M.length : Int) != (L.length : Int) + 1) = false := by simp; omega
  have hll' : (L.length : Int) < (M.length : Int) := by omega
  clear hcs4 hq
  go_wp2_with fail
  clear q0 q1 q2 q3 hll hll' e1 HCS HLAST
  have hml : M.length ≤ 1000 := by omega
  go_loopg [8] L.length (fun g v wr => ∃ i : Nat, i ≤ L.length ∧ g = L.length - i ∧ v = .int .i64 i ∧ Sm2 w wr L M w2.heap.size w4.heap.size (.slice A2 L.length c2) (.slice (some ⟨g4, o4, none⟩) M.length c4))
  case atStart => exact ⟨0, by omega, rfl, rfl, HR.out⟩
  case round =>
    obtain ⟨i, hi, rfl, rfl, hr⟩ := hrel
    have HRR := Lib.hid hr
    by_cases hil : i < L.length
    · obtain ⟨g, o, rfl, _, hlc, hcs⟩ := hr.o1.cells (by omega)
      obtain ⟨g', o', he, _, hlc2, hcs2⟩ := hr.o2.cells (by omega)
      simp only [Option.some.injEq, Addr.mk.injEq, and_true] at he
      obtain ⟨rfl, rfl⟩ := he
      obtain ⟨p0, p1, p2, p3⟩ := hcs i hil
      obtain ⟨q0, q1, q2, q3⟩ := hcs2 i (by omega)
      obtain ⟨pp, hpp⟩ := HSAME.out i hil (by omega)
      rw [hpp] at q0 q1 q2 q3
      have hil' : (i : Int) < (L.length : Int) := by omega
      have him' : (i : Int) < (M.length : Int) := by omega
      generalize hx : L[i] = x at *
      clear hr hcs hcs2 hpp
      go_wp2_with fail
      go_quiet (fail)
      go_wp2_with fail
      go_roundg (L.length - (i + 1))
      case measure => omega
      case rel => exact ⟨i + 1, by omega, rfl, by go_num, HRR.out.drewN _⟩
    · obtain rfl : i = L.length := by omega
      clear hr
      go_wp2_with fail
      go_ret
      exact ⟨rfl, HRR.out.b⟩
end Go.Proofs.YtoineheocipmaaaGreatDoor
