/-
  LexPlaces, walked.
-/
import Derived.Test.YtoineheocipmaaaDoorLexPM2
import Derived.Test.YtoineheocipmaaaDoorLexI
import Derived.Test.YtoineheocipmaaaDoorLexX
import Derived.Test.YtoineheocipmaaaDoorBrg
import Derived.BigQuiet
namespace Go.Proofs.YtoineheocipmaaaDoor
open Go.RowKit
set_option linter.unusedVariables false
set_option linter.unusedSimpArgs false

/-- Two lists that can be read. -/
structure Sm2 (w w1 : World) (l m : List Wi) (h1 h2 : Nat) (v u : Value) : Prop where
  o1 : RdI w1 h1 v l
  o2 : RdI w1 h2 u m
  b : Below w.heap.size w w1
theorem Sm2.drewN {w w1 : World} {l m : List Wi} {B1 B2 : Nat} {v u : Value} (h : Sm2 w w1 l m B1 B2 v u) (k : Nat) : Sm2 w (w1.drewN k) l m B1 B2 v u := ⟨h.o1, h.o2, Below.drewN_ h.b k⟩
structure Sm1 (w w1 : World) (l : List Wi) (h1 : Nat) (v : Value) : Prop where
  o1 : RdI w1 h1 v l
  b : Below w.heap.size w w1
  le : h1 ≤ w1.heap.size
theorem Sm1.drewN {w w1 : World} {l : List Wi} {B1 : Nat} {v : Value} (h : Sm1 w w1 l B1 v) (k : Nat) : Sm1 w (w1.drewN k) l B1 v := ⟨h.o1, Below.drewN_ h.b k, h.le⟩
theorem RdI.cells {w : World} {hi c n : Nat} {A : Option Addr} {l : List Wi} (h : RdI w hi (.slice A n c) l) (h0 : 0 < l.length) : ∃ g o, A = some ⟨g, o, none⟩ ∧ n = l.length ∧ l.length ≤ c ∧ ∀ i (h : i < l.length),
    w.cell? ⟨g, o + i * 4, none⟩ = some (.int .i64 l[i].k) ∧ w.cell? ⟨g, o + i * 4 + 1, none⟩ = some (.int .i64 l[i].p) ∧ w.cell? ⟨g, o + i * 4 + 2, none⟩ = some (.string l[i].t) ∧ w.cell? ⟨g, o + i * 4 + 3, none⟩ = some (.int .i64 l[i].n) := by
  obtain ⟨A', c', e, h1, h2, h3⟩ := h
  simp only [Value.slice.injEq] at e
  obtain ⟨rfl, rfl, rfl⟩ := e
  obtain ⟨g, o, hA, _, hc⟩ := h3 h0
  exact ⟨g, o, hA, rfl, h1, hc⟩
/-- A word, as the law asks about it, of numbers and bytes in memory. -/
structure WiPl (s : ByteArray) (y z : Wi) : Prop where
  lt : y.p < z.p
  p0 : ∃ p : Nat, y.p = p ∧ p < s.size ∧ (y.k ≠ 3 → 0 < y.t.size ∧ p + y.t.size ≤ s.size ∧ s.extract p (p + y.t.size) = y.t)
  k0 : y.k ≠ 0
theorem wi_at {s : ByteArray} {l : List Wd} (h : WdsOk s 0 l) (i : Nat) (hi : i + 1 < (l.map Wd.i).length) : WiPl s (l.map Wd.i)[i] (l.map Wd.i)[i + 1] := by
  have hi2 : i + 1 < l.length := by simpa using hi
  have hp := h.at i hi2
  rw [List.getElem_map, List.getElem_map]
  have h1 := hp.lt
  have h2 := hp.k0
  refine ⟨by show ((l[i].p : Nat) : Int) < ((l[i + 1].p : Nat) : Int); omega, ⟨l[i].p, rfl, hp.lt2, fun hk => hp.t (by intro e; apply hk; show ((l[i].k : Nat) : Int) = 3; omega)⟩, by show ¬ ((l[i].k : Nat) : Int) = 0; omega⟩
theorem wi_end {s : ByteArray} {l : List Wd} (h : WdsOk s 0 l) (n : Nat) (hn : (l.map Wd.i).length = n + 1) (hi : n < (l.map Wd.i).length) : (l.map Wd.i)[n] = ⟨0, s.size, ⟨#[]⟩, 0⟩ := by
  obtain ⟨h0, h1⟩ := h.end_
  have hl : l.length = n + 1 := by simpa using hn
  rw [hl, Nat.add_sub_cancel, List.getElem?_eq_getElem (by omega)] at h1
  rw [List.getElem_map, Option.some.inj h1]
  rfl
theorem WdsOk.few {s : ByteArray} {p : Nat} {l : List Wd} (h : WdsOk s p l) : ∀ i (hi : i < l.length), i ≤ l[i].p
  | 0, _ => Nat.zero_le _
  | i + 1, hi => by have := WdsOk.few h i (by omega); have := h.ris i hi; omega
set_option maxRecDepth 100000 in
set_option maxHeartbeats 2000000 in
theorem places_any (s0 : ByteArray) (which : Int) (w : World) (hE : Env w) : Calls Tryd.prog 4 #[.string s0, .int .i64 which] w fun e w' => e = .returned (.bool true) ∧ Below w.heap.size w w' := by
  obtain ⟨m, hm, hms, hm2⟩ : ∃ m : Nat, min (s0.size : Int) 2000 = (m : Int) ∧ m ≤ s0.size ∧ m ≤ 2000 := ⟨min s0.size 2000, by omega, by omega, by omega⟩
  have hms' : (m : Int) ≤ (s0.size : Int) := by omega
  obtain ⟨s, hs⟩ : ∃ s, s0.extract 0 m = s := ⟨_, rfl⟩
  have hts : s.size ≤ 2000 := by rw [← hs]; simp [ByteArray.size_extract]; omega
  have h1 := words_any s w hE (by omega)
  have HE := Lib.hid hE
  clear hE
  rcases words_split s (by omega) with ⟨he, hl, ha⟩ | ⟨hR, hok⟩
  · unfold WsP at h1
    rw [hl] at h1
    generalize (wordsR s).e = E at *
    generalize (wordsR s).at_ = P at *
    have H1 := Lib.hid h1
    have he' : ((E : Int) != 0) = true := by simp; omega
    have ha0 : (0 : Int) ≤ (P : Int) := by omega
    have ha' : (P : Int) ≤ (s.size : Int) := by omega
    clear h1 hl
    go_enter Tryd.func4, Tryd.ntmps4
    go_wp2_with fail
    refine (H1.out).mono ?_
    rintro e w1 ⟨v1, rfl, ho1, hb1⟩
    have HB1 := Lib.hid hb1
    obtain ⟨A1, c1, rfl, _, _, _⟩ := ho1.val
    clear ho1 hb1
    go_wp2_with fail
    refine (lexWorks_any _ (HE.out.below HB1.out)).mono ?_
    rintro e w2 ⟨rfl, hb2⟩
    have HB2 := Lib.hid (HB1.out.trans (hb2.mono HB1.out.size))
    clear hb2
    go_wp2_with fail
    go_ret
    exact ⟨rfl, HB2.out⟩
  · have hcut := fun i (hi : i < (wordsR s).l.length) => words_cut (by omega) hok i hi
    have hwa := fun W (h : Env W) i (hi : i < (wordsR s).l.length) => words_any (s.extract 0 (wordsR s).l[i].p) W h (by simp [ByteArray.size_extract]; omega)
    simp only [hcut] at hwa
    have hup := hok.up
    rw [hR] at h1
    generalize (wordsR s).l = l at *
    have hpos := hok.end_.1
    obtain ⟨M, hM⟩ : ∃ M, M = l.map Wd.i := ⟨_, rfl⟩
    have hMl : M.length = l.length := by rw [hM]; simp
    have hat : ∀ i (hi : i + 1 < M.length), WiPl s M[i] M[i + 1] := by subst hM; exact wi_at hok
    have hend : ∀ n (hn : M.length = n + 1) (hi : n < M.length), M[n] = ⟨0, s.size, ⟨#[]⟩, 0⟩ := by subst hM; exact wi_end hok
    have hcutM : ∀ W (h : Env W) i (hi : i < M.length), ∃ q : Nat, M[i].p = q ∧ q ≤ s.size ∧ Calls Tryd.prog 9 #[.string (s.extract 0 q)] W fun e w' => ∃ v M2, e = .returned (.tuple #[v, .int .i64 0, .int .i64 0]) ∧ OwnI w' W.heap.size v M2 ∧ M2.length = i + 1 ∧ (∀ j (h1 : j < i) (h2 : j < M2.length), M2[j] = M[j]) ∧ Below W.heap.size W w' := by
      intro W h i hi
      have hil : i < l.length := by omega
      refine ⟨l[i].p, by simp only [hM, List.getElem_map]; rfl, (hup i hil).2, ?_⟩
      refine (hwa W h i hil).mono ?_
      rintro e w' ⟨v, rfl, ho, hb⟩
      refine ⟨v, _, rfl, ho.i, by simp; omega, fun j hj1 hj2 => ?_, hb⟩
      subst hM
      simp only [List.getElem_map]
      rw [List.getElem_append_left (by simp; omega)]
      simp
    have h2 : Calls Tryd.prog 9 #[.string s] w fun e w' => ∃ v, e = .returned (.tuple #[v, .int .i64 0, .int .i64 0]) ∧ OwnI w' w.heap.size v M ∧ Below w.heap.size w w' := by
      refine h1.mono ?_
      rintro e w' ⟨v, rfl, ho, hb⟩
      exact ⟨v, rfl, by rw [hM]; exact ho.i, hb⟩
    obtain ⟨n, hn⟩ : ∃ n, M.length = n + 1 := ⟨M.length - 1, by omega⟩
    have hfew := (hup 0 hpos)
    have hlf : l.length ≤ 2001 := by have h3 := hok.few (l.length - 1) (by omega); have h4 := (hup (l.length - 1) (by omega)).2; omega
    have hnlt : n < M.length := by rw [hn]; exact Nat.lt_succ_self n
    have hen := hend n hn hnlt
    have cK : ∀ W, Calls Tryd.prog 10 #[.int .i64 which, .int .i64 (M.length : Int)] W fun e w' => e = .returned (.int .i64 (brg which M.length : Nat)) ∧ W = w' := fun W => bring_any which M.length W (by omega) (by omega)
    have hK := brg_lt which M.length (by omega)
    generalize brg which M.length = K at *
    have H2 := Lib.hid h2
    have HAT := Lib.hid hat
    have HCUT := Lib.hid hcutM
    have CK := Lib.hid cK
    have hn1 : ((M.length : Int) == 0) = false := by simp only [beq_eq_false_iff_ne, ne_eq]; omega
    have hn2 : IntKind.i64.wrap ((M.length : Int) - 1) = (n : Int) := by rw [show (M.length : Int) - 1 = (n : Int) by omega]; exact IntWalk.i64_in _ (by omega)
    have hn3 : (n : Int) < (M.length : Int) := by omega
    have HNM := Lib.hid (show n ≤ 1000000 by omega)
    have hnA : n + 1 ≤ M.length := by omega
    have hnB : M.length ≤ n + 1 := by omega
    have hn0 : 0 < M.length := by omega
    clear h1 h2 hat hend hcutM hwa hcut hok hup hfew hM hMl hlf hpos cK hR hn
    go_enter Tryd.func4, Tryd.ntmps4
    go_wp2_with fail
    refine (H2.out).mono ?_
    rintro e w1 ⟨v1, rfl, ho1, hb1⟩
    have HR := Lib.hid (Sm1.mk (w := w) ho1.rd hb1 (Nat.le_refl _))
    obtain ⟨A1, c1, rfl, _, _, _⟩ := ho1.rd
    clear ho1 hb1
    obtain ⟨g, o, rfl, _, hlc, hcs⟩ := HR.out.o1.cells (by omega)
    obtain ⟨q0, q1, q2, q3⟩ := hcs n hnlt
    rw [hen] at q0 q1 q2 q3
    clear hcs hen
    go_wp2_with fail
    clear q0 q1 q2 q3 hn1 hn2 hn3
    have hnm := HNM.out
    go_loopg [8, 9] n (fun ms v8 v9 wr => ∃ i : Nat, i ≤ n ∧ ms = n - i ∧ v8 = .int .i64 i ∧ Sm1 w wr M w1.heap.size (.slice (some ⟨g, o, none⟩) M.length c1))
    case atStart => exact ⟨0, by omega, rfl, rfl, HR.out⟩
    case round =>
      obtain ⟨i, hi, rfl, rfl, hr⟩ := hrel
      have HRR := Lib.hid hr
      by_cases hil : i < n
      · have hil' : (i : Int) + 1 < (M.length : Int) := by omega
        have hil2 : (i : Int) < (M.length : Int) := by omega
        have e4 : ((i : Int) + 1).toNat = i + 1 := by omega
        obtain ⟨g', o', he, _, _, hcs⟩ := hr.o1.cells (by omega)
        simp only [Option.some.injEq, Addr.mk.injEq, and_true] at he
        obtain ⟨rfl, rfl⟩ := he
        obtain ⟨p0, p1, p2, p3⟩ := hcs i (by omega)
        obtain ⟨r0, r1, r2, r3⟩ := hcs (i + 1) (by omega)
        obtain ⟨hlt, ⟨p, hp, hps, ht⟩, hk0⟩ := HAT.out i (by omega)
        rw [hp] at p1 hlt
        generalize hy : M[i] = y at *
        generalize hz : M[i + 1] = z at *
        have hnz : ¬ z.p ≤ (p : Int) := by omega
        have hp0 : (0 : Int) ≤ (p : Int) := by omega
        have hp1 : (p : Int) + 1 ≤ (s.size : Int) := by omega
        have hk0' : (y.k == 0) = false := by simpa using hk0
        clear hr hcs hy hz r0 r2 r3 p3
        have d1 : decide (z.p ≤ (p : Int)) = false := by simpa using hnz
        have d2 : decide ((p : Int) < 0) = false := by simp
        have w7 : IntKind.i64.wrap ((i : Int) + 1) = (i : Int) + 1 := IntWalk.i64_in _ (by omega)
        have w5 : IntKind.i64.wrap ((s.size : Int) - (p : Int)) = (s.size : Int) - (p : Int) := IntWalk.i64_in _ (by omega)
        have w8 : IntKind.i64.wrap ((p : Int) + 1) = (p : Int) + 1 := IntWalk.i64_in _ (by omega)
        by_cases hk : y.k = 3
        · have hk' : (y.k == 3) = true := by simpa using hk
          obtain ⟨T, hT⟩ : ∃ T, s.extract p (p + 1) = T := ⟨_, rfl⟩
          have hTs : T.size = 1 := by rw [← hT]; simp [ByteArray.size_extract]; omega
          have hT2 : s.extract p (p + T.size) = T := by rw [hTs]; exact hT
          have hne : ¬ T.toList = [] := by
            intro h
            rw [Lib.toList_data] at h
            have h5 : T.data.toList.length = T.size := by simp
            rw [h] at h5
            simp at h5
            omega
          have he1 : (T.toList == []) = false := by simpa using hne
          have he2 : T.toList.isEmpty = false := by simpa using hne
          have hp2 : (p : Int) + (T.size : Int) ≤ (s.size : Int) := by omega
          have d3 : decide ((s.size : Int) - (p : Int) < (T.size : Int)) = false := by simp; omega
          have w6 : IntKind.i64.wrap ((p : Int) + (T.size : Int)) = (p : Int) + (T.size : Int) := IntWalk.i64_in _ (by omega)
          have e5 : ((p : Int) + (T.size : Int)).toNat = p + T.size := by omega
          have e6 : ((p : Int) + 1).toNat = p + 1 := by omega
          have HTS := Lib.hid hTs
          clear ht hTs
          go_wp2_with fail
          go_quiet (fail)
          go_wp2_with fail
          clear hT
          go_quiet (fail)
          go_wp2_with fail
          go_roundg (n - (i + 1))
          case measure => omega
          case rel => exact ⟨i + 1, by omega, rfl, by go_num, by first | exact HRR.out | exact HRR.out.drewN _ | exact (HRR.out.drewN _).drewN _⟩
        · have hk' : (y.k == 3) = false := by simpa using hk
          obtain ⟨ht0, ht1, ht2⟩ := ht hk
          generalize y.t = T at *
          have hne : ¬ T.toList = [] := by
            intro h
            rw [Lib.toList_data] at h
            have h5 : T.data.toList.length = T.size := by simp
            rw [h] at h5
            simp at h5
            omega
          have he1 : (T.toList == []) = false := by simpa using hne
          have he2 : T.toList.isEmpty = false := by simpa using hne
          have hp2 : (p : Int) + (T.size : Int) ≤ (s.size : Int) := by omega
          have d3 : decide ((s.size : Int) - (p : Int) < (T.size : Int)) = false := by simp; omega
          have w6 : IntKind.i64.wrap ((p : Int) + (T.size : Int)) = (p : Int) + (T.size : Int) := IntWalk.i64_in _ (by omega)
          have e5 : ((p : Int) + (T.size : Int)).toNat = p + T.size := by omega
          clear ht
          go_wp2_with fail
          go_quiet (fail)
          go_wp2_with fail
          go_roundg (n - (i + 1))
          case measure => omega
          case rel => exact ⟨i + 1, by omega, rfl, by go_num, by first | exact HRR.out | exact HRR.out.drewN _⟩
      · obtain rfl : i = n := by omega
        have hex : ¬ (i : Int) + 1 < (M.length : Int) := by omega
        have w7 : IntKind.i64.wrap ((i : Int) + 1) = (i : Int) + 1 := IntWalk.i64_in _ (by omega)
        obtain ⟨q, hq, hqs, hc⟩ := HCUT.out wr (HE.out.below hr.b) K hK
        obtain ⟨g', o', he, _, _, hcs⟩ := hr.o1.cells (by omega)
        simp only [Option.some.injEq, Addr.mk.injEq, and_true] at he
        obtain ⟨rfl, rfl⟩ := he
        obtain ⟨p0, p1, p2, p3⟩ := hcs K hK
        rw [hq] at p1
        have hK' : (K : Int) < (M.length : Int) := by omega
        have hq' : (q : Int) ≤ (s.size : Int) := by omega
        have HC := Lib.hid hc
        clear hr hcs p0 p2 p3 hc hq
        go_wp2_with fail
        refine (CK.out _).mono ?_
        rintro e _ ⟨rfl, rfl⟩
        go_wp2_with fail
        refine (HC.out).mono ?_
        rintro e w3 ⟨v3, M2, rfl, ho3, hm2, hs2, hb3⟩
        have hrd3 := ho3.rd
        have HS2 := Lib.hid hs2
        have HR5 := Lib.hid (Sm2.mk (w := w) (HRR.out.o1.below hb3 HRR.out.le) hrd3 (HRR.out.b.trans (hb3.mono HRR.out.b.size)))
        obtain ⟨A3, c3, rfl, _, _, _⟩ := ho3.rd
        have hmA : K + 1 ≤ M2.length := by omega
        have e1 : ((M2.length : Int) != (K : Int) + 1) = false := by simp; omega
        clear ho3 hb3 hrd3 hs2 hm2
        go_wp2_with fail
        go_loopg [14] K (fun ms v wr => ∃ j : Nat, j ≤ K ∧ ms = K - j ∧ v = .int .i64 j ∧ Sm2 w wr M M2 w1.heap.size w3.heap.size (.slice (some ⟨g, o, none⟩) M.length c1) (.slice A3 M2.length c3))
        case atStart => exact ⟨0, by omega, rfl, rfl, HR5.out⟩
        case round =>
          obtain ⟨j, hj, rfl, rfl, hr⟩ := hrel
          have HR6 := Lib.hid hr
          by_cases hjl : j < K
          · have hj1 : (j : Int) < (K : Int) := by omega
            have hj2 : (j : Int) < (M.length : Int) := by omega
            have hj3 : (j : Int) < (M2.length : Int) := by omega
            obtain ⟨g', o', he, _, _, hcs⟩ := hr.o1.cells (by omega)
            simp only [Option.some.injEq, Addr.mk.injEq, and_true] at he
            obtain ⟨rfl, rfl⟩ := he
            obtain ⟨g2, o2, rfl, _, _, hcs2⟩ := hr.o2.cells (by omega)
            obtain ⟨p0, p1, p2, p3⟩ := hcs j (by omega)
            obtain ⟨r0, r1, r2, r3⟩ := hcs2 j (by omega)
            rw [HS2.out j hjl (by omega)] at r0 r1 r2 r3
            generalize M[j] = y at *
            clear hr hcs hcs2
            go_wp2_with fail
            go_quiet (fail)
            go_wp2_with fail
            go_roundg (K - (j + 1))
            case measure => omega
            case rel => exact ⟨j + 1, by omega, rfl, by go_num, HR6.out.drewN _⟩
          · obtain rfl : j = K := by omega
            clear hr
            go_wp2_with fail
            refine (lexWorks_any _ (HE.out.below HR6.out.b)).mono ?_
            rintro e w9 ⟨rfl, hb9⟩
            have HB9 := Lib.hid (HR6.out.b.trans (hb9.mono HR6.out.b.size))
            clear hb9
            go_wp2_with fail
            go_ret
            exact ⟨rfl, HB9.out⟩
end Go.Proofs.YtoineheocipmaaaDoor
