/-
  LexBlanks, walked.
-/
import Derived.Test.YtoineheocipmaaaGreatDoorLBack
import Derived.Test.YtoineheocipmaaaGreatDoorBrg
import Derived.Test.YtoineheocipmaaaGreatDoorRN
namespace Go.Proofs.YtoineheocipmaaaGreatDoor
open Go.RowKit
set_option linter.unusedVariables false
set_option linter.unusedSimpArgs false

/-- What is put in ahead of a word. -/
def padF (ns : List Int) (i : Nat) : List UInt8 := if ns.length = 0 then [32] else padM.getD (brg (ns.getD (i % ns.length) 0) 6) []
theorem padF_ok (ns : List Int) (i : Nat) : PadOk (padF ns i) ∧ (padF ns i).length ≤ 13 := by
  unfold padF
  split
  · exact ⟨pad_32, by decide⟩
  · exact pad_ok _ (brg_lt _ 6 (by omega))
theorem blL_len (f : Nat → List UInt8) (hf : ∀ i, (f i).length ≤ 13) (l : List Wi) (h : ∀ x ∈ l, WiOk x) : ∀ i, (blL f l i).length ≤ i * 215
  | 0 => by simp [blL]
  | i + 1 => by
    have ih := blL_len f hf l h i
    have h2 := hf i
    rw [blL]
    by_cases hi : i < l.length
    · rw [dif_pos hi]
      have h3 := spW_len l[i]
      have h4 := (h l[i] (List.getElem_mem hi)).few
      simp only [List.length_append]
      omega
    · rw [dif_neg hi]
      simp only [List.length_append, List.length_nil]
      omega
def padV : Array Value := #[.string ⟨#[32]⟩, .string ⟨#[10]⟩, .string ⟨#[9, 13, 10]⟩, .string ⟨#[32, 47, 47, 32, 39, 108, 101, 116, 32, 42, 47, 10]⟩, .string ⟨#[47, 42, 32, 47, 47, 32, 10, 32, 42, 42, 32, 42, 47]⟩, .string ⟨#[32, 47, 42, 42, 47, 47, 42, 42, 42, 47, 10]⟩]
theorem padV_at (i : Nat) (h : i < 6) : padV[i]? = some (.string ⟨(padM.getD i []).toArray⟩) := by
  obtain rfl | rfl | rfl | rfl | rfl | rfl : i = 0 ∨ i = 1 ∨ i = 2 ∨ i = 3 ∨ i = 4 ∨ i = 5 := by omega
  all_goals rfl
/-- What stands in memory while the text is made. -/
structure BlR (w : World) (L : List Wi) (ns : List Int) (h2 hn g6 : Nat) (u : Value) (An : Option Addr) (n c : Nat) (wr : World) : Prop where
  rd : RdI wr h2 u L
  ns : RdN wr hn An n c ns
  pads : Blk wr g6 9 padV
  bel : Below w.heap.size w wr
  le : h2 ≤ wr.heap.size ∧ hn ≤ wr.heap.size
theorem BlR.below {w : World} {L : List Wi} {ns : List Int} {h2 hn g6 n c : Nat} {u : Value} {An : Option Addr} {wr w' : World} (h : BlR w L ns h2 hn g6 u An n c wr) (hb : Below wr.heap.size wr w') : BlR w L ns h2 hn g6 u An n c w' :=
  ⟨h.rd.below hb h.le.1, h.ns.below hb h.le.2, h.pads.below hb h.pads.lt, h.bel.trans (hb.mono h.bel.size), by have := hb.size; have := h.le; omega⟩
theorem one_word (L : List Wi) (i : Nat) (hi : i < L.length) (h : ∀ x ∈ L, WiOk x) : jL ((L.take (i + 1)).drop i) = spW L[i] := by
  have e : (L.take (i + 1)).drop i = [L[i]] := by
    rw [List.take_succ_eq_append_getElem hi, List.drop_append_of_le_length (by simp; omega)]
    simp
  rw [e]
  show jnA [] (spW L[i]) = _
  unfold jnA
  rw [if_neg (h _ (List.getElem_mem hi)).t.ne, if_pos rfl]
theorem words_alike {L : List Wi} {s : ByteArray} (hs : s.size ≤ 65536) (h : ∃ Ls, wordsR s = ⟨0, 0, Ls⟩ ∧ Alike L s.size Ls) :
    ∃ M : List Wi, M.length = L.length + 1 ∧ (∀ i (hi : i < L.length) (hi2 : i < M.length), ∃ p, M[i] = ⟨L[i].k, p, L[i].t, L[i].n⟩) ∧
      ∀ W, Env W → Calls Tryz.prog 13 #[.string s] W fun e w' => ∃ v, e = .returned (.tuple #[v, .int .i64 0, .int .i64 0]) ∧ OwnI w' W.heap.size v M ∧ Below W.heap.size W w' := by
  obtain ⟨Ls, hw, hal⟩ := h
  refine ⟨Ls.map Wd.i, alike_len hal, fun i hi hi2 => alike_same hal i hi hi2, fun W hW => ?_⟩
  have := words_any s W hW (by omega)
  rw [hw] at this
  refine this.mono ?_
  rintro e w' ⟨u, rfl, ho, hb⟩
  exact ⟨u, rfl, ho.i, hb⟩
theorem join_one {w : World} {L : List Wi} {ns : List Int} {h2 hn g6 n c g o c2 : Nat} {An : Option Addr} {W : World} (h : BlR w L ns h2 hn g6 (.slice (some ⟨g, o, none⟩) L.length c2) An n c W) (hok : ∀ x ∈ L, WiOk x) (i : Nat) (hi : i < L.length) (c' : Nat) (h1 : 1 ≤ c') (h3 : c' ≤ maxLen) :
    Calls Tryz.prog 18 #[.slice (some ⟨g, o + i * 4, none⟩) 1 c'] W (StrP W (spW L[i])) := by
  have hs := h.rd.sub i (i + 1) (by omega) (by omega) c' (by omega) h3
  rw [show i + 1 - i = 1 by omega] at hs
  have hl : ((L.take (i + 1)).drop i).length ≤ 200 := by simp; omega
  have := join_any _ h2 _ W hs h.le.1 hl (fun x hx => by have := (hok x (List.take_subset _ _ (List.drop_subset _ _ hx))).few; omega)
  rw [one_word L i hi hok] at this
  exact this
set_option maxRecDepth 100000 in
set_option maxHeartbeats 2000000 in
theorem blanks_any (l : List Sd) (v : Value) (ns : List Int) (An : Option Addr) (nn nc : Nat) (w : World) (hE : Env w) (hv : RdS w w.heap.size v l) (hns : RdN w w.heap.size An nn nc ns) :
    Calls Tryz.prog 5 #[v, .slice An nn nc] w fun e w' => e = .returned (.bool true) ∧ Below w.heap.size w w' := by
  have hok := rowS_ok l
  have hlen := rowS_len l
  have hrow := row_any l w.heap.size v w hv (Nat.le_refl _)
  generalize rowS l = L at *
  have HPF := Lib.hid (padF_ok ns)
  have hbl := blL_len (padF ns) (fun i => (padF_ok ns i).2) L hok
  obtain ⟨hnl, hnc1, hnc2, _⟩ := id hns
  have HE := Lib.hid hE
  have HNS := Lib.hid hns
  have HROW := Lib.hid hrow
  have HOK := Lib.hid hok
  have HBL := Lib.hid hbl
  clear hE hv hns hrow hok hbl
  go_enter Tryz.func5, Tryz.ntmps5
  go_wp2_with fail
  refine (HROW.out).mono ?_
  rintro e w2 ⟨u, rfl, ho2, hb2⟩
  have HRD2 := Lib.hid ho2.rd
  have HB2 := Lib.hid hb2
  obtain ⟨A2, c2, rfl, hlc2, hcm2, _⟩ := ho2.rd
  have HCM := Lib.hid hcm2
  clear hcm2
  have hst : BlR w L ns w2.heap.size w.heap.size w2.heap.size (.slice A2 L.length c2) An nn nc (w2.alloc (.cells padV 9)) := by
    have hb := (Below.refl w2.heap.size w2).alloc (Nat.le_refl _) (.cells padV 9)
    exact ⟨HRD2.out.below hb (Nat.le_refl _), (HNS.out.below HB2.out (Nat.le_refl _)).below hb (HB2.out.size), Blk.new w2 9 _, HB2.out.trans (hb.mono HB2.out.size), by have := HB2.out.size; simp; omega⟩
  have HST := Lib.hid hst
  unfold padV at hst
  clear ho2 hb2 hst
  go_wp2_with fail
  go_loopg [7, 8, 9] (L.length + 1) (fun g v7 v8 v9 wr => ∃ (i : Nat) (t : ByteArray), i ≤ L.length + 1 ∧ g = L.length + 1 - i ∧ v7 = .string t ∧ v8 = .int .i64 i ∧ t.data.toList = blL (padF ns) L i ∧ BlR w L ns w2.heap.size w.heap.size w2.heap.size (.slice A2 L.length c2) An nn nc wr)
  case atStart => exact ⟨0, ⟨#[]⟩, by omega, rfl, rfl, rfl, rfl, HST.out⟩
  case round =>
    obtain ⟨i, t, hi, rfl, rfl, rfl, ht, hr⟩ := hrel
    have HR := Lib.hid hr
    have HT := Lib.hid ht
    clear hr ht
    by_cases hil : i ≤ L.length
    · have hil' : (i : Int) ≤ (L.length : Int) := by omega
      have hbl := HBL.out i
      rw [← HT.out] at hbl
      have htl : t.size ≤ 60000 := by
        have h1 : t.data.toList.length = t.size := by simp
        omega
      obtain ⟨_, hpl⟩ := HPF.out i
      obtain ⟨P, hP⟩ : ∃ P : ByteArray, P = ⟨(padF ns i).toArray⟩ := ⟨_, rfl⟩
      have hPl : P.size ≤ 13 := by rw [hP]; exact hpl
      obtain ⟨T1, hA1, hT1⟩ := str_add t P (by omega)
      have hT1l : T1.size ≤ 70000 := by
        have h1 : T1.data.toList.length = T1.size := by simp
        rw [hT1] at h1
        have h2 : t.data.toList.length = t.size := by simp
        have h3 : P.data.toList.length = P.size := by simp
        rw [List.length_append] at h1
        omega
      rw [HT.out, hP] at hT1
      clear hbl hpl
      by_cases hn0 : nn = 0
      · have hP2 : P = ⟨#[32]⟩ := by rw [hP]; unfold padF; rw [if_pos (by omega)]
        subst hP2
        subst hn0
        clear hP
        by_cases hlt : i < L.length
        · obtain ⟨g2, o2, rfl, _, hlc2, _⟩ := HR.out.rd.cells (by omega)
          have hj := fun c' h1 h3 => join_one HR.out HOK.out i hlt c' h1 h3
          unfold StrP at hj
          have hspl := spW_len L[i]
          have hfew := (HOK.out L[i] (List.getElem_mem hlt)).few
          obtain ⟨S, hS⟩ : ∃ S : ByteArray, S = ⟨(spW L[i]).toArray⟩ := ⟨_, rfl⟩
          have hSl : S.size ≤ 300 := by rw [hS]; show (spW L[i]).length ≤ 300; omega
          obtain ⟨T2, hA2, hT2⟩ := str_add T1 S (by omega)
          have HT2 := Lib.hid (show T2.data.toList = blL (padF ns) L (i + 1) by rw [hT2, hT1, hS, blL, dif_pos hlt])
          have HJ := Lib.hid hj
          have HSP := Lib.hid hS
          have hlt' : (i : Int) < (L.length : Int) := by omega
          have hle1 : (i : Int) + 1 ≤ (c2 : Int) := by omega
          have hcm2 : c2 ≤ maxLen := HCM.out
          clear hj hspl hfew hS hT2 hT1
          go_wp2_with fail
          refine (HJ.out _ (by omega) (by omega)).mono ?_
          rintro e w5 ⟨rfl, hb5⟩
          have HF := Lib.hid (HR.out.below hb5)
          rw [← HSP.out]
          clear hb5
          go_wp2_with fail
          go_roundg (L.length + 1 - (i + 1))
          case measure => omega
          case rel => exact ⟨i + 1, T2, by omega, rfl, rfl, by go_num, HT2.out, HF.out⟩
        · have hlt' : ¬ (i : Int) < (L.length : Int) := by omega
          have HT1 := Lib.hid (show T1.data.toList = blL (padF ns) L (i + 1) by rw [hT1, blL, dif_neg hlt, List.append_nil])
          clear hT1
          go_wp2_with fail
          go_roundg (L.length + 1 - (i + 1))
          case measure => omega
          case rel => exact ⟨i + 1, T1, by omega, rfl, rfl, by go_num, HT1.out, HR.out⟩
      · have hnp : 0 < nn := by omega
        obtain ⟨gn, on, rfl, _, hcn⟩ := HR.out.ns.2.2.2 hnp
        have hq0 : (i : Int).tmod (nn : Int) = ((i % nn : Nat) : Int) := rfl
        have hq1 : i % nn < nn := Nat.mod_lt _ hnp
        have hPd : padF ns i = padM.getD (brg (ns.getD (i % nn) 0) 6) [] := by unfold padF; rw [if_neg (by omega), hnl]
        generalize i % nn = q at *
        have hcq := hcn q (by omega)
        have hgd : ns.getD q 0 = ns[q]'(by omega) := by simp [List.getD, List.getElem?_eq_getElem (show q < ns.length by omega)]
        rw [hgd] at hPd
        generalize ns[q]'(by omega) = z at *
        have hbr := fun W => bringK z W (brg z 6 : Nat) rfl
        have hj6 := brg_lt z 6 (by omega)
        have hpv := padV_at (brg z 6) hj6
        rw [← hPd, ← hP] at hpv
        generalize brg z 6 = J at *
        have hcp : wr.cell? ⟨w2.heap.size, J, none⟩ = some (.string P) := (HR.out.pads.cell J).trans hpv
        have HBR := Lib.hid hbr
        have hn1 : (0 : Int) < (nn : Int) := by omega
        have hn2 : ((nn : Int) == 0) = false := by simp; omega
        have hq2 : (q : Int) < (nn : Int) := by omega
        have hj7 : (J : Int) < 6 := by omega
        have w1 : IntKind.i64.wrap (q : Int) = (q : Int) := IntWalk.i64_in _ (by unfold maxLen at hnc2; omega)
        clear hcn hgd hbr hpv hPd hP
        by_cases hlt : i < L.length
        · obtain ⟨g2, o2, rfl, _, hlc2, _⟩ := HR.out.rd.cells (by omega)
          have hj := fun c' h1 h3 => join_one HR.out HOK.out i hlt c' h1 h3
          unfold StrP at hj
          have hspl := spW_len L[i]
          have hfew := (HOK.out L[i] (List.getElem_mem hlt)).few
          obtain ⟨S, hS⟩ : ∃ S : ByteArray, S = ⟨(spW L[i]).toArray⟩ := ⟨_, rfl⟩
          have hSl : S.size ≤ 300 := by rw [hS]; show (spW L[i]).length ≤ 300; omega
          obtain ⟨T2, hA2, hT2⟩ := str_add T1 S (by omega)
          have HT2 := Lib.hid (show T2.data.toList = blL (padF ns) L (i + 1) by rw [hT2, hT1, hS, blL, dif_pos hlt])
          have HJ := Lib.hid hj
          have HSP := Lib.hid hS
          have hlt' : (i : Int) < (L.length : Int) := by omega
          have hle1 : (i : Int) + 1 ≤ (c2 : Int) := by omega
          have hcm2 : c2 ≤ maxLen := HCM.out
          clear hj hspl hfew hS hT2 hT1
          go_wp2_with fail
          refine (HBR.out _).mono ?_
          rintro e _ ⟨rfl, rfl⟩
          go_wp2_with fail
          refine (HJ.out _ (by omega) (by omega)).mono ?_
          rintro e w5 ⟨rfl, hb5⟩
          have HF := Lib.hid (HR.out.below hb5)
          rw [← HSP.out]
          clear hb5
          go_wp2_with fail
          go_roundg (L.length + 1 - (i + 1))
          case measure => omega
          case rel => exact ⟨i + 1, T2, by omega, rfl, rfl, by go_num, HT2.out, HF.out⟩
        · have hlt' : ¬ (i : Int) < (L.length : Int) := by omega
          have HT1 := Lib.hid (show T1.data.toList = blL (padF ns) L (i + 1) by rw [hT1, blL, dif_neg hlt, List.append_nil])
          clear hT1
          go_wp2_with fail
          refine (HBR.out _).mono ?_
          rintro e _ ⟨rfl, rfl⟩
          go_wp2_with fail
          go_roundg (L.length + 1 - (i + 1))
          case measure => omega
          case rel => exact ⟨i + 1, T1, by omega, rfl, rfl, by go_num, HT1.out, HR.out⟩
    · obtain rfl : i = L.length + 1 := by omega
      have hil' : ¬ ((L.length + 1 : Nat) : Int) ≤ (L.length : Int) := by omega
      have hbl := HBL.out (L.length + 1)
      rw [← HT.out] at hbl
      have htl : t.size ≤ 60000 := by
        have h1 : t.data.toList.length = t.size := by simp
        omega
      obtain ⟨T, hA, hT⟩ := str_add t ⟨#[47, 47]⟩ (by show t.size + 2 ≤ _; omega)
      have hTl : T.size ≤ 65536 := by
        have h1 : T.data.toList.length = T.size := by simp
        rw [hT] at h1
        have h2 : t.data.toList.length = t.size := by simp
        simp only [List.length_append, List.length_cons, List.length_nil] at h1
        omega
      obtain ⟨M, hM1, hM2, hM3⟩ := words_alike hTl (blank_words (padF ns) (fun i => (HPF.out i).1) HOK.out hTl (by rw [hT, HT.out]))
      have HW := Lib.hid hM3
      have HSAME := Lib.hid hM2
      have HB := Lib.hid HR.out.bel
      have HRD := Lib.hid HR.out.rd
      have HLE := Lib.hid HR.out.le.1
      clear hbl htl hT hM2 hM3
      go_wp2_with fail
      refine (HW.out _ (HE.out.below HB.out)).mono ?_
      rintro e w4 ⟨v4, rfl, ho4, hb4⟩
      have HRD4 := Lib.hid ho4.rd
      obtain ⟨A4, c4, rfl, _, _, _⟩ := ho4.rd
      have HR5 := Lib.hid (Sm2.mk (w := w) (HRD.out.below hb4 HLE.out) HRD4.out (HB.out.trans (hb4.mono HB.out.size)))
      clear ho4 hb4
      obtain ⟨g4, o4, rfl, _, hc4, _⟩ := HRD4.out.cells (by omega)
      have e1 : ((M.length : Int) != (L.length : Int) + 1) = false := by simp; omega
      go_wp2_with fail
      clear e1
      go_loopg [13] L.length (fun g v wr => ∃ i : Nat, i ≤ L.length ∧ g = L.length - i ∧ v = .int .i64 i ∧ Sm2 w wr L M w2.heap.size w4.heap.size (.slice A2 L.length c2) (.slice (some ⟨g4, o4, none⟩) M.length c4))
      case atStart => exact ⟨0, by omega, rfl, rfl, HR5.out⟩
      case round =>
        obtain ⟨i, hi, rfl, rfl, hr⟩ := hrel
        have HRR := Lib.hid hr
        by_cases hil : i < L.length
        · obtain ⟨g, o, rfl, _, hlc, hcs⟩ := hr.o1.cells (by omega)
          obtain ⟨g', o', he, _, hlc2, hcs2⟩ := hr.o2.cells (by omega)
          simp only [Option.some.injEq, Addr.mk.injEq, and_true] at he
          obtain ⟨rfl, rfl⟩ := he
          obtain ⟨p0, p1, p2, p3⟩ := hcs i hil
          obtain ⟨q0, q1, q2, q3⟩ := hcs2 i (by omega)
          obtain ⟨pp, hpp⟩ := HSAME.out i hil (by omega)
          rw [hpp] at q0 q1 q2 q3
          have hil' : (i : Int) < (L.length : Int) := by omega
          have him' : (i : Int) < (M.length : Int) := by omega
          generalize hx : L[i] = x at *
          clear hr hcs hcs2 hpp
          go_wp2_with fail
          go_quiet (fail)
          go_wp2_with fail
          go_roundg (L.length - (i + 1))
          case measure => omega
          case rel => exact ⟨i + 1, by omega, rfl, by go_num, HRR.out.drewN _⟩
        · obtain rfl : i = L.length := by omega
          clear hr
          go_wp2_with fail
          refine (lexWorks_any _ (HE.out.below HRR.out.b)).mono ?_
          rintro e w9 ⟨rfl, hb9⟩
          have HB9 := Lib.hid (HRR.out.b.trans (hb9.mono HRR.out.b.size))
          clear hb9
          go_wp2_with fail
          go_ret
          exact ⟨rfl, HB9.out⟩
end Go.Proofs.YtoineheocipmaaaGreatDoor
