/-
  TextValid, walked.
-/
import Derived.Test.YtjophmgpknpboaaDoorLTidy
import Derived.Test.YtjophmgpknpboaaDoorUtfMore
namespace Go.Proofs.YtjophmgpknpboaaDoor
open Go.RowKit
set_option linter.unusedVariables false
set_option linter.unusedSimpArgs false

set_option maxRecDepth 100000 in
set_option maxHeartbeats 1000000 in
theorem valid_bad {w : World} {n c k : Nat} {A : Option Addr} {L : List UInt8} (m : Int) (hL : Bs w 0 w.heap.size A k c L) (hk : k ≤ 200) (hnn : n ≤ 9223372036854775807) (hmin : min (n : Int) 200 = (k : Int)) (hkc : k ≤ c) (hm : w.cell? ⟨0, 0, none⟩ = some (.int .i64 m)) (hbad : 0 ≤ bkL 0 L) :
    Calls Tryd.prog 7 #[.slice A n c] w fun e w' => e = .returned (.bool true) ∧ Below w.heap.size w w' := by
  have h0 : 0 < w.heap.size := World.block_lt_of_cell? w _ hm
  have hM : ∀ W, Below w.heap.size w W → W.cell? ⟨0, 0, none⟩ = some (.int .i64 m) := fun W h => (h.cell (p := ⟨0, 0, none⟩) h0).trans hm
  have HM := Lib.hid hM
  have hkl := hL.len
  have hcap := hL.cap
  unfold maxLen at hcap
  obtain ⟨j, hj, hjl, htake, hdrop⟩ := bk_cut L.length L 0 _ (Nat.le_refl _) rfl hbad
  obtain ⟨b, o, rfl, hb0, hb1, hcells⟩ := hL.at_ (by omega)
  clear hcells
  have hru := runes_any hL (by omega)
  have e1 : rusR L = (20, (j : Int), []) := by unfold rusR; rw [if_pos hbad, hj]; simp
  rw [e1] at hru
  have hv : ∀ W, Below w.heap.size w W → Calls Tryd.prog 19 #[.slice (some ⟨b, o, none⟩) j c] W fun e w' => e = .returned (.bool true) ∧ Below W.heap.size W w' := by
    intro W h
    have := valid_any ((hL.below h (Nat.le_refl _)).pre (k := j) (by omega)) (by omega)
    rw [htake] at this
    exact this
  have hno : ∀ W q, Below w.heap.size w W → 1 ≤ q → j + q ≤ k → Calls Tryd.prog 19 #[.slice (some ⟨b, o + j, none⟩) q (c - j)] W fun e w' => e = .returned (.bool false) ∧ Below W.heap.size W w' := by
    intro W q h h1 h2
    have := valid_any ((hL.below h (Nat.le_refl _)).mid (K := j) (m := q) (by omega)) (by omega)
    have hn := not_ok_take (L.drop j) hdrop q h1 (by simp; omega)
    have e : decide (bkL 0 ((L.drop j).take q) < 0) = false := by simp; omega
    rw [e] at this
    exact this
  have HRU := Lib.hid hru
  have HV := Lib.hid hv
  have HNO := Lib.hid hno
  have hjk : j < k := by omega
  have f1 : (0 : Int) ≤ (j : Int) := by omega
  have f2 : ¬ (j : Int) < 0 := by omega
  have f3 : ¬ (k : Int) ≤ (j : Int) := by omega
  have f4 : (j : Int) ≤ (c : Int) := by omega
  have f5 : (k : Int) ≤ (c : Int) := by omega
  have f6 : (0 : Int) ≤ (k : Int) := by omega
  have f7 : ¬ c = 0 := by omega
  have f8 : decide (k ≤ j) = false := by simp; omega
  have f9 : decide ((j : Int) < 0) = false := by simp
  clear hj htake hdrop e1 hru hv hno hm hM hbad hL hkl
  go_enter Tryd.func7, Tryd.ntmps7
  go_wp2_with fail
  refine HRU.out.mono ?_
  rintro e w1 ⟨v1, rfl, ho1, hb1'⟩
  obtain ⟨A1, c1, rfl, _⟩ := OwnI.is ho1
  have HB := Lib.hid hb1'
  clear ho1 hb1'
  go_wp2_with fail
  refine (HV.out _ HB.out).mono ?_
  rintro e w2 ⟨rfl, hb2⟩
  replace HB := Lib.hid (HB.out.trans (hb2.mono HB.out.size))
  clear hb2
  go_wp2_with fail
  go_loopw [6] (fun q wr => ∃ i : Nat, q = .int .i64 i ∧ 1 ≤ i ∧ i ≤ 5 ∧ Below w.heap.size w wr) (fun q _ => 5 - (intOf q).toNat)
  case atStart => exact ⟨1, rfl, by omega, by omega, HB.out⟩
  case round =>
    obtain ⟨i, rfl, hi1, hi5, hbw⟩ := hrel
    have HBW := Lib.hid hbw
    clear hbw HB
    by_cases hin : i ≤ 4 ∧ j + i ≤ k
    · obtain ⟨hi4, hjik⟩ := hin
      have g1 : (i : Int) ≤ 4 := by omega
      have g2 : (j : Int) + (i : Int) ≤ (k : Int) := by omega
      have g3 : (j : Int) + (i : Int) ≤ (c : Int) := by omega
      have g4 : (j : Int) ≤ (j : Int) + (i : Int) := by omega
      have g5 : ¬ c = j := by omega
      have g6 : ((j : Int) + (i : Int) - (j : Int)).toNat = i := by omega
      go_wp2_with fail
      refine (HNO.out _ _ HBW.out hi1 hjik).mono ?_
      rintro e w3 ⟨rfl, hb3⟩
      have HB3 := Lib.hid (HBW.out.trans (hb3.mono HBW.out.size))
      clear hb3
      go_wp2_with fail
      go_roundw
      case rel => exact ⟨i + 1, by go_num, by omega, by omega, HB3.out⟩
      case measure => simp [intOf]; omega
    · have hout : ¬ (i : Int) ≤ 4 ∨ ((i : Int) ≤ 4 ∧ ¬ (j : Int) + (i : Int) ≤ (k : Int)) := by omega
      clear hin
      rcases hout with g | ⟨g, g'⟩
      all_goals
        go_wp2_with fail
        refine (works_any _ m (HM.out _ HBW.out)).mono ?_
        rintro e w3 ⟨rfl, hb3⟩
        have HB3 := Lib.hid (HBW.out.trans (hb3.mono HBW.out.size))
        clear hb3
        go_wp2_with fail
        go_ret
        exact ⟨rfl, HB3.out⟩

set_option maxRecDepth 100000 in
set_option maxHeartbeats 1000000 in
theorem valid_good {w : World} {n c k : Nat} {A : Option Addr} {L : List UInt8} (m : Int) (hL : Bs w 0 w.heap.size A k c L) (hk : k ≤ 200) (hnn : n ≤ 9223372036854775807) (hmin : min (n : Int) 200 = (k : Int)) (hkc : k ≤ c) (hm : w.cell? ⟨0, 0, none⟩ = some (.int .i64 m)) (hgood : bkL 0 L < 0) :
    Calls Tryd.prog 7 #[.slice A n c] w fun e w' => e = .returned (.bool true) ∧ Below w.heap.size w w' := by
  have h0 : 0 < w.heap.size := World.block_lt_of_cell? w _ hm
  have hM : ∀ W, Below w.heap.size w W → W.cell? ⟨0, 0, none⟩ = some (.int .i64 m) := fun W h => (h.cell (p := ⟨0, 0, none⟩) h0).trans hm
  have HM := Lib.hid hM
  have hkl := hL.len
  have hcap := hL.cap
  unfold maxLen at hcap
  obtain ⟨hen, hrn⟩ := encs_rn L.length L 0 (Nat.le_refl _) hgood
  have hlen : (rnL L).length ≤ 200 := by have := rnL_len L.length L; unfold rnL; omega
  have hru := runes_any hL (by omega)
  have e1 : rusR L = (0, 0, rnL L) := by unfold rusR; rw [if_neg (by omega)]
  rw [e1] at hru
  obtain ⟨rs, hrs⟩ : ∃ rs, rnL L = rs := ⟨_, rfl⟩
  rw [hrs] at hru hen hrn hlen
  have HRU := Lib.hid hru
  have HEN := Lib.hid hen
  have HRN := Lib.hid hrn
  have HL := Lib.hid hL
  have HKL := Lib.hid hkl
  have f5 : (k : Int) ≤ (c : Int) := by omega
  have f6 : (0 : Int) ≤ (k : Int) := by omega
  clear hrs hen hrn e1 hru hm hM hgood hL hkl
  go_enter Tryd.func7, Tryd.ntmps7
  go_wp2_with fail
  refine HRU.out.mono ?_
  rintro e w1 ⟨v1, rfl, ho1, hb1⟩
  obtain ⟨A1, c1, rfl, hI1⟩ := OwnI.is ho1
  have HB := Lib.hid hb1
  have OI := Lib.hid hI1
  have hs1 := hb1.size
  clear ho1 hb1 hI1
  go_wp2_with fail
  go_loopw [7, 8] (fun v q wr => ∃ i : Nat, q = .int .i64 i ∧ i ≤ rs.length ∧ Own wr w.heap.size v (encs (rs.take i)) ∧ Below w1.heap.size w1 wr) (fun _ q _ => rs.length - (intOf q).toNat)
  case atStart => exact ⟨0, rfl, by omega, Own.nil _ _, Below.refl _ _⟩
  case round =>
    obtain ⟨i, rfl, hi, hown, hbw⟩ := hrel
    have HBW := Lib.hid hbw
    have HO := Lib.hid hown
    have hel := encs_len (rs.take i)
    simp only [List.length_take] at hel
    have hel2 : (encs (rs.take i)).length ≤ 800 := by omega
    clear hel
    obtain ⟨A2, c2, rfl, hB2⟩ := hown.bs
    clear hB2
    have hsw := hbw.size
    by_cases hlt : i < rs.length
    · have hlt' : (i : Int) < (rs.length : Int) := by omega
      have hi0 : (0 : Int) ≤ (i : Int) := by omega
      obtain ⟨b, o, rfl, _, hb1, hcells⟩ := OI.out.2.2.2 (by show 0 < rs.length; omega)
      have hc : wr.cell? ⟨b, o + i, none⟩ = some (.int .i64 rs[i]) := (hbw.cell (p := ⟨b, o + i, none⟩) hb1).trans (hcells i hlt)
      have htk : rs.take (i + 1) = rs.take i ++ [rs[i]] := List.take_succ_eq_append_getElem hlt
      have hr := HRN.out rs[i] (List.getElem_mem _)
      have hru := rune_any rs[i] (HO.out.toBs) (Nat.le_refl _) (by omega)
      have e1 : ruR (encs (rs.take i)) rs[i] = (0, encs (rs.take (i + 1))) := by unfold ruR; rw [hr, if_pos rfl, htk, encs_snoc]
      rw [e1] at hru
      have HU := Lib.hid hru
      clear hcells htk hr hru e1 hbw hown
      go_wp2_with fail
      refine HU.out.mono ?_
      rintro e w2 ⟨v2, rfl, ho2, hb2⟩
      have O2 := Lib.hid (ho2.base_ (base' := w.heap.size) (by omega))
      have B2 := Lib.hid (HBW.out.trans (hb2.mono hsw))
      clear ho2 hb2
      go_wp2_with fail
      go_roundw
      case rel => exact ⟨i + 1, by go_num, by omega, O2.out, B2.out⟩
      case measure => simp [intOf]; omega
    · have hlt' : ¬ (i : Int) < (rs.length : Int) := by omega
      have hfull : encs (rs.take i) = L := by rw [List.take_of_length_le (by omega), HEN.out]
      have hB3 : Below w.heap.size w wr := HB.out.trans (hbw.mono hs1)
      have heq := eqb_any (HO.out.toBs) (HL.out.below hB3 (Nat.le_refl _))
      have e2 : (encs (rs.take i) == L) = true := by rw [hfull]; simp
      rw [e2] at heq
      have HEQ := Lib.hid heq
      have HB3 := Lib.hid hB3
      clear hfull hB3 heq e2 hbw hown
      go_wp2_with fail
      refine HEQ.out.mono ?_
      rintro e _ ⟨rfl, rfl⟩
      go_wp2_with fail
      refine (works_any _ m (HM.out _ HB3.out)).mono ?_
      rintro e w3 ⟨rfl, hb3⟩
      have HB4 := Lib.hid (HB3.out.trans (hb3.mono HB3.out.size))
      clear hb3
      go_wp2_with fail
      go_ret
      exact ⟨rfl, HB4.out⟩

theorem tvalid_any {w : World} {n c : Nat} {A : Option Addr} {l : List UInt8} (m : Int) (hB : Bs w 0 w.heap.size A n c l) (hm : w.cell? ⟨0, 0, none⟩ = some (.int .i64 m)) :
    Calls Tryd.prog 7 #[.slice A n c] w fun e w' => e = .returned (.bool true) ∧ Below w.heap.size w w' := by
  have cc := hB.cap
  have nn := hB.le
  unfold maxLen at cc
  obtain ⟨k, L, hk, hL, hmin, hkc⟩ := cut_bs 200 hB
  by_cases h : 0 ≤ bkL 0 L
  · exact valid_bad m hL hk (by omega) hmin hkc hm h
  · exact valid_good m hL hk (by omega) hmin hkc hm (by omega)
end Go.Proofs.YtjophmgpknpboaaDoor
