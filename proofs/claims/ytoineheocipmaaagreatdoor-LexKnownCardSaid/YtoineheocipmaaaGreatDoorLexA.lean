/-
  lex: letters, pieces, runs.
-/
import Derived.Test.YtoineheocipmaaaGreatDoorKeys
import Derived.Deep.QuietTactic
import Derived.BigQuiet
import Derived.StillTailTactics
import Derived.Deep.DeepCutAuto
import Derived.Deep.RegionHeld3
import Derived.Outline
namespace Go.Proofs.YtoineheocipmaaaGreatDoor
open Go.RowKit
set_option linter.unusedVariables false
set_option linter.unusedSimpArgs false

theorem Below.drewN_ {B : Nat} {a w : World} (h : Below B a w) (m : Nat) : Below B a (w.drewN m) := ⟨h.os, h.tape, h.output, h.size, h.block⟩
/-- May an identifier begin with it? -/
def ltZ (c : Int) : Bool := loZ c || upZ c || (c == 95)
/-- A letter, a digit, or an underscore. -/
def wdZ (c : Int) : Bool := ltZ c || dgZ c
theorem startsIdent_any (c : Int) (w : World) : Calls Tryz.prog 148 #[.int .u8 c] w fun e w' => e = .returned (.bool (ltZ c)) ∧ w = w' := by
  have hz : ltZ c = ((decide (97 ≤ c) && decide (c ≤ 122)) || (decide (65 ≤ c) && decide (c ≤ 90)) || (c == 95)) := rfl
  rcases (show (97 ≤ c ∧ c ≤ 122) ∨ (65 ≤ c ∧ c ≤ 90) ∨ c = 95 ∨ c < 65 ∨ (90 < c ∧ c < 95) ∨ c = 96 ∨ 122 < c by omega) with ⟨h, h'⟩ | ⟨h, h'⟩ | h | h | ⟨h, h'⟩ | h | h
  · obtain hb : ltZ c = true := by rw [hz]; simp [h, h']
    rw [hb]
    clear hz hb
    go_enter Tryz.func148, Tryz.ntmps148
    go_wp2_with fail
    go_ret
    exact ⟨rfl, rfl⟩
  · obtain hb : ltZ c = true := by rw [hz]; simp [h, h']
    rw [hb]
    clear hz hb
    go_enter Tryz.func148, Tryz.ntmps148
    go_wp2_with fail
    go_ret
    exact ⟨rfl, rfl⟩
  · subst h
    clear hz
    go_enter Tryz.func148, Tryz.ntmps148
    go_wp2_with fail
    go_ret
    exact ⟨rfl, rfl⟩
  all_goals
    have hb : ltZ c = false := by rw [hz]; simp; omega
    have hq : (c == 95) = false := by simp; omega
    rw [hb]
    clear hz hb
    go_enter Tryz.func148, Tryz.ntmps148
    go_wp2_with fail
    go_ret
    refine ⟨?_, rfl⟩
    first | rfl | (simp; omega)
theorem lisDigit_any (c : Int) (w : World) : Calls Tryz.prog 151 #[.int .u8 c] w fun e w' => e = .returned (.bool (dgZ c)) ∧ w = w' := by
  by_cases h1 : 48 ≤ c <;> by_cases h2 : c ≤ 57
  all_goals
    go_enter Tryz.func151, Tryz.ntmps151
    go_wp2_with fail
    go_ret
    exact ⟨by simp [dgZ, h1, h2], rfl⟩
theorem clone_any (s : ByteArray) (w : World) (hlim : s.size ≤ 1000000) : Calls Tryz.prog 122 #[.string s] w fun e w' => e = .returned (.string s) ∧ Below w.heap.size w w' := by
  have H := Lib.hid (Tryz.stringslite_Clone s w (by omega))
  go_enter Tryz.func122, Tryz.ntmps122
  go_wp2_with fail
  refine (H.out).mono ?_
  rintro e w1 ⟨rfl, hb⟩
  have HB := Lib.hid hb
  clear hb
  go_wp2_with fail
  go_ret
  exact ⟨rfl, HB.out⟩

/-- The scanner's state. -/
def Scn (w : World) (b : Nat) (s : ByteArray) (p : Nat) : Prop := Blk w b 83 #[.string s, .int .i64 p]
theorem Scn.c0 {w : World} {b p : Nat} {s : ByteArray} (h : Scn w b s p) : w.cell? ⟨b, 0, none⟩ = some (.string s) := h.cell 0
theorem Scn.c1 {w : World} {b p : Nat} {s : ByteArray} (h : Scn w b s p) : w.cell? ⟨b, 1, none⟩ = some (.int .i64 p) := h.cell 1

set_option maxRecDepth 100000 in
set_option maxHeartbeats 1000000 in
theorem piece_any {w : World} {b p : Nat} {s : ByteArray} (n : Nat) (h : Scn w b s p) (hn : p + n ≤ s.size) (hs : s.size ≤ 1000000) :
    Calls Tryz.prog 155 #[.pointer (some ⟨b, 0, none⟩), .int .i64 n] w fun e w' => e = .returned (.string (s.extract p (p + n))) ∧ Below w.heap.size w w' := by
  have h0 := h.c0
  have h1 := h.c1
  have n0 : (0 : Int) ≤ (n : Int) := by omega
  have p0 : (0 : Int) ≤ (p : Int) := by omega
  have e1 : IntKind.i64.wrap ((p : Int) + (n : Int)) = (p : Int) + (n : Int) := IntWalk.i64_in _ (by omega)
  have e2 : (0 : Int) ≤ (p : Int) + (n : Int) := by omega
  have e3 : ((p : Int) + (n : Int)).toNat = p + n := by omega
  have e4 : (p : Int) ≤ (p : Int) + (n : Int) := by omega
  have e5 : (p : Int) + (n : Int) ≤ (s.size : Int) := by omega
  have hcl := fun W => clone_any (s.extract p (p + n)) W (by simp [ByteArray.size_extract]; omega)
  have HCL := Lib.hid hcl
  clear hcl
  go_enter Tryz.func155, Tryz.ntmps155
  go_wp2_with fail
  go_still_tail 15, (by kernel_rfl)
  change wpList _ _ _ _ _ w.drew
  go_wp2_with fail
  refine (HCL.out _).mono ?_
  rintro e w1 ⟨rfl, hb⟩
  have HB := Lib.hid (show Below w.heap.size w w1 from (Below.refl _ _).drew.trans hb)
  clear hb
  go_wp2_with fail
  go_ret
  exact ⟨rfl, HB.out⟩

def runL (l : List UInt8) : List UInt8 := l.takeWhile fun c => wdZ c.toNat
theorem runL_cons (c : UInt8) (r : List UInt8) : runL (c :: r) = if wdZ c.toNat then c :: runL r else [] := by
  unfold runL
  rw [List.takeWhile_cons]
theorem runL_len (l : List UInt8) : (runL l).length ≤ l.length := (List.takeWhile_prefix _).length_le
set_option maxRecDepth 100000 in
set_option maxHeartbeats 1000000 in
theorem run_any {w : World} {b p : Nat} {s : ByteArray} (h : Scn w b s p) (hp : p ≤ s.size) (hs : s.size ≤ 1000000) :
    Calls Tryz.prog 149 #[.pointer (some ⟨b, 0, none⟩)] w fun e w' => e = .returned (.string (s.extract p (p + (runL (s.data.toList.drop p)).length))) ∧ Below w.heap.size w w' := by
  have h0 := h.c0
  have h1 := h.c1
  have H := Lib.hid h
  have p0 : (0 : Int) ≤ (p : Int) := by omega
  have p1 : (p : Int) ≤ (s.size : Int) := by omega
  obtain ⟨t, ht⟩ : ∃ t : ByteArray, s.extract p s.size = t := ⟨_, rfl⟩
  have htl : t.data.toList = s.data.toList.drop p := by rw [← ht]; exact Lib.extract_to_end s p
  have hts : t.size = s.size - p := by rw [← ht]; simp [ByteArray.size_extract]
  rw [← htl]
  have HTS := Lib.hid hts
  have htb : t.size ≤ 1000000 := by omega
  obtain ⟨N, hN⟩ : ∃ N, (runL t.data.toList).length = N := ⟨_, rfl⟩
  have hNl : N ≤ t.size := by rw [← hN]; have := runL_len t.data.toList; simpa using this
  rw [hN]
  have hst : 0 + (runL (t.data.toList.drop 0)).length = N := by simpa using hN
  have HST := Lib.hid hst
  have hpc := fun W (hW : Scn W b s p) => piece_any (w := W) N hW (by omega) hs
  have HPC := Lib.hid hpc
  clear hN hst htl hts h hpc
  go_enter Tryz.func149, Tryz.ntmps149
  go_wp2_with fail
  go_quiet (fail)
  clear ht
  go_wp2_with fail
  go_loop [3] (fun v => ∃ k : Nat, v = .int .i64 k ∧ k ≤ t.size ∧ k + (runL (t.data.toList.drop k)).length = N) (fun v => t.size - (intOf v).toNat)
  case atStart => exact ⟨0, rfl, by omega, HST.out⟩
  case round =>
    obtain ⟨k, rfl, hk, hrel⟩ := hrel
    have hk0 : (0 : Int) ≤ (k : Int) := by omega
    by_cases hlt : k < t.size
    · have hlt' : (k : Int) < (t.size : Int) := by omega
      rw [drop_at t k hlt, runL_cons] at hrel
      generalize hx : t[k] = c at *
      have hwz : wdZ c.toNat = (ltZ c.toNat || dgZ c.toNat) := rfl
      rw [hwz] at hrel
      have c1 := fun W => startsIdent_any (c.toNat : Nat) W
      have c2 := fun W => lisDigit_any (c.toNat : Nat) W
      generalize ltZ c.toNat = L at *
      generalize dgZ c.toNat = D at *
      have C1 := Lib.hid c1
      have C2 := Lib.hid c2
      clear c1 c2 hwz
      cases L
      · cases D
        · have hN : k = N := by simpa using hrel
          subst hN
          clear hrel
          go_wp2_with fail
          refine (C1.out _).mono ?_
          rintro e _ ⟨rfl, rfl⟩
          go_wp2_with fail
          refine (C2.out _).mono ?_
          rintro e _ ⟨rfl, rfl⟩
          go_wp2_with fail
          refine (HPC.out (w.drewN nq) H.out).mono ?_
          rintro e w2 ⟨rfl, hb2⟩
          have HB := Lib.hid ((Below.drewN_ (Below.refl w.heap.size w) nq).trans hb2)
          clear hb2
          go_wp2_with fail
          go_ret
          exact ⟨rfl, HB.out⟩
        · rw [if_pos (by rfl)] at hrel
          have HN := Lib.hid (show k + 1 + (runL (t.data.toList.drop (k + 1))).length = N by simp only [List.length_cons] at hrel; omega)
          clear hrel
          go_wp2_with fail
          refine (C1.out _).mono ?_
          rintro e _ ⟨rfl, rfl⟩
          go_wp2_with fail
          refine (C2.out _).mono ?_
          rintro e _ ⟨rfl, rfl⟩
          go_wp2_with fail
          go_round
          case rel => exact ⟨k + 1, by go_num, by omega, HN.out⟩
          case measure => simp [intOf]; omega
      · rw [if_pos (by rfl)] at hrel
        have HN := Lib.hid (show k + 1 + (runL (t.data.toList.drop (k + 1))).length = N by simp only [List.length_cons] at hrel; omega)
        clear hrel
        go_wp2_with fail
        refine (C1.out _).mono ?_
        rintro e _ ⟨rfl, rfl⟩
        go_wp2_with fail
        go_round
        case rel => exact ⟨k + 1, by go_num, by omega, HN.out⟩
        case measure => simp [intOf]; omega
    · have hlt' : ¬ (k : Int) < (t.size : Int) := by omega
      rw [List.drop_eq_nil_of_le (by simp; omega)] at hrel
      have hN : k = N := by simpa [runL] using hrel
      subst hN
      clear hrel
      go_wp2_with fail
      refine (HPC.out (w.drewN nq) H.out).mono ?_
      rintro e w2 ⟨rfl, hb2⟩
      have HB := Lib.hid ((Below.drewN_ (Below.refl w.heap.size w) nq).trans hb2)
      clear hb2
      go_wp2_with fail
      go_ret
      exact ⟨rfl, HB.out⟩
end Go.Proofs.YtoineheocipmaaaGreatDoor
