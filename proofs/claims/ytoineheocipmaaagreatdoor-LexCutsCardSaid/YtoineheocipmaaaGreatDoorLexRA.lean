/-
  lex: the document's answer: letters, digits, signs, the rest of a word.
-/
import Derived.Test.YtoineheocipmaaaGreatDoorLexW
namespace Go.Proofs.YtoineheocipmaaaGreatDoor
open Go.RowKit
set_option linter.unusedVariables false
set_option linter.unusedSimpArgs false

theorem refLetter_any (c : Int) (w : World) : Calls Tryz.prog 91 #[.int .u8 c] w fun e w' => e = .returned (.bool (ltZ c)) ∧ w = w' := by
  have hz : ltZ c = ((decide (97 ≤ c) && decide (c ≤ 122)) || (decide (65 ≤ c) && decide (c ≤ 90)) || (c == 95)) := rfl
  rcases (show (97 ≤ c ∧ c ≤ 122) ∨ (65 ≤ c ∧ c ≤ 90) ∨ c = 95 ∨ c < 65 ∨ (90 < c ∧ c < 95) ∨ c = 96 ∨ 122 < c by omega) with ⟨h, h'⟩ | ⟨h, h'⟩ | h | h | ⟨h, h'⟩ | h | h
  · obtain hb : ltZ c = true := by rw [hz]; simp [h, h']
    rw [hb]
    clear hz hb
    go_enter Tryz.func91, Tryz.ntmps91
    go_wp2_with fail
    go_ret
    exact ⟨rfl, rfl⟩
  · obtain hb : ltZ c = true := by rw [hz]; simp [h, h']
    rw [hb]
    clear hz hb
    go_enter Tryz.func91, Tryz.ntmps91
    go_wp2_with fail
    go_ret
    exact ⟨rfl, rfl⟩
  · subst h
    clear hz
    go_enter Tryz.func91, Tryz.ntmps91
    go_wp2_with fail
    go_ret
    exact ⟨rfl, rfl⟩
  all_goals
    have hb : ltZ c = false := by rw [hz]; simp; omega
    have hq : (c == 95) = false := by simp; omega
    rw [hb]
    clear hz hb
    go_enter Tryz.func91, Tryz.ntmps91
    go_wp2_with fail
    go_ret
    refine ⟨?_, rfl⟩
    first | rfl | (simp; omega)
theorem refDigit_any (c : Int) (w : World) : Calls Tryz.prog 93 #[.int .u8 c] w fun e w' => e = .returned (.bool (dgZ c)) ∧ w = w' := by
  by_cases h1 : 48 ≤ c <;> by_cases h2 : c ≤ 57
  all_goals
    go_enter Tryz.func93, Tryz.ntmps93
    go_wp2_with fail
    go_ret
    exact ⟨by simp [dgZ, h1, h2], rfl⟩

set_option maxRecDepth 100000 in
set_option maxHeartbeats 1000000 in
theorem refRest_any (s : ByteArray) (p : Nat) (w : World) (hp : p ≤ s.size) (hs : s.size ≤ 1000000) : Calls Tryz.prog 92 #[.string s, .int .i64 p] w fun e w' => e = .returned (.int .i64 ((p + (runL (s.data.toList.drop p)).length : Nat) : Int)) ∧ w = w' := by
  obtain ⟨P, hP⟩ : ∃ P, P = p + (runL (s.data.toList.drop p)).length := ⟨_, rfl⟩
  rw [← hP]
  have HP := Lib.hid hP
  clear hP
  go_enter Tryz.func92, Tryz.ntmps92
  go_wp2_with fail
  go_loopg [1] (s.size - p) (fun g v wr => ∃ p' : Nat, p' ≤ s.size ∧ g = s.size - p' ∧ v = .int .i64 p' ∧ w = wr ∧ P = p' + (runL (s.data.toList.drop p')).length)
  case atStart => exact ⟨p, hp, rfl, rfl, rfl, HP.out⟩
  case round =>
    obtain ⟨p', hp', rfl, rfl, rfl, hP⟩ := hrel
    by_cases hlt : p' < s.size
    · have hlt' : (p' : Int) < (s.size : Int) := by omega
      rw [drop_at s p' hlt, runL_cons] at hP
      generalize hx : s[p'] = x at *
      have h1 := fun W => refLetter_any (x.toNat : Nat) W
      have h2 := fun W => refDigit_any (x.toNat : Nat) W
      have hw : wdZ (x.toNat : Nat) = (ltZ (x.toNat : Nat) || dgZ (x.toNat : Nat)) := rfl
      rw [hw] at hP
      generalize ltZ (x.toNat : Nat) = a at *
      generalize dgZ (x.toNat : Nat) = b at *
      have HQ := Lib.hid hP
      clear hP hw
      go_wp2_with fail
      refine (h1 _).mono ?_
      rintro e _ ⟨rfl, rfl⟩
      cases a
      · go_wp2_with fail
        refine (h2 _).mono ?_
        rintro e _ ⟨rfl, rfl⟩
        cases b
        · go_wp2_with fail
          have := HQ.out
          simp at this
          subst this
          go_ret
          exact ⟨rfl, rfl⟩
        · go_wp2_with fail
          go_roundg (s.size - (p' + 1))
          case measure => omega
          case rel =>
            have := HQ.out
            simp at this
            exact ⟨p' + 1, by omega, rfl, by go_num, rfl, by omega⟩
      · go_wp2_with fail
        go_roundg (s.size - (p' + 1))
        case measure => omega
        case rel =>
          have := HQ.out
          simp at this
          exact ⟨p' + 1, by omega, rfl, by go_num, rfl, by omega⟩
    · obtain rfl : p' = s.size := by omega
      have : P = s.size := by
        have h0 : s.data.toList.drop s.size = [] := List.drop_eq_nil_of_le (by simp)
        rw [h0] at hP
        simpa [runL] using hP
      subst this
      clear hP
      go_wp2_with fail
      go_ret
      exact ⟨rfl, rfl⟩
set_option maxRecDepth 100000 in
set_option maxHeartbeats 1000000 in
theorem refSign_any (c : UInt8) (w : World) : Calls Tryz.prog 97 #[.int .u8 (c.toNat : Nat)] w fun e w' => e = .returned (.bool (sgB c)) ∧ w = w' := by
  have hS : ∀ i, i < 13 → True := fun _ _ => trivial
  obtain ⟨B, hB⟩ : ∃ B, B = sgB c := ⟨_, rfl⟩
  rw [← hB]
  have HB := Lib.hid hB
  clear hB hS
  go_enter Tryz.func97, Tryz.ntmps97
  go_wp2_with fail
  go_loopg [3] 13 (fun g v wr => ∃ i : Nat, i ≤ 13 ∧ g = 13 - i ∧ v = .int .i64 i ∧ w = wr ∧ B = ([123, 125, 91, 93, 40, 41, 60, 62, 61, 59, 44, 46, 45].drop i).contains c)
  case atStart => exact ⟨0, by omega, rfl, rfl, rfl, HB.out⟩
  case round =>
    obtain ⟨i, hi, rfl, rfl, rfl, hB⟩ := hrel
    by_cases hlt : i < 13
    · have hlt' : (i : Int) < 13 := by omega
      have HC := Lib.hid hB
      clear hB
      have hd : [123, 125, 91, 93, 40, 41, 60, 62, 61, 59, 44, 46, 45].drop i = (⟨#[123, 125, 91, 93, 40, 41, 60, 62, 61, 59, 44, 46, 45]⟩ : ByteArray)[i]'(by exact hlt) :: [123, 125, 91, 93, 40, 41, 60, 62, 61, 59, 44, 46, 45].drop (i + 1) := drop_at ⟨#[123, 125, 91, 93, 40, 41, 60, 62, 61, 59, 44, 46, 45]⟩ i hlt
      have HD := Lib.hid hd
      clear hd
      generalize hx : (⟨#[123, 125, 91, 93, 40, 41, 60, 62, 61, 59, 44, 46, 45]⟩ : ByteArray)[i]'(by exact hlt) = x at *
      by_cases hxc : x = c
      · have e1 : ((x.toNat : Int) == (c.toNat : Int)) = true := by rw [hxc]; simp
        go_wp2_with fail
        go_ret
        have := HC.out
        rw [HD.out, hxc] at this
        simp at this
        subst this
        exact ⟨rfl, rfl⟩
      · have e1 : ((x.toNat : Int) == (c.toNat : Int)) = false := by simp only [beq_eq_false_iff_ne, ne_eq]; intro e; exact hxc (UInt8.toNat_inj.1 (by omega))
        go_wp2_with fail
        go_roundg (13 - (i + 1))
        case measure => omega
        case rel =>
          have := HC.out
          rw [HD.out, List.contains_cons] at this
          have hcx : (c == x) = false := by simpa using fun e => hxc (Eq.symm e)
          rw [hcx, Bool.false_or] at this
          exact ⟨i + 1, by omega, rfl, by go_num, rfl, this⟩
    · obtain rfl : i = 13 := by omega
      have : B = false := by simpa using hB
      subst this
      clear hB
      go_wp2_with fail
      go_ret
      exact ⟨rfl, rfl⟩
end Go.Proofs.YtoineheocipmaaaGreatDoor
