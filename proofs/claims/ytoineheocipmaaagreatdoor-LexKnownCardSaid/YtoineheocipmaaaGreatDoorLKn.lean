/-
  Lex: the document's answer walked, and the statements LexCuts and LexJoins: twelve texts of the seat in one, for a claim's number of files.
-/
import Derived.Test.YtoineheocipmaaaGreatDoorLexW
import Derived.Test.YtoineheocipmaaaGreatDoorLexRS
import Derived.Test.YtoineheocipmaaaGreatDoorRUnqMath
import Derived.Test.YtoineheocipmaaaGreatDoorRUnq
import Derived.Test.YtoineheocipmaaaGreatDoorLexJ
import Derived.Test.YtoineheocipmaaaGreatDoorRQuote
import Derived.WideShapes
namespace Go.Proofs.YtoineheocipmaaaGreatDoor
section
open Go.RowKit
set_option linter.unusedVariables false
set_option linter.unusedSimpArgs false

theorem refLetter_any (c : Int) (w : World) : Calls Tryz.prog 91 #[.int .u8 c] w fun e w' => e = .returned (.bool (ltZ c)) ∧ w = w' := by
  have hz : ltZ c = ((decide (97 ≤ c) && decide (c ≤ 122)) || (decide (65 ≤ c) && decide (c ≤ 90)) || (c == 95)) := rfl
  rcases (show (97 ≤ c ∧ c ≤ 122) ∨ (65 ≤ c ∧ c ≤ 90) ∨ c = 95 ∨ c < 65 ∨ (90 < c ∧ c < 95) ∨ c = 96 ∨ 122 < c by omega) with ⟨h, h'⟩ | ⟨h, h'⟩ | h | h | ⟨h, h'⟩ | h | h
  · obtain hb : ltZ c = true := by rw [hz]; simp [h, h']
    rw [hb]
    clear hz hb
    go_enter Tryz.func91, Tryz.ntmps91
    go_wp2_with fail
    go_ret
    exact ⟨rfl, rfl⟩
  · obtain hb : ltZ c = true := by rw [hz]; simp [h, h']
    rw [hb]
    clear hz hb
    go_enter Tryz.func91, Tryz.ntmps91
    go_wp2_with fail
    go_ret
    exact ⟨rfl, rfl⟩
  · subst h
    clear hz
    go_enter Tryz.func91, Tryz.ntmps91
    go_wp2_with fail
    go_ret
    exact ⟨rfl, rfl⟩
  all_goals
    have hb : ltZ c = false := by rw [hz]; simp; omega
    have hq : (c == 95) = false := by simp; omega
    rw [hb]
    clear hz hb
    go_enter Tryz.func91, Tryz.ntmps91
    go_wp2_with fail
    go_ret
    refine ⟨?_, rfl⟩
    first | rfl | (simp; omega)
theorem refDigit_any (c : Int) (w : World) : Calls Tryz.prog 93 #[.int .u8 c] w fun e w' => e = .returned (.bool (dgZ c)) ∧ w = w' := by
  by_cases h1 : 48 ≤ c <;> by_cases h2 : c ≤ 57
  all_goals
    go_enter Tryz.func93, Tryz.ntmps93
    go_wp2_with fail
    go_ret
    exact ⟨by simp [dgZ, h1, h2], rfl⟩

set_option maxRecDepth 100000 in
set_option maxHeartbeats 1000000 in
theorem refRest_any (s : ByteArray) (p : Nat) (w : World) (hp : p ≤ s.size) (hs : s.size ≤ 1000000) : Calls Tryz.prog 92 #[.string s, .int .i64 p] w fun e w' => e = .returned (.int .i64 ((p + (runL (s.data.toList.drop p)).length : Nat) : Int)) ∧ w = w' := by
  obtain ⟨P, hP⟩ : ∃ P, P = p + (runL (s.data.toList.drop p)).length := ⟨_, rfl⟩
  rw [← hP]
  have HP := Lib.hid hP
  clear hP
  go_enter Tryz.func92, Tryz.ntmps92
  go_wp2_with fail
  go_loopg [1] (s.size - p) (fun g v wr => ∃ p' : Nat, p' ≤ s.size ∧ g = s.size - p' ∧ v = .int .i64 p' ∧ w = wr ∧ P = p' + (runL (s.data.toList.drop p')).length)
  case atStart => exact ⟨p, hp, rfl, rfl, rfl, HP.out⟩
  case round =>
    obtain ⟨p', hp', rfl, rfl, rfl, hP⟩ := hrel
    by_cases hlt : p' < s.size
    · have hlt' : (p' : Int) < (s.size : Int) := by omega
      rw [drop_at s p' hlt, runL_cons] at hP
      generalize hx : s[p'] = x at *
      have h1 := fun W => refLetter_any (x.toNat : Nat) W
      have h2 := fun W => refDigit_any (x.toNat : Nat) W
      have hw : wdZ (x.toNat : Nat) = (ltZ (x.toNat : Nat) || dgZ (x.toNat : Nat)) := rfl
      rw [hw] at hP
      generalize ltZ (x.toNat : Nat) = a at *
      generalize dgZ (x.toNat : Nat) = b at *
      have HQ := Lib.hid hP
      clear hP hw
      go_wp2_with fail
      refine (h1 _).mono ?_
      rintro e _ ⟨rfl, rfl⟩
      cases a
      · go_wp2_with fail
        refine (h2 _).mono ?_
        rintro e _ ⟨rfl, rfl⟩
        cases b
        · go_wp2_with fail
          have := HQ.out
          simp at this
          subst this
          go_ret
          exact ⟨rfl, rfl⟩
        · go_wp2_with fail
          go_roundg (s.size - (p' + 1))
          case measure => omega
          case rel =>
            have := HQ.out
            simp at this
            exact ⟨p' + 1, by omega, rfl, by go_num, rfl, by omega⟩
      · go_wp2_with fail
        go_roundg (s.size - (p' + 1))
        case measure => omega
        case rel =>
          have := HQ.out
          simp at this
          exact ⟨p' + 1, by omega, rfl, by go_num, rfl, by omega⟩
    · obtain rfl : p' = s.size := by omega
      have : P = s.size := by
        have h0 : s.data.toList.drop s.size = [] := List.drop_eq_nil_of_le (by simp)
        rw [h0] at hP
        simpa [runL] using hP
      subst this
      clear hP
      go_wp2_with fail
      go_ret
      exact ⟨rfl, rfl⟩
set_option maxRecDepth 100000 in
set_option maxHeartbeats 1000000 in
theorem refSign_any (c : UInt8) (w : World) : Calls Tryz.prog 97 #[.int .u8 (c.toNat : Nat)] w fun e w' => e = .returned (.bool (sgB c)) ∧ w = w' := by
  have hS : ∀ i, i < 13 → True := fun _ _ => trivial
  obtain ⟨B, hB⟩ : ∃ B, B = sgB c := ⟨_, rfl⟩
  rw [← hB]
  have HB := Lib.hid hB
  clear hB hS
  go_enter Tryz.func97, Tryz.ntmps97
  go_wp2_with fail
  go_loopg [3] 13 (fun g v wr => ∃ i : Nat, i ≤ 13 ∧ g = 13 - i ∧ v = .int .i64 i ∧ w = wr ∧ B = ([123, 125, 91, 93, 40, 41, 60, 62, 61, 59, 44, 46, 45].drop i).contains c)
  case atStart => exact ⟨0, by omega, rfl, rfl, rfl, HB.out⟩
  case round =>
    obtain ⟨i, hi, rfl, rfl, rfl, hB⟩ := hrel
    by_cases hlt : i < 13
    · have hlt' : (i : Int) < 13 := by omega
      have HC := Lib.hid hB
      clear hB
      have hd : [123, 125, 91, 93, 40, 41, 60, 62, 61, 59, 44, 46, 45].drop i = (⟨#[123, 125, 91, 93, 40, 41, 60, 62, 61, 59, 44, 46, 45]⟩ : ByteArray)[i]'(by exact hlt) :: [123, 125, 91, 93, 40, 41, 60, 62, 61, 59, 44, 46, 45].drop (i + 1) := drop_at ⟨#[123, 125, 91, 93, 40, 41, 60, 62, 61, 59, 44, 46, 45]⟩ i hlt
      have HD := Lib.hid hd
      clear hd
      generalize hx : (⟨#[123, 125, 91, 93, 40, 41, 60, 62, 61, 59, 44, 46, 45]⟩ : ByteArray)[i]'(by exact hlt) = x at *
      by_cases hxc : x = c
      · have e1 : ((x.toNat : Int) == (c.toNat : Int)) = true := by rw [hxc]; simp
        go_wp2_with fail
        go_ret
        have := HC.out
        rw [HD.out, hxc] at this
        simp at this
        subst this
        exact ⟨rfl, rfl⟩
      · have e1 : ((x.toNat : Int) == (c.toNat : Int)) = false := by simp only [beq_eq_false_iff_ne, ne_eq]; intro e; exact hxc (UInt8.toNat_inj.1 (by omega))
        go_wp2_with fail
        go_roundg (13 - (i + 1))
        case measure => omega
        case rel =>
          have := HC.out
          rw [HD.out, List.contains_cons] at this
          have hcx : (c == x) = false := by simpa using fun e => hxc (Eq.symm e)
          rw [hcx, Bool.false_or] at this
          exact ⟨i + 1, by omega, rfl, by go_num, rfl, this⟩
    · obtain rfl : i = 13 := by omega
      have : B = false := by simpa using hB
      subst this
      clear hB
      go_wp2_with fail
      go_ret
      exact ⟨rfl, rfl⟩
end
section
open Go.RowKit
set_option linter.unusedVariables false
set_option linter.unusedSimpArgs false

/-- The end of a literal as the document's answer looks for it: a line feed ends the search, also behind a backslash. -/
def lrF (q : UInt8) : Nat → Nat → List UInt8 → Nat
  | 0, _, _ => 0
  | _ + 1, _, [] => 0
  | k + 1, p, c :: r => if c = 10 then 0 else if c = q then p + 1 else if c = 92 then (if r.head? = some 10 then 0 else lrF q k (p + 2) (r.drop 1)) else lrF q k (p + 1) r
theorem lrF_fuel (q : UInt8) : ∀ (k k' p : Nat) (l : List UInt8), l.length ≤ k → l.length ≤ k' → lrF q k p l = lrF q k' p l
  | 0, k', p, l, h, _ => by
    obtain rfl : l = [] := List.eq_nil_of_length_eq_zero (by omega)
    cases k' <;> rfl
  | k + 1, 0, p, l, _, h => by
    obtain rfl : l = [] := List.eq_nil_of_length_eq_zero (by omega)
    rfl
  | k + 1, k' + 1, p, [], _, _ => rfl
  | k + 1, k' + 1, p, c :: r, h, h' => by
    simp only [List.length_cons] at h h'
    rw [lrF, lrF, lrF_fuel q k k' (p + 2) (r.drop 1) (by simp; omega) (by simp; omega), lrF_fuel q k k' (p + 1) r (by omega) (by omega)]
def lrP (q : UInt8) (p : Nat) (l : List UInt8) : Nat := lrF q l.length p l
theorem lrP_nil (q : UInt8) (p : Nat) : lrP q p [] = 0 := rfl
theorem lrP_cons (q : UInt8) (p : Nat) (c : UInt8) (r : List UInt8) : lrP q p (c :: r) = if c = 10 then 0 else if c = q then p + 1 else if c = 92 then (if r.head? = some 10 then 0 else lrP q (p + 2) (r.drop 1)) else lrP q (p + 1) r := by
  unfold lrP
  rw [List.length_cons, lrF, lrF_fuel q r.length (r.drop 1).length _ _ (by simp) (Nat.le_refl _)]
/-- What the document's answer says of a literal's end. -/
def lrA (n : Nat) : Value := .tuple #[.int .i64 n, .bool (decide (n ≠ 0))]

set_option maxRecDepth 100000 in
set_option maxHeartbeats 1000000 in
theorem refLit_any (s : ByteArray) (p : Nat) (w : World) (hp : p < s.size) (hs : s.size ≤ 1000000) : Calls Tryz.prog 95 #[.string s, .int .i64 p] w fun e w' => e = .returned (lrA (lrP s[p] (p + 1) (s.data.toList.drop (p + 1)))) ∧ Below w.heap.size w w' := by
  have hp' : (p : Int) < (s.size : Int) := by omega
  obtain ⟨N, hN⟩ : ∃ N, N = lrP s[p] (p + 1) (s.data.toList.drop (p + 1)) := ⟨_, rfl⟩
  rw [← hN]
  generalize hq : s[p] = q at *
  have hq8 := q.toNat_lt
  have HN := Lib.hid hN
  clear hN
  go_enter Tryz.func95, Tryz.ntmps95
  go_wp2_with fail
  go_loopg [6] (s.size + 1 - (p + 1)) (fun g v wr => ∃ (k : Nat), k ≤ s.size + 1 ∧ g = s.size + 1 - k ∧ v = .int .i64 k ∧ Below w.heap.size w wr ∧ N = lrP q k (s.data.toList.drop k))
  case atStart => exact ⟨p + 1, by omega, rfl, rfl, Below.refl _ _, HN.out⟩
  case round =>
    obtain ⟨k, hk, rfl, rfl, hw, hrel⟩ := hrel
    have HW := Lib.hid hw
    clear hw
    by_cases hlt : k < s.size
    · have hlt' : (k : Int) < (s.size : Int) := by omega
      rw [drop_at s k hlt, lrP_cons] at hrel
      generalize hx : s[k] = c at *
      have hc8 := c.toNat_lt
      by_cases h10 : c = 10
      · rw [if_pos h10] at hrel
        have e1 : ((c.toNat : Int) != 10) = false := by rw [h10]; rfl
        subst hrel
        clear h10 HN
        go_wp2_with fail
        refine bodyPost_ret (v := .tuple #[.int .i64 0, .bool false]) (by simp [results, Tryz.results95, go_sem]) rfl ⟨rfl, by first | exact HW.out | exact HW.out.drew | exact Below.drewN_ HW.out _⟩
      · have e1 : ((c.toNat : Int) != 10) = true := by simp only [bne_iff_ne, ne_eq]; intro e; exact h10 (UInt8.toNat_inj.1 (by show c.toNat = 10; omega))
        rw [if_neg h10] at hrel
        by_cases hcq : c = q
        · rw [if_pos hcq] at hrel
          have e2 : ((c.toNat : Int) == (q.toNat : Int)) = true := by rw [hcq]; simp
          subst hrel
          clear h10 hcq HN
          go_wp2_with fail
          go_quiet (fail)
          go_wp2_with fail
          refine bodyPost_ret (v := .tuple #[.int .i64 ((k : Int) + 1), .bool true]) (by simp [results, Tryz.results95, go_sem]) rfl ⟨?_, by first | exact HW.out | exact HW.out.drew | exact Below.drewN_ HW.out _⟩
          have e9 : (k : Int) + 1 = ((k + 1 : Nat) : Int) := by omega
          rw [e9]
          rfl
        · rw [if_neg hcq] at hrel
          have e2 : ((c.toNat : Int) == (q.toNat : Int)) = false := by simp only [beq_eq_false_iff_ne, ne_eq]; intro e; exact hcq (UInt8.toNat_inj.1 (by omega))
          by_cases h92 : c = 92
          · rw [if_pos h92] at hrel
            have e3 : ((c.toNat : Int) == 92) = true := by rw [h92]; rfl
            by_cases hl2 : k + 1 < s.size
            · have hl2' : (k : Int) + 1 < (s.size : Int) := by omega
              rw [drop_at s (k + 1) hl2] at hrel
              generalize hy : s[k + 1] = d at *
              have hd8 := d.toNat_lt
              by_cases hd : d = 10
              · rw [if_pos (by rw [hd]; rfl)] at hrel
                have e4 : ((d.toNat : Int) == 10) = true := by rw [hd]; rfl
                subst hrel
                clear h10 hcq h92 hd HN
                go_wp2_with fail
                go_quiet (fail)
                go_wp2_with fail
                refine bodyPost_ret (v := .tuple #[.int .i64 0, .bool false]) (by simp [results, Tryz.results95, go_sem]) rfl ⟨rfl, by first | exact HW.out | exact HW.out.drew | exact Below.drewN_ HW.out _⟩
              · rw [if_neg (by simpa using hd)] at hrel
                have e4 : ((d.toNat : Int) == 10) = false := by simp only [beq_eq_false_iff_ne, ne_eq]; intro e; exact hd (UInt8.toNat_inj.1 (by show d.toNat = 10; omega))
                have HL := Lib.hid hrel
                clear h10 hcq h92 hd HN hrel
                go_wp2_with fail
                go_quiet (fail)
                go_wp2_with fail
                go_roundg (s.size + 1 - (k + 2))
                case measure => omega
                case rel => exact ⟨k + 2, by omega, rfl, by go_num, by first | exact HW.out | exact HW.out.drew | exact Below.drewN_ HW.out _, HL.out⟩
            · have hl2' : ¬ (k : Int) + 1 < (s.size : Int) := by omega
              have hnil : s.data.toList.drop (k + 1) = [] := List.drop_eq_nil_of_le (by simp; omega)
              rw [hnil] at hrel
              have HL := Lib.hid hrel
              clear h10 hcq h92 HN hrel
              go_wp2_with fail
              go_quiet (fail)
              go_wp2_with fail
              go_roundg (s.size + 1 - (k + 2))
              case measure => omega
              case rel => exact ⟨k + 2, by omega, rfl, by go_num, by first | exact HW.out | exact HW.out.drew | exact Below.drewN_ HW.out _, by rw [List.drop_eq_nil_of_le (by simp; omega)]; exact HL.out⟩
          · rw [if_neg h92] at hrel
            have e3 : ((c.toNat : Int) == 92) = false := by simp only [beq_eq_false_iff_ne, ne_eq]; intro e; exact h92 (UInt8.toNat_inj.1 (by show c.toNat = 92; omega))
            have HL := Lib.hid hrel
            clear h10 hcq h92 HN hrel
            go_wp2_with fail
            go_quiet (fail)
            go_wp2_with fail
            go_roundg (s.size + 1 - (k + 1))
            case measure => omega
            case rel => exact ⟨k + 1, by omega, rfl, by go_num, by first | exact HW.out | exact HW.out.drew | exact Below.drewN_ HW.out _, HL.out⟩
    · have hlt' : ¬ (k : Int) < (s.size : Int) := by omega
      have hnil : s.data.toList.drop k = [] := List.drop_eq_nil_of_le (by simp; omega)
      rw [hnil, lrP_nil] at hrel
      subst hrel
      clear HN
      go_wp2_with fail
      refine bodyPost_ret (v := .tuple #[.int .i64 0, .bool false]) (by simp [results, Tryz.results95, go_sem]) rfl ⟨rfl, by first | exact HW.out | exact HW.out.drew | exact Below.drewN_ HW.out _⟩
end
section
open Go.RowKit
set_option linter.unusedVariables false
set_option linter.unusedSimpArgs false

def lowL : ByteArray := ⟨#[48, 49, 50, 51, 52, 53, 54, 55, 56, 57, 97, 98, 99, 100, 101, 102]⟩
def uppL : ByteArray := ⟨#[48, 49, 50, 51, 52, 53, 54, 55, 56, 57, 65, 66, 67, 68, 69, 70]⟩
theorem dg_lit_fin : ∀ d : Fin 16, ∀ n : Fin 256, ((lowL[d.val]'(d.isLt) == UInt8.ofNat n.val) || (uppL[d.val]'(d.isLt) == UInt8.ofNat n.val)) = decide (dgV ((UInt8.ofNat n.val).toNat : Nat) = (d.val : Int)) := by decide +kernel
theorem dg_lit (d : Nat) (hd : d < 16) (c : UInt8) : ((lowL[d]'hd == c) || (uppL[d]'hd == c)) = decide (dgV (c.toNat : Nat) = (d : Int)) := by
  have := fin8 (p := fun c => ((lowL[d]'hd == c) || (uppL[d]'hd == c)) == decide (dgV (c.toNat : Nat) = (d : Int))) (fun n => by simpa using dg_lit_fin ⟨d, hd⟩ n) c
  simpa using this
/-- Digits of a base, as a number that is cut at 2^31+1; below 0: they are none. -/
def rvR (b : Int) (l : List UInt8) : Int := if l = [] ∨ l.all (fun x => decide (dgV x.toNat < b)) = false then -1 else min (pv b l) 2147483649

set_option maxRecDepth 100000 in
set_option maxHeartbeats 1000000 in
theorem refVal_any (s : ByteArray) (b : Int) (hb : b = 8 ∨ b = 10 ∨ b = 16) (w : World) (hs : s.size ≤ 1000000) : Calls Tryz.prog 157 #[.string s, .int .i64 b] w fun e w' => e = .returned (.int .i64 (rvR b s.data.toList)) ∧ Below w.heap.size w w' := by
  obtain ⟨N, hN⟩ : ∃ N, N = rvR b s.data.toList := ⟨_, rfl⟩
  rw [← hN]
  have HN := Lib.hid hN
  clear hN
  have hb16 : b ≤ 16 := by omega
  have hb8 : 8 ≤ b := by omega
  go_enter Tryz.func157, Tryz.ntmps157
  go_wp2_with fail
  go_loopg [5, 6] s.size (fun g v5 v wr => ∃ (i : Nat) (n : Int), i ≤ s.size ∧ g = s.size - i ∧ v5 = .int .i64 n ∧ v = .int .i64 i ∧ Below w.heap.size w wr ∧ n = min (pv b (s.data.toList.take i)) 2147483649 ∧ (s.data.toList.take i).all (fun x => decide (dgV x.toNat < b)) = true)
  case atStart => exact ⟨0, 0, by omega, rfl, rfl, rfl, Below.refl _ _, rfl, rfl⟩
  case round =>
    obtain ⟨i, n, hi, rfl, rfl, rfl, hbe, hn, hall⟩ := hrel
    have HBE := Lib.hid hbe
    have HNN := Lib.hid hn
    have HAL := Lib.hid hall
    have hn0 : 0 ≤ n := by have := pv_nonneg b (by omega) (s.data.toList.take i); omega
    have hnM : n ≤ 2147483649 := by omega
    clear hbe hn hall
    by_cases hil : i < s.size
    · have hil' : (i : Int) < (s.size : Int) := by omega
      generalize hx : s[i] = c at *
      have HX := Lib.hid hx
      have hd0 := (dgV_range (c.toNat : Nat)).1
      obtain ⟨D, hD⟩ : ∃ D, D = dgV (c.toNat : Nat) := ⟨_, rfl⟩
      have HD := Lib.hid hD
      rw [← hD] at hd0
      clear hD
      go_wp2_with fail
      go_loopg [7, 8] b.toNat (fun g v7 v8 w2 => ∃ (d : Nat) (kk : Int), (d : Int) ≤ b ∧ g = b.toNat - d ∧ v7 = .int .i64 kk ∧ kk = (if D < d then D else -1) ∧ v8 = .int .i64 d ∧ Below w.heap.size w w2)
      case atStart => exact ⟨0, -1, by omega, rfl, rfl, by rw [if_neg (by simpa using hd0)], rfl, HBE.out⟩
      case round =>
        obtain ⟨d, kk, hd, rfl, rfl, hkk, rfl, hbe⟩ := hrel
        have HB2 := Lib.hid hbe
        have HKK := Lib.hid hkk
        have hkD : kk = -1 ∨ (kk = D ∧ D < d) := by rw [hkk]; split <;> first | exact .inr ⟨rfl, by assumption⟩ | exact .inl rfl
        clear hbe hkk
        by_cases hdb : (d : Int) < b
        · have hd16 : d < 16 := by omega
          have hd16' : (d : Int) < 16 := by omega
          have hlit := dg_lit d hd16 c
          rw [← HD.out] at hlit
          unfold lowL uppL at hlit
          have HLT := Lib.hid hlit
          clear hlit
          generalize hx1 : (⟨#[48, 49, 50, 51, 52, 53, 54, 55, 56, 57, 97, 98, 99, 100, 101, 102]⟩ : ByteArray)[d]'hd16 = x1 at *
          generalize hx2 : (⟨#[48, 49, 50, 51, 52, 53, 54, 55, 56, 57, 65, 66, 67, 68, 69, 70]⟩ : ByteArray)[d]'hd16 = x2 at *
          by_cases h1 : c = x1
          · have e1 : ((c.toNat : Int) == (x1.toNat : Int)) = true := by rw [h1]; simp
            have HDd := Lib.hid (show D = d by have := HLT.out; rw [h1] at this; simpa using this.symm)
            clear h1
            go_wp2_with fail
            go_quiet (fail)
            go_wp2_with fail
            go_roundg (b.toNat - (d + 1))
            case measure => omega
            case rel => exact ⟨d + 1, d, by omega, rfl, rfl, by have := HDd.out; rw [if_pos (by omega), this], by go_num, by first | exact HB2.out | exact HB2.out.drew | exact Below.drewN_ HB2.out _⟩
          · have e1 : ((c.toNat : Int) == (x1.toNat : Int)) = false := by simp only [beq_eq_false_iff_ne, ne_eq]; intro e; exact h1 (UInt8.toNat_inj.1 (by omega))
            by_cases h2 : c = x2
            · have e2 : ((c.toNat : Int) == (x2.toNat : Int)) = true := by rw [h2]; simp
              have HDd := Lib.hid (show D = d by have := HLT.out; rw [h2] at this; simpa using this.symm)
              clear h1 h2
              go_wp2_with fail
              go_quiet (fail)
              go_wp2_with fail
              go_roundg (b.toNat - (d + 1))
              case measure => omega
              case rel => exact ⟨d + 1, d, by omega, rfl, rfl, by have := HDd.out; rw [if_pos (by omega), this], by go_num, by first | exact HB2.out | exact HB2.out.drew | exact Below.drewN_ HB2.out _⟩
            · have e2 : ((c.toNat : Int) == (x2.toNat : Int)) = false := by simp only [beq_eq_false_iff_ne, ne_eq]; intro e; exact h2 (UInt8.toNat_inj.1 (by omega))
              have hDd : D ≠ d := by
                have := HLT.out
                rw [(show (x1 == c) = false by simpa using fun e => h1 (Eq.symm e)), (show (x2 == c) = false by simpa using fun e => h2 (Eq.symm e))] at this
                simpa using this.symm
              have HDd := Lib.hid hDd
              clear h1 h2 hDd
              go_wp2_with fail
              go_quiet (fail)
              go_wp2_with fail
              go_roundg (b.toNat - (d + 1))
              case measure => omega
              case rel => exact ⟨d + 1, kk, by omega, rfl, rfl, by (have := HDd.out; rw [HKK.out]; by_cases h3 : D < (d : Int) <;> first | rw [if_pos h3, if_pos (by omega)] | rw [if_neg h3, if_neg (by omega)]), by go_num, by first | exact HB2.out | exact HB2.out.drew | exact Below.drewN_ HB2.out _⟩
        · obtain rfl : b = (d : Int) := by omega
          by_cases hDb : D < (d : Int)
          · have hk : kk = D := by rw [HKK.out, if_pos hDb]
            subst hk
            have hneg : ¬ kk < 0 := by omega
            clear hkD
            have e5 : IntKind.i64.wrap ((d : Int) * n) = (d : Int) * n := by rcases hb with h | h | h <;> rw [h] <;> exact IntWalk.i64_in _ (by omega)
            have hpr : 0 ≤ (d : Int) * n ∧ (d : Int) * n ≤ 34359738384 := by rcases hb with h | h | h <;> rw [h] <;> omega
            generalize hpp : (d : Int) * n = pp at *
            have e6 : IntKind.i64.wrap (pp + kk) = pp + kk := IntWalk.i64_in _ (by omega)
            have HPP := Lib.hid hpp
            have HDB := Lib.hid hDb
            clear hpp hDb
            go_wp2_with fail
            have htk : s.data.toList.take (i + 1) = s.data.toList.take i ++ [c] := by
              have h3 := HX.out
              rw [← h3]
              exact nth_take s.data.toList i (by simpa using hil)
            go_roundg (s.size - (i + 1))
            case measure => omega
            case rel =>
              refine ⟨i + 1, _, by omega, rfl, rfl, by go_num, HB2.out, ?_, ?_⟩
              · have e7 : wrap64 (wrap64 ((d : Int) * n) + kk) = pp + kk := by have h6 := HDB.out; rw [HPP.out]; unfold wrap64; omega
                have h3 := HNN.out
                have h4 := pv_nonneg (d : Int) (by omega) (s.data.toList.take i)
                rw [e7, htk, pv_snoc, ← HD.out, ← HPP.out, h3]
                generalize pv (d : Int) (s.data.toList.take i) = P at *
                rcases hb with h | h | h <;> rw [h] <;> omega
              · rw [htk, List.all_append, HAL.out]
                have h3 := HDB.out
                rw [HD.out] at h3
                simp [h3]
          · have hk : kk = -1 := by rw [HKK.out, if_neg hDb]
            subst hk
            have HDB := Lib.hid hDb
            clear hkD hDb
            go_wp2_with fail
            have hN : N = -1 := by
              rw [HN.out]
              unfold rvR
              rw [if_pos]
              right
              rw [List.all_eq_false]
              refine ⟨c, ?_, ?_⟩
              · have h3 := HX.out
                rw [← h3]
                exact Array.getElem_mem_toList _
              · have h3 := HDB.out
                rw [HD.out] at h3
                simpa using h3
            subst hN
            go_ret
            exact ⟨rfl, HB2.out⟩
    · obtain rfl : i = s.size := by omega
      have htk : s.data.toList.take s.size = s.data.toList := List.take_of_length_le (by simp)
      by_cases hz : s.size = 0
      · have hnil : s.data.toList = [] := List.eq_nil_of_length_eq_zero (by simpa using hz)
        have hN : N = -1 := by rw [HN.out]; unfold rvR; rw [if_pos (.inl hnil)]
        subst hN
        have hz' : ((s.size : Int) == 0) = true := by rw [hz]; rfl
        clear htk hnil
        go_wp2_with fail
        go_ret
        exact ⟨rfl, HBE.out⟩
      · have hN : N = n := by
          have h1 := HNN.out
          have h2 := HAL.out
          rw [htk] at h1 h2
          rw [HN.out, h1]
          unfold rvR
          rw [if_neg]
          intro h
          rcases h with h | h
          · exact hz (by have := congrArg List.length h; simpa using this)
          · rw [h2] at h; cases h
        subst hN
        have hz' : ((s.size : Int) == 0) = false := by simp only [beq_eq_false_iff_ne, ne_eq]; omega
        clear htk
        go_wp2_with fail
        go_ret
        exact ⟨rfl, HBE.out⟩
end
section
open Go.RowKit
set_option linter.unusedVariables false
set_option linter.unusedSimpArgs false

theorem bytes_inj_ {a b : ByteArray} (h : a.data.toList = b.data.toList) : a = b := by
  cases a; cases b
  congr
  exact Array.toList_inj.1 h
theorem two_pre (s : ByteArray) (h : 1 < s.size) (a b : UInt8) : ((s.extract 0 2).toList == [a, b]) = Lib.hasPrefix s.data.toList [a, b] := by
  have e : (s.extract 0 2).toList = s.data.toList.take 2 := by rw [Lib.toList_data]; simp
  have hl : s.data.toList.length = s.size := by simp
  rw [e]
  unfold Lib.hasPrefix
  rcases hd : s.data.toList with _ | ⟨x, _ | ⟨y, r⟩⟩
  · rw [hd] at hl; simp at hl; omega
  · rw [hd] at hl; simp at hl; omega
  · rw [Bool.eq_iff_iff]; simp [List.isPrefixOf]; constructor <;> (rintro ⟨rfl, rfl⟩; exact ⟨rfl, rfl⟩)
set_option maxRecDepth 100000 in
set_option maxHeartbeats 1000000 in
theorem refNum_any (s : ByteArray) (w : World) (h0 : 0 < s.size) (hs : s.size ≤ 1000000) : Calls Tryz.prog 94 #[.string s] w fun e w' => e = .returned (.int .i64 (rvR (ntB s) (ntD s).data.toList)) ∧ Below w.heap.size w w' := by
  obtain ⟨N, hN⟩ : ∃ N, N = rvR (ntB s) (ntD s).data.toList := ⟨_, rfl⟩
  rw [← hN]
  have HN := Lib.hid hN
  clear hN
  have h0' : (0 : Int) < (s.size : Int) := by omega
  by_cases hz : s = ⟨#[48]⟩
  · subst hz
    have : N = 0 := by rw [HN.out]; decide +kernel
    subst this
    clear HN
    go_enter Tryz.func94, Tryz.ntmps94
    go_wp2_with fail
    go_ret
    exact ⟨rfl, Below.refl _ _⟩
  · have HZ := Lib.hid hz
    have ez : (s.toList == [48]) = false := by
      rw [Lib.toList_data]
      simp only [beq_eq_false_iff_ne, ne_eq]
      intro h
      exact hz (bytes_inj_ (by rw [h]))
    clear hz
    have hh : s.data.toList.headD 0 = s[0] := by
      have := drop_at s 0 h0
      rw [List.drop_zero] at this
      rw [this]; rfl
    have hA : ntD s = if Lib.hasPrefix s.data.toList [48, 120] || Lib.hasPrefix s.data.toList [48, 88] then s.extract 2 s.size else if decide (1 < s.size) && (s.data.toList.headD 0 == 48) then s.extract 1 s.size else s := rfl
    have hB : ntB s = if Lib.hasPrefix s.data.toList [48, 120] || Lib.hasPrefix s.data.toList [48, 88] then 16 else if decide (1 < s.size) && (s.data.toList.headD 0 == 48) then 8 else 10 := rfl
    have z1 := fun h => pre_size (s := s) (a := 48) (b := 120) h
    have z2 := fun h => pre_size (s := s) (a := 48) (b := 88) h
    rw [hh] at hA hB
    have hsz1 : s.size = 1 → s[0] ≠ 48 := by
      intro h1 h2
      apply HZ.out
      apply bytes_inj_
      have hl : s.data.toList.length = 1 := by simpa using h1
      rcases hd : s.data.toList with _ | ⟨x, _ | ⟨y, r⟩⟩
      · rw [hd] at hl; simp at hl
      · rw [hd] at hh; rw [← hh] at h2; simp at h2; rw [h2]
      · rw [hd] at hl; simp at hl
    generalize hc : s[0] = c at *
    by_cases h1 : 1 < s.size
    · have h1' : (1 : Int) < (s.size : Int) := by omega
      have t1 := two_pre s h1 48 120
      have t2 := two_pre s h1 48 88
      generalize Lib.hasPrefix s.data.toList [48, 120] = x1 at *
      generalize Lib.hasPrefix s.data.toList [48, 88] = x2 at *
      have HA := Lib.hid hA
      have HBB := Lib.hid hB
      clear hA hB z1 z2 hh hsz1
      have fin16 : (x1 || x2) = true → N = rvR 16 (s.extract 2 s.size).data.toList := by intro h; rw [HN.out, HA.out, HBB.out, if_pos h, if_pos h]
      have fin8' : (x1 || x2) = false → c = 48 → N = rvR 8 (s.extract 1 s.size).data.toList := by intro h hc; rw [HN.out, HA.out, HBB.out, h]; simp [h1, hc]
      have fin10 : (x1 || x2) = false → c ≠ 48 → N = rvR 10 s.data.toList := by intro h hc; rw [HN.out, HA.out, HBB.out, h]; simp [hc]
      have F16 := Lib.hid fin16
      have F8 := Lib.hid fin8'
      have F10 := Lib.hid fin10
      clear fin16 fin8' fin10
      cases x1
      · cases x2
        · by_cases hc48 : c = 48
          · have e1 : ((c.toNat : Int) == 48) = true := by rw [hc48]; rfl
            have H48 := Lib.hid hc48
            clear hc48
            go_enter Tryz.func94, Tryz.ntmps94
            go_wp2_with fail
            refine (refVal_any _ 8 (by omega) _ (by simp; omega)).mono ?_
            rintro e w1 ⟨rfl, hb⟩
            rw [← F8.out rfl H48.out]
            go_wp2_with fail
            go_ret
            exact ⟨rfl, hb⟩
          · have e1 : ((c.toNat : Int) == 48) = false := by simp only [beq_eq_false_iff_ne, ne_eq]; intro e; exact hc48 (UInt8.toNat_inj.1 (by show c.toNat = 48; omega))
            have H48 := Lib.hid hc48
            clear hc48
            go_enter Tryz.func94, Tryz.ntmps94
            go_wp2_with fail
            refine (refVal_any _ 10 (by omega) _ hs).mono ?_
            rintro e w1 ⟨rfl, hb⟩
            rw [← F10.out rfl H48.out]
            go_wp2_with fail
            go_ret
            exact ⟨rfl, hb⟩
        · go_enter Tryz.func94, Tryz.ntmps94
          go_wp2_with fail
          refine (refVal_any _ 16 (by omega) _ (by simp; omega)).mono ?_
          rintro e w1 ⟨rfl, hb⟩
          rw [← F16.out rfl]
          go_wp2_with fail
          go_ret
          exact ⟨rfl, hb⟩
      · go_enter Tryz.func94, Tryz.ntmps94
        go_wp2_with fail
        refine (refVal_any _ 16 (by omega) _ (by simp; omega)).mono ?_
        rintro e w1 ⟨rfl, hb⟩
        rw [← F16.out rfl]
        go_wp2_with fail
        go_ret
        exact ⟨rfl, hb⟩
    · have h1' : ¬ (1 : Int) < (s.size : Int) := by omega
      have hne : c ≠ 48 := hsz1 (by omega)
      have e1 : ((c.toNat : Int) == 48) = false := by simp only [beq_eq_false_iff_ne, ne_eq]; intro e; exact hne (UInt8.toNat_inj.1 (by show c.toNat = 48; omega))
      have q1 : Lib.hasPrefix s.data.toList [48, 120] = false := by cases hq : Lib.hasPrefix s.data.toList [48, 120]; · rfl
                                                                    · exact absurd (z1 hq) (by omega)
      have q2 : Lib.hasPrefix s.data.toList [48, 88] = false := by cases hq : Lib.hasPrefix s.data.toList [48, 88]; · rfl
                                                                   · exact absurd (z2 hq) (by omega)
      have hN : N = rvR 10 s.data.toList := by rw [HN.out, hA, hB, q1, q2]; simp [hne]
      have HN2 := Lib.hid hN
      clear hA hB z1 z2 hh hsz1 hne q1 q2 hN
      go_enter Tryz.func94, Tryz.ntmps94
      go_wp2_with fail
      refine (refVal_any _ 10 (by omega) _ hs).mono ?_
      rintro e w1 ⟨rfl, hb⟩
      rw [← HN2.out]
      go_wp2_with fail
      go_ret
      exact ⟨rfl, hb⟩
end
section
set_option linter.unusedVariables false
set_option linter.unusedSimpArgs false

theorem dgV_32 {c : UInt8} (h : dgV c.toNat < 16) : 32 ≤ c.toNat := by
  unfold dgV at h
  split at h
  · omega
  · split at h
    · omega
    · split at h <;> omega
theorem nmF_bytes {base : Int} (hb : base ≤ 16) : ∀ (k : Nat) (n : Int) (l : List UInt8), ∀ x ∈ l.take (nmF base k n l).2, 32 ≤ x.toNat
  | 0, n, l, x, h => by simp [nmF] at h
  | k + 1, n, [], x, h => by simp at h
  | k + 1, n, c :: r, x, h => by
    rw [nmF] at h
    by_cases hd : dgV c.toNat < base
    · rw [if_pos hd] at h
      simp only [List.take_succ_cons, List.mem_cons] at h
      rcases h with rfl | h
      · exact dgV_32 (by omega)
      · exact nmF_bytes hb k _ r x h
    · rw [if_neg hd] at h
      simp at h
theorem look_32 {c : UInt8} {x : Esc} (h : lookT escT c.toNat = some x) : 32 ≤ c.toNat := by
  have hk : (decide ((lookT escT c.toNat).isSome = true → 32 ≤ c.toNat)) = true := fin8 (p := fun c => decide ((lookT escT c.toNat).isSome = true → 32 ≤ c.toNat)) (by decide +kernel) c
  exact of_decide_eq_true hk (by rw [h]; rfl)
theorem escL_bytes (l : List UInt8) : ∀ y ∈ l.take (escL l).2, 32 ≤ y.toNat := by
  intro y hy
  cases l with
  | nil => simp at hy
  | cons c r =>
    rw [escL] at hy
    cases hl : lookT escT c.toNat with
    | none => rw [hl] at hy; simp at hy
    | some x =>
      rw [hl] at hy
      have h32 := look_32 hl
      obtain ⟨f1, f2, f3, f4⟩ := esc_fine _ _ hl
      simp only [escX] at hy
      by_cases hb : x.base = 0
      · rw [if_pos hb] at hy
        simp at hy
        rw [hy]; exact h32
      · rw [if_neg hb] at hy
        have hn := nmF_bytes (base := x.base) (by omega) x.most 0 ((c :: r).drop x.skip)
        generalize nmF x.base x.most 0 ((c :: r).drop x.skip) = q at *
        have h2 : (escN x q).2 = 0 ∨ (escN x q).2 = x.skip + q.2 := by
          unfold escN
          repeat' split
          all_goals first | exact .inl rfl | exact .inr rfl
        rcases h2 with h2 | h2
        · rw [h2] at hy; simp at hy
        · rw [h2, List.take_add] at hy
          rcases List.mem_append.1 hy with hy | hy
          · have : x.skip = 0 ∨ x.skip = 1 := by omega
            rcases this with h | h
            · rw [h] at hy; simp at hy
            · rw [h] at hy; simp at hy; rw [hy]; exact h32
          · exact hn y hy
theorem rqF_plain (q : UInt8) (hq : q = 34 ∨ q = 39) : ∀ (k : Nat) (l v : List UInt8), rqF q k l = some v → ∀ x ∈ l, 32 ≤ x.toNat
  | 0, l, v, h, _, _ => by simp [rqF] at h
  | k + 1, [], v, h, x, hx => by simp at hx
  | k + 1, c :: r, v, h, x, hx => by
    rw [rqF] at h
    by_cases h1 : c = q
    · rw [if_pos h1] at h
      by_cases h2 : r = []
      · subst h2
        simp at hx
        rw [hx, h1]
        rcases hq with rfl | rfl <;> decide
      · rw [if_neg h2] at h; cases h
    · rw [if_neg h1] at h
      by_cases h2 : c.toNat < 32
      · rw [if_pos h2] at h; cases h
      · rw [if_neg h2] at h
        rcases List.mem_cons.1 hx with rfl | hx
        · omega
        by_cases h3 : c.toNat ≠ 92
        · rw [if_pos h3] at h
          obtain ⟨v', hv, _⟩ := Option.map_eq_some_iff.1 h
          exact rqF_plain q hq k r v' hv x hx
        · rw [if_neg h3] at h
          by_cases h4 : r = []
          · subst h4; simp at hx
          · rw [if_neg h4] at h
            by_cases h5 : (escL r).2 = 0
            · rw [if_pos h5] at h; cases h
            · rw [if_neg h5] at h
              obtain ⟨v', hv, _⟩ := Option.map_eq_some_iff.1 h
              rw [← List.take_append_drop (escL r).2 r] at hx
              rcases List.mem_append.1 hx with hx | hx
              · exact escL_bytes r x hx
              · exact rqF_plain q hq k _ v' hv x hx
/-- A literal that is one has plain bytes alone. -/
theorem unq_plain {l v : List UInt8} (h : unqL l = some v) : ∀ x ∈ l, 32 ≤ x.toNat := by
  rw [← rq_unq] at h
  unfold rqL at h
  by_cases h1 : l.length < 2
  · rw [if_pos h1] at h; cases h
  · rw [if_neg h1] at h
    by_cases h2 : (l.headD 0).toNat ≠ 34 ∧ (l.headD 0).toNat ≠ 39
    · rw [if_pos h2] at h; cases h
    · rw [if_neg h2] at h
      cases l with
      | nil => simp at h1
      | cons c r =>
        have hq : c = 34 ∨ c = 39 := by
          have : c.toNat = 34 ∨ c.toNat = 39 := by simp at h2; omega
          rcases this with h | h
          · exact .inl (UInt8.toNat_inj.1 h)
          · exact .inr (UInt8.toNat_inj.1 h)
        intro x hx
        rcases List.mem_cons.1 hx with rfl | hx
        · rcases hq with rfl | rfl <;> decide
        · exact rqF_plain c hq _ r v h x hx
theorem li_lr (q : UInt8) : ∀ (k p : Nat) (l : List UInt8), lrF q k p l = liF q k p l ∨ (lrF q k p l = 0 ∧ (liF q k p l = 0 ∨ (10 : UInt8) ∈ l.take (liF q k p l - p)))
  | 0, p, l => .inl rfl
  | k + 1, p, [] => .inl rfl
  | k + 1, p, c :: r => by
    rw [lrF, liF]
    by_cases h1 : c = 10
    · rw [if_pos h1, if_pos h1]; exact .inl rfl
    · rw [if_neg h1, if_neg h1]
      by_cases h2 : c = q
      · rw [if_pos h2, if_pos h2]; exact .inl rfl
      · rw [if_neg h2, if_neg h2]
        by_cases h3 : c = 92
        · rw [if_pos h3, if_pos h3]
          by_cases h4 : r.head? = some 10
          · rw [if_pos h4]
            right
            refine ⟨rfl, ?_⟩
            rcases liF_le q k (p + 2) (r.drop 1) with h | ⟨h5, h6⟩
            · exact .inl h
            · right
              cases r with
              | nil => simp at h4
              | cons d r =>
                simp at h4
                subst h4
                generalize liF q k (p + 2) (List.drop 1 (10 :: r)) = N at *
                obtain ⟨m, hm⟩ : ∃ m, N - p = m + 2 := ⟨N - p - 2, by omega⟩
                rw [hm]
                simp
          · rw [if_neg h4]
            rcases li_lr q k (p + 2) (r.drop 1) with h | ⟨h5, h6⟩
            · exact .inl h
            · right
              refine ⟨h5, h6.imp id fun h => ?_⟩
              generalize liF q k (p + 2) (r.drop 1) = N at *
              rcases Nat.lt_or_ge (p + 2) N with h7 | h7
              · cases r with
                | nil => simp at h
                | cons d r =>
                  obtain ⟨m, hm⟩ : ∃ m, N - p = m + 2 := ⟨N - p - 2, by omega⟩
                  have hm2 : N - (p + 2) = m := by omega
                  rw [hm2] at h
                  rw [hm]
                  simp at h ⊢
                  exact .inr (.inr h)
              · have : N - (p + 2) = 0 := by omega
                rw [this] at h
                simp at h
        · rw [if_neg h3, if_neg h3]
          rcases li_lr q k (p + 1) r with h | ⟨h5, h6⟩
          · exact .inl h
          · right
            refine ⟨h5, h6.imp id fun h => ?_⟩
            generalize liF q k (p + 1) r = N at *
            rcases Nat.lt_or_ge (p + 1) N with h7 | h7
            · obtain ⟨m, hm⟩ : ∃ m, N - p = m + 1 := ⟨N - p - 1, by omega⟩
              have hm2 : N - (p + 1) = m := by omega
              rw [hm2] at h
              rw [hm]
              simp at h ⊢
              exact .inr h
            · have : N - (p + 1) = 0 := by omega
              rw [this] at h
              simp at h
/-- What the document's answer says of a literal at a place: its end is the program's, or both tell a fault. -/
theorem lit_agree (q : UInt8) (r : List UInt8) : (lrP q 1 r = liL (q :: r)) ∨ (lrP q 1 r = 0 ∧ (liL (q :: r) = 0 ∨ unqL ((q :: r).take (liL (q :: r))) = none)) := by
  have h := li_lr q r.length 1 r
  show lrF q r.length 1 r = liF q r.length 1 r ∨ (lrF q r.length 1 r = 0 ∧ (liF q r.length 1 r = 0 ∨ unqL ((q :: r).take (liF q r.length 1 r)) = none))
  rcases h with h | ⟨h1, h2 | h2⟩
  · exact .inl h
  · exact .inr ⟨h1, .inl h2⟩
  · refine .inr ⟨h1, ?_⟩
    generalize liF q r.length 1 r = N at *
    rcases Nat.eq_zero_or_pos N with h0 | h0
    · exact .inl h0
    · right
      cases hu : unqL ((q :: r).take N) with
      | none => rfl
      | some v =>
        have := unq_plain hu 10 (by
          obtain ⟨m, rfl⟩ : ∃ m, N = m + 1 := ⟨N - 1, by omega⟩
          simp at h2 ⊢
          exact .inr h2)
        exact absurd this (by decide)
theorem lrF_shift (q : UInt8) : ∀ (k p d : Nat) (l : List UInt8), lrF q k (p + d) l = if lrF q k p l = 0 then 0 else lrF q k p l + d
  | 0, p, d, l => by simp [lrF]
  | k + 1, p, d, [] => by simp [lrF]
  | k + 1, p, d, c :: r => by
    have i1 := lrF_shift q k (p + 2) d (r.drop 1)
    have i2 := lrF_shift q k (p + 1) d r
    rw [lrF, lrF]
    by_cases h1 : c = 10
    · rw [if_pos h1, if_pos h1]; rfl
    · rw [if_neg h1, if_neg h1]
      by_cases h2 : c = q
      · rw [if_pos h2, if_pos h2, if_neg (by omega)]; omega
      · rw [if_neg h2, if_neg h2]
        by_cases h3 : c = 92
        · rw [if_pos h3, if_pos h3]
          by_cases h4 : r.head? = some 10
          · rw [if_pos h4, if_pos h4]; rfl
          · rw [if_neg h4, if_neg h4, show p + d + 2 = p + 2 + d by omega, i1]
        · rw [if_neg h3, if_neg h3, show p + d + 1 = p + 1 + d by omega, i2]
/-- The document's end of a literal at a place p. -/
theorem lrP_at (q : UInt8) (p : Nat) (r : List UInt8) : lrP q (p + 1) r = if lrP q 1 r = 0 then 0 else lrP q 1 r + p := by
  have := lrF_shift q r.length 1 p r
  rw [show 1 + p = p + 1 by omega] at this
  exact this
/-- The number of a word, in both ways to tell it. -/
theorem num_agree (s : ByteArray) : (rvR (ntB s) (ntD s).data.toList < 0 ∧ vlR s = (0, 30)) ∨ (2147483648 < rvR (ntB s) (ntD s).data.toList ∧ vlR s = (0, 9)) ∨
    (0 ≤ rvR (ntB s) (ntD s).data.toList ∧ rvR (ntB s) (ntD s).data.toList ≤ 2147483648 ∧ vlR s = (rvR (ntB s) (ntD s).data.toList, 0)) := by
  have h0 : (ntD s).data.toList = [] ↔ (ntD s).size = 0 := by
    constructor
    · intro h; have := congrArg List.length h; simpa using this
    · intro h; exact List.eq_nil_of_length_eq_zero (by simpa using h)
  have hb := ntB_is s
  have hp := pv_nonneg (ntB s) (by omega) (ntD s).data.toList
  unfold vlR rvR
  by_cases h1 : (ntD s).data.toList = [] ∨ (ntD s).data.toList.all (fun x => decide (dgV x.toNat < ntB s)) = false
  · left
    rw [if_pos h1, if_pos (by rwa [h0] at h1)]
    exact ⟨by omega, rfl⟩
  · rw [if_neg h1, if_neg (by rwa [h0] at h1)]
    generalize pv (ntB s) (ntD s).data.toList = P at *
    by_cases h2 : 2147483648 < P
    · right; left
      rw [if_pos h2]
      exact ⟨by omega, rfl⟩
    · right; right
      rw [if_neg h2, Int.min_eq_left (by omega)]
      exact ⟨hp, by omega, rfl⟩
end
section
open Go.RowKit
set_option linter.unusedVariables false
set_option linter.unusedSimpArgs false

/-- The next two bytes are these. -/
theorem two_at (s : ByteArray) (p m : Nat) (hm : m = p + 2 ∨ (m = s.size ∧ s.size ≤ p + 2)) (a b : UInt8) : ((s.extract p m).toList == [a, b]) = Lib.hasPrefix (s.data.toList.drop p) [a, b] := by
  have e : (s.extract p m).toList = (s.data.toList.drop p).take 2 := by
    rw [Lib.toList_data, extract_mid]
    rcases hm with rfl | ⟨rfl, h⟩
    · congr 1; omega
    · rw [List.take_of_length_le (by simp), List.take_of_length_le (by simp; omega)]
  rw [e]
  unfold Lib.hasPrefix
  rcases s.data.toList.drop p with _ | ⟨x, _ | ⟨y, r⟩⟩
  · rfl
  · simp [List.isPrefixOf]
  · rw [Bool.eq_iff_iff]; simp [List.isPrefixOf]; constructor <;> (rintro ⟨rfl, rfl⟩; exact ⟨rfl, rfl⟩)
theorem bl_int (c : UInt8) : (((c.toNat : Int) == 32) || ((c.toNat : Int) == 9) || ((c.toNat : Int) == 13) || ((c.toNat : Int) == 10)) = blB c := by
  have : ((((c.toNat : Int) == 32) || ((c.toNat : Int) == 9) || ((c.toNat : Int) == 13) || ((c.toNat : Int) == 10)) == blB c) = true := fin8 (p := fun c => (((c.toNat : Int) == 32) || ((c.toNat : Int) == 9) || ((c.toNat : Int) == 13) || ((c.toNat : Int) == 10)) == blB c) (by decide +kernel) c
  simpa using this
/-- Where something is found, from a place on. -/
def IxR (X i d : Int) : Prop := (i = -1 ∧ X = -1) ∨ (∃ j : Nat, i = j ∧ X = d + j)
theorem IxR.start (i : Int) (h : -1 ≤ i) (d : Int) (hd : d = 0) : IxR i i d := by
  by_cases h1 : i = -1
  · exact .inl ⟨h1, h1⟩
  · obtain ⟨j, rfl⟩ := Int.eq_ofNat_of_zero_le (show 0 ≤ i by omega)
    exact .inr ⟨j, rfl, by omega⟩
theorem index_step (c : UInt8) (r : List UInt8) : Lib.index (c :: r) [42, 47] = if Lib.hasPrefix (c :: r) [42, 47] = true then 0 else if Lib.index r [42, 47] = -1 then -1 else Lib.index r [42, 47] + 1 := by
  rw [Lib.index]
  simp only [Lib.hasPrefix, beq_iff_eq]
  rfl
theorem IxR.next {X i i' d : Int} (h : IxR X i d) (e : i = if i' = -1 then -1 else i' + 1) (hi : -1 ≤ i') : IxR X i' (d + 1) := by
  by_cases h1 : i' = -1
  · rw [if_pos h1] at e
    rcases h with ⟨_, h⟩ | ⟨j, h2, h3⟩
    · exact .inl ⟨h1, h⟩
    · omega
  · rw [if_neg h1] at e
    rcases h with ⟨h2, _⟩ | ⟨j, h2, h3⟩
    · omega
    · exact .inr ⟨j - 1, by omega, by omega⟩
set_option maxRecDepth 100000 in
set_option maxHeartbeats 1000000 in
theorem refSkip_any (s : ByteArray) (p : Nat) (w : World) (hp : p ≤ s.size) (hs : s.size ≤ 1000000) : Calls Tryz.prog 46 #[.string s, .int .i64 p] w fun e w' => e = .returned (.tuple #[.int .i64 ((p + (skL (s.data.toList.drop p)).1 : Nat) : Int), .bool (skL (s.data.toList.drop p)).2]) ∧ Below w.heap.size w w' := by
  obtain ⟨N, O, hN, hO⟩ : ∃ N O, N = p + (skL (s.data.toList.drop p)).1 ∧ O = (skL (s.data.toList.drop p)).2 := ⟨_, _, rfl, rfl⟩
  rw [← hN, ← hO]
  have HN := Lib.hid hN
  have HO := Lib.hid hO
  clear hN hO
  go_enter Tryz.func46, Tryz.ntmps46
  go_wp2_with fail
  go_loopg [1] (s.size - p) (fun g v wr => ∃ p' : Nat, p' ≤ s.size ∧ g = s.size - p' ∧ v = .int .i64 p' ∧ Below w.heap.size w wr ∧ N = p' + (skL (s.data.toList.drop p')).1 ∧ O = (skL (s.data.toList.drop p')).2)
  case atStart => exact ⟨p, hp, rfl, rfl, Below.refl _ _, HN.out, HO.out⟩
  case round =>
    obtain ⟨q, hq, rfl, rfl, hb, hN, hO⟩ := hrel
    have HB := Lib.hid hb
    clear HN HO hb
    by_cases hlt : q < s.size
    · have hlt' : (q : Int) < (s.size : Int) := by omega
      have hd := drop_at s q hlt
      generalize hx : s[q] = c at *
      have hbi := bl_int c
      obtain ⟨m, hm, hmn⟩ : ∃ m : Nat, min ((q : Int) + 2) (s.size : Int) = (m : Int) ∧ (m = q + 2 ∨ (m = s.size ∧ s.size ≤ q + 2)) := by
        by_cases h : q + 2 ≤ s.size
        · exact ⟨q + 2, by omega, .inl rfl⟩
        · exact ⟨s.size, by omega, .inr ⟨rfl, by omega⟩⟩
      have t1 := two_at s q m hmn 47 47
      have t2 := two_at s q m hmn 47 42
      have hml : m ≤ s.size := by rcases hmn with h | h <;> omega
      have hqm : q ≤ m := by rcases hmn with h | h <;> omega
      cases hbl : blB c
      · have hc : c ≠ 32 ∧ c ≠ 9 ∧ c ≠ 13 ∧ c ≠ 10 := by unfold blB at hbl; simpa [and_assoc] using hbl
        have ne8 : ∀ z : UInt8, c ≠ z → ((c.toNat : Int) == (z.toNat : Int)) = false := fun z h => by
          simp only [beq_eq_false_iff_ne, ne_eq]; intro e; exact h (UInt8.toNat_inj.1 (by omega))
        have b1 : ((c.toNat : Int) == 32) = false := ne8 32 hc.1
        have b2 : ((c.toNat : Int) == 9) = false := ne8 9 hc.2.1
        have b3 : ((c.toNat : Int) == 13) = false := ne8 13 hc.2.2.1
        have b4 : ((c.toNat : Int) == 10) = false := ne8 10 hc.2.2.2
        clear ne8 hc
        cases hx1 : Lib.hasPrefix (s.data.toList.drop q) [47, 47]
        · cases hx2 : Lib.hasPrefix (s.data.toList.drop q) [47, 42]
          · rw [hx1] at t1
            rw [hx2] at t2
            have hsk : skL (s.data.toList.drop q) = (0, true) := by rw [hd] at hx1 hx2 ⊢; exact skL_stop hbl hx1 hx2
            rw [hsk] at hN hO
            obtain rfl : N = q := hN
            obtain rfl : O = true := hO
            clear hd hx1 hx2 hsk hbi hmn hbl
            go_wp2_with fail
            refine bodyPost_ret (v := .tuple #[.int .i64 (N : Nat), .bool true]) (by simp [results, Tryz.results46, go_sem]) rfl ⟨rfl, HB.out⟩
          · rw [hx1] at t1
            rw [hx2] at t2
            have hq2 : q + 2 ≤ s.size := by
              have h2 : (s.data.toList.drop q).length = s.size - q := by simp
              rw [hd] at hx2 h2
              obtain ⟨r', _, hr⟩ := pre_head hx2
              rw [hr] at h2
              simp only [List.length_cons] at h2
              omega
            obtain rfl : m = q + 2 := by omega
            have hdr2 : (c :: s.data.toList.drop (q + 1)).drop 2 = s.data.toList.drop (q + 2) := by rw [← hd, List.drop_drop]
            have hge := Lib.index_ge (s.data.toList.drop (q + 2)) [42, 47]
            obtain ⟨X, hX⟩ : ∃ X, X = Lib.index (s.data.toList.drop (q + 2)) [42, 47] := ⟨_, rfl⟩
            have HX := Lib.hid hX
            have HD := Lib.hid hd
            have HX1 := Lib.hid hx1
            have HX2 := Lib.hid hx2
            have HBL := Lib.hid hbl
            have HD2 := Lib.hid hdr2
            have HN := Lib.hid hN
            have HO := Lib.hid hO
            clear hX hd hx1 hx2 hbl hbi hdr2 hmn hN hO hge
            go_wp2_with fail
            go_loopg [7] (s.size - (q + 2)) (fun g v w2 => ∃ k : Nat, q + 2 ≤ k ∧ k ≤ s.size ∧ g = s.size - k ∧ v = .int .i64 k ∧ wr = w2 ∧ IxR X (Lib.index (s.data.toList.drop k) [42, 47]) ((k : Int) - (q + 2)))
            case atStart => exact ⟨q + 2, by omega, hq2, rfl, by go_num, rfl, by rw [HX.out]; exact IxR.start _ (Lib.index_ge _ _) _ (by omega)⟩
            case round =>
              obtain ⟨k, hqk, hk, rfl, rfl, rfl, hI⟩ := hrel
              by_cases hks : k + 1 < s.size
              · have hks' : (k : Int) + 1 < (s.size : Int) := by omega
                have t3 := two_at s k (k + 2) (.inl rfl) 42 47
                have hdk := drop_at s k (by omega)
                have hix := index_step s[k] (s.data.toList.drop (k + 1))
                rw [← hdk] at hix
                clear hdk
                cases hpr : Lib.hasPrefix (s.data.toList.drop k) [42, 47]
                · rw [hpr] at t3 hix
                  rw [if_neg (by simp)] at hix
                  have HI := Lib.hid (hI.next hix (Lib.index_ge _ _))
                  clear hI hix hpr
                  go_wp2_with fail
                  go_roundg (s.size - (k + 1))
                  case measure => omega
                  case rel => exact ⟨k + 1, by omega, by omega, rfl, by go_num, rfl, by have := HI.out; rw [show (k : Int) - (q + 2) + 1 = ((k + 1 : Nat) : Int) - (q + 2) by omega] at this; exact this⟩
                · rw [hpr] at t3 hix
                  rw [if_pos rfl] at hix
                  rw [hix] at hI
                  have hXk : X = (k : Int) - (q + 2) := by rcases hI with ⟨h, _⟩ | ⟨j, h, h2⟩ <;> omega
                  have hXi : X = ((k - (q + 2) : Nat) : Int) := by omega
                  have hXX := HX.out
                  rw [hXi] at hXX
                  have hsk := skL_remark HBL.out (by rw [← HD.out]; exact HX1.out) (by rw [← HD.out]; exact HX2.out) (by rw [HD2.out]; exact hXX.symm)
                  rw [← HD.out, List.drop_drop, show q + (4 + (k - (q + 2))) = k + 2 by omega] at hsk
                  have hN := HN.out
                  have hO := HO.out
                  rw [hsk] at hN hO
                  have HN3 := Lib.hid (show N = k + 2 + (skL (s.data.toList.drop (k + 2))).1 by rw [hN]; simp only; omega)
                  have HO3 := Lib.hid (show O = (skL (s.data.toList.drop (k + 2))).2 from hO)
                  clear hI hix hpr hXk hXi hXX hsk hN hO
                  go_wp2_with fail
                  go_roundg (s.size - (k + 2))
                  case measure => omega
                  case rel => exact ⟨k + 2, by omega, rfl, by go_num, HB.out, HN3.out, HO3.out⟩
              · have hks' : ¬ (k : Int) + 1 < (s.size : Int) := by omega
                have hks2 : (s.size : Int) ≤ (k : Int) + 1 := by omega
                have hm1 : Lib.index (s.data.toList.drop k) [42, 47] = -1 := by
                  have h1 := Lib.index_ge (s.data.toList.drop k) [42, 47]
                  have h2 := Lib.index_room (s.data.toList.drop k) [42, 47]
                  have h3 : (s.data.toList.drop k).length = s.size - k := by simp
                  simp only [List.length_cons, List.length_nil, h3] at h2
                  omega
                rw [hm1] at hI
                have hX1 : X = -1 := by rcases hI with ⟨_, h⟩ | ⟨j, h, h2⟩ <;> omega
                have hXX := HX.out
                have hsk := skL_open HBL.out (by rw [← HD.out]; exact HX1.out) (by rw [← HD.out]; exact HX2.out) (by rw [HD2.out, ← hXX]; omega)
                rw [← HD.out] at hsk
                have hN := HN.out
                have hO := HO.out
                rw [hsk] at hN hO
                obtain rfl : N = q := hN
                obtain rfl : O = false := hO
                clear hI hm1 hX1 hXX hsk
                go_wp2_with fail
                refine bodyPost_ret (v := .tuple #[.int .i64 (N : Nat), .bool false]) (by simp [results, Tryz.results46, go_sem]) rfl ⟨rfl, HB.out⟩
        · rw [hx1] at t1
          have hl2 := lnL_two (c := c) (r := s.data.toList.drop (q + 1)) (by rw [← hd]; exact hx1)
          have hll := lnL_le (s.data.toList.drop q)
          have hsk := skL_line (c := c) (r := s.data.toList.drop (q + 1)) hbl (by rw [← hd]; exact hx1)
          rw [← hd] at hsk hl2
          obtain ⟨M, hM⟩ : ∃ M, M = q + lnL (s.data.toList.drop q) := ⟨_, rfl⟩
          have hN2 : N = M + (skL (s.data.toList.drop M)).1 := by rw [hN, hsk, List.drop_drop, ← hM]; simp only; omega
          have hO2 : O = (skL (s.data.toList.drop M)).2 := by rw [hO, hsk, List.drop_drop, ← hM]
          have hMs : M ≤ s.size := by have : (s.data.toList.drop q).length = s.size - q := by simp
                                      omega
          have hMq : q < M := by omega
          have HN := Lib.hid hN2
          have HO := Lib.hid hO2
          have HM := Lib.hid hM
          clear hN hO hN2 hO2 hd t2 hbi hbl hx1 hl2 hll hsk hM hmn
          go_wp2_with fail
          go_loopg [1] (s.size - q) (fun g v w2 => ∃ k : Nat, k ≤ s.size ∧ g = s.size - k ∧ v = .int .i64 k ∧ wr = w2 ∧ M = k + lnL (s.data.toList.drop k))
          case atStart => exact ⟨q, hq, rfl, rfl, rfl, HM.out⟩
          case round =>
            obtain ⟨k, hk, rfl, rfl, rfl, hK⟩ := hrel
            by_cases hks : k < s.size
            · have hks' : (k : Int) < (s.size : Int) := by omega
              rw [drop_at s k hks, lnL] at hK
              generalize hy : s[k] = d at *
              by_cases hd10 : d = 10
              · have e1 : ((d.toNat : Int) != 10) = false := by rw [hd10]; rfl
                rw [if_pos hd10] at hK
                obtain rfl : M = k := by omega
                clear hK hd10
                go_wp2_with fail
                go_roundg (s.size - M)
                case measure => omega
                case rel => exact ⟨M, hMs, rfl, rfl, HB.out, HN.out, HO.out⟩
              · have e1 : ((d.toNat : Int) != 10) = true := by simp only [bne_iff_ne, ne_eq]; intro e; exact hd10 (UInt8.toNat_inj.1 (by show d.toNat = 10; omega))
                rw [if_neg hd10] at hK
                have HK := Lib.hid (show M = k + 1 + lnL (s.data.toList.drop (k + 1)) by omega)
                clear hK hd10
                go_wp2_with fail
                go_roundg (s.size - (k + 1))
                case measure => omega
                case rel => exact ⟨k + 1, by omega, rfl, by go_num, rfl, HK.out⟩
            · obtain rfl : k = s.size := by omega
              have h0 : s.data.toList.drop s.size = [] := List.drop_eq_nil_of_le (by simp)
              rw [h0] at hK
              obtain rfl : M = s.size := hK
              go_wp2_with fail
              go_roundg (s.size - s.size)
              case measure => omega
              case rel => exact ⟨s.size, hMs, rfl, rfl, HB.out, HN.out, HO.out⟩
      · have hN2 : N = q + 1 + (skL (s.data.toList.drop (q + 1))).1 := by rw [hN, hd, skL_blank hbl]; simp only; omega
        have hO2 : O = (skL (s.data.toList.drop (q + 1))).2 := by rw [hO, hd, skL_blank hbl]
        have HN := Lib.hid hN2
        have HO := Lib.hid hO2
        have hc : c = 32 ∨ c = 9 ∨ c = 13 ∨ c = 10 := by unfold blB at hbl; simpa [or_assoc] using hbl
        clear hN hO hN2 hO2 hd t1 t2 hbi hbl
        rcases hc with rfl | rfl | rfl | rfl
        all_goals
          go_wp2_with fail
          go_roundg (s.size - (q + 1))
          case measure => omega
          case rel => exact ⟨q + 1, by omega, rfl, by go_num, HB.out, HN.out, HO.out⟩
    · obtain rfl : q = s.size := by omega
      have h0 : s.data.toList.drop s.size = [] := List.drop_eq_nil_of_le (by simp)
      rw [h0] at hN hO
      obtain rfl : N = s.size := hN
      obtain rfl : O = true := hO
      go_wp2_with fail
      refine bodyPost_ret (v := .tuple #[.int .i64 (s.size : Nat), .bool true]) (by simp [results, Tryz.results46, go_sem]) rfl ⟨rfl, HB.out⟩
end
section
open Go.RowKit
set_option linter.unusedVariables false
set_option linter.unusedSimpArgs false

/-- What the document's answer says of the word at a place. -/
def RwP (w : World) (T : Tk) (p : Nat) (e : Ending) (w' : World) : Prop := ∃ (k q : Nat) (t : ByteArray) (n z : Int), e = .returned (.tuple #[wv k q t n, .int .i64 z, .int .i64 T.e]) ∧ Below w.heap.size w w' ∧ (T.e = 0 → k = T.k ∧ q = p ∧ t = T.t ∧ n = T.n ∧ z = ((p + T.z : Nat) : Int))
theorem runL_all : ∀ (l : List UInt8), ∀ x ∈ runL l, wdZ (x.toNat : Nat) = true
  | [], x, h => by simp [runL] at h
  | c :: r, x, h => by
    rw [runL_cons] at h
    split at h
    · rename_i hc
      rcases List.mem_cons.1 h with rfl | h
      · exact hc
      · exact runL_all r x h
    · simp at h
theorem ident_len {c : UInt8} {r : List UInt8} (h : ltZ (c.toNat : Nat) = true) : identL (runL (c :: r)) = decide ((runL (c :: r)).length ≤ 32) := by
  have hk : decide (ltZ (c.toNat : Nat) = true → dgZ (c.toNat : Nat) = false ∧ wdZ (c.toNat : Nat) = true) = true := fin8 (p := fun c => decide (ltZ (c.toNat : Nat) = true → dgZ (c.toNat : Nat) = false ∧ wdZ (c.toNat : Nat) = true)) (by decide +kernel) c
  obtain ⟨h1, h2⟩ := of_decide_eq_true hk h
  have hall : (runL (c :: r)).all (fun x => idZ x.toNat) = true := by
    rw [List.all_eq_true]
    intro x hx
    have hx2 := runL_all (c :: r) x hx
    have hk2 : (wdZ (x.toNat : Nat) == idZ (x.toNat : Nat)) = true := fin8 (p := fun x => wdZ (x.toNat : Nat) == idZ (x.toNat : Nat)) (by decide +kernel) x
    have : wdZ (x.toNat : Nat) = idZ (x.toNat : Nat) := by simpa using hk2
    rw [← this]; exact hx2
  unfold identL
  rw [hall]
  rw [runL_cons, h2, if_pos rfl]
  simp [h1]

theorem two33 (w : World) (a b : Array Value) : Blk ((w.alloc (.cells a 33)).alloc (.cells b 33)) w.heap.size 33 a ∧ Blk ((w.alloc (.cells a 33)).alloc (.cells b 33)) (w.heap.size + 1) 33 b ∧ Below w.heap.size w ((w.alloc (.cells a 33)).alloc (.cells b 33)) := by
  have h2 := Blk.new (w.alloc (.cells a 33)) 33 b
  rw [World.size_alloc] at h2
  exact ⟨Blk.alloc (Blk.new w 33 a) _, h2, ((Below.refl _ w).alloc (Nat.le_refl _) _).alloc (by simp) _⟩
section
set_option maxRecDepth 100000
set_option maxHeartbeats 1000000
theorem rw_ident (s : ByteArray) (p : Nat) (w : World) (hp : p < s.size) (hs : s.size ≤ 1000000) (hy : ltZ (s[p].toNat : Nat) = true) (L : Nat) (hL : L = (runL (s.data.toList.drop p)).length) :
    Calls Tryz.prog 47 #[.string s, .int .i64 p] w (RwP w (if L ≤ 32 then ⟨0, 1, s.extract p (p + L), 0, L⟩ else ⟨30, 0, ⟨#[]⟩, 0, 0⟩) p) := by
  have hp' : (p : Int) < (s.size : Int) := by omega
  have hrest := fun W => refRest_any s p W (by omega) hs
  have hrl := runL_len (s.data.toList.drop p)
  have hll : (s.data.toList.drop p).length = s.size - p := by simp
  have c1 := fun W => refLetter_any (s[p].toNat : Nat) W
  obtain ⟨R, hR⟩ : ∃ R, R = p + L := ⟨_, rfl⟩
  rw [← hL, ← hR] at hrest
  rw [← hL] at hrl
  rw [hy] at c1
  rw [← hR]
  have hpR : p ≤ R := by omega
  have hRs : R ≤ s.size := by omega
  have HR := Lib.hid hrest
  have C1 := Lib.hid c1
  have HRL := Lib.hid hR
  generalize hx : s[p] = c at *
  have e1 : IntKind.i64.wrap ((R : Int) - (p : Int)) = (L : Int) := by rw [show (R : Int) - (p : Int) = (L : Int) by omega]; exact IntWalk.i64_in _ (by omega)
  have hpR' : (p : Int) ≤ (R : Int) := by omega
  have hRs' : (R : Int) ≤ (s.size : Int) := by omega
  clear hrest c1 hL hy hR hrl hll
  by_cases h32 : L ≤ 32
  · have h32' : ¬ (32 : Int) < (L : Int) := by omega
    rw [if_pos h32]
    go_enter Tryz.func47, Tryz.ntmps47
    go_wp2_with fail
    refine (C1.out _).mono ?_
    rintro e _ ⟨rfl, rfl⟩
    go_wp2_with fail
    refine (HR.out _).mono ?_
    rintro e _ ⟨rfl, rfl⟩
    go_wp2_with fail
    refine bodyPost_ret (v := .tuple #[wv 1 p (s.extract p R) 0, .int .i64 R, .int .i64 0]) (by simp [results, Tryz.results47, go_sem, wv]) rfl ⟨1, p, _, 0, R, rfl, (two33 w _ _).2.2, fun _ => ⟨rfl, rfl, rfl, rfl, by rw [HRL.out]⟩⟩
  · have h32' : (32 : Int) < (L : Int) := by omega
    rw [if_neg h32]
    go_enter Tryz.func47, Tryz.ntmps47
    go_wp2_with fail
    refine (C1.out _).mono ?_
    rintro e _ ⟨rfl, rfl⟩
    go_wp2_with fail
    refine (HR.out _).mono ?_
    rintro e _ ⟨rfl, rfl⟩
    go_wp2_with fail
    refine bodyPost_ret (v := .tuple #[wv 0 p ⟨#[]⟩ 0, .int .i64 0, .int .i64 30]) (by simp [results, Tryz.results47, go_sem, wv]) rfl ⟨0, p, _, 0, 0, rfl, (two33 w _ _).2.2, fun h => by cases h⟩
theorem rw_sign (s : ByteArray) (p : Nat) (w : World) (hp : p < s.size) (hs : s.size ≤ 1000000) (h1 : ltZ (s[p].toNat : Nat) = false) (h2 : dgZ (s[p].toNat : Nat) = false) (h3 : s[p].toNat ≠ 34 ∧ s[p].toNat ≠ 39) :
    Calls Tryz.prog 47 #[.string s, .int .i64 p] w (RwP w (if sgB s[p] then ⟨0, 4, s.extract p (p + 1), 0, 1⟩ else ⟨30, 0, ⟨#[]⟩, 0, 0⟩) p) := by
  have hp' : (p : Int) < (s.size : Int) := by omega
  have hp2 : (p : Int) + 1 ≤ (s.size : Int) := by omega
  have c1 := fun W => refLetter_any (s[p].toNat : Nat) W
  have c2 := fun W => refDigit_any (s[p].toNat : Nat) W
  have c3 := fun W => refSign_any s[p] W
  rw [h1] at c1
  rw [h2] at c2
  generalize hx : s[p] = c at *
  have e1 : ((c.toNat : Int) == 34) = false := by simp only [beq_eq_false_iff_ne, ne_eq]; omega
  have e2 : ((c.toNat : Int) == 39) = false := by simp only [beq_eq_false_iff_ne, ne_eq]; omega
  have C1 := Lib.hid c1
  have C2 := Lib.hid c2
  clear c1 c2 h1 h2 h3
  cases hsg : sgB c
  · rw [hsg] at c3
    rw [if_neg (by simp)]
    have C3 := Lib.hid c3
    clear c3 hsg
    go_enter Tryz.func47, Tryz.ntmps47
    go_wp2_with fail
    refine (C1.out _).mono ?_
    rintro e _ ⟨rfl, rfl⟩
    go_wp2_with fail
    refine (C2.out _).mono ?_
    rintro e _ ⟨rfl, rfl⟩
    go_wp2_with fail
    refine (C3.out _).mono ?_
    rintro e _ ⟨rfl, rfl⟩
    go_wp2_with fail
    refine bodyPost_ret (v := .tuple #[wv 0 p ⟨#[]⟩ 0, .int .i64 0, .int .i64 30]) (by simp [results, Tryz.results47, go_sem, wv]) rfl ⟨0, p, _, 0, 0, rfl, (two33 w _ _).2.2, fun h => by cases h⟩
  · rw [hsg] at c3
    rw [if_pos rfl]
    have C3 := Lib.hid c3
    clear c3 hsg
    go_enter Tryz.func47, Tryz.ntmps47
    go_wp2_with fail
    refine (C1.out _).mono ?_
    rintro e _ ⟨rfl, rfl⟩
    go_wp2_with fail
    refine (C2.out _).mono ?_
    rintro e _ ⟨rfl, rfl⟩
    go_wp2_with fail
    refine (C3.out _).mono ?_
    rintro e _ ⟨rfl, rfl⟩
    go_wp2_with fail
    refine bodyPost_ret (v := .tuple #[wv 4 p (s.extract p (p + 1)) 0, .int .i64 ((p : Int) + 1), .int .i64 0]) (by simp [results, Tryz.results47, go_sem, wv]) rfl ⟨4, p, _, 0, _, rfl, (two33 w _ _).2.2, fun _ => ⟨rfl, rfl, rfl, rfl, by simp⟩⟩
theorem rw_num (s : ByteArray) (p : Nat) (w : World) (hp : p < s.size) (hs : s.size ≤ 1000000) (h1 : ltZ (s[p].toNat : Nat) = false) (h2 : dgZ (s[p].toNat : Nat) = true) (L : Nat) (hL : L = (runL (s.data.toList.drop p)).length) :
    Calls Tryz.prog 47 #[.string s, .int .i64 p] w (RwP w (if (vlR (s.extract p (p + L))).2 = 0 then ⟨0, 2, s.extract p (p + L), (vlR (s.extract p (p + L))).1, L⟩ else ⟨(vlR (s.extract p (p + L))).2, 0, ⟨#[]⟩, 0, 0⟩) p) := by
  have hp' : (p : Int) < (s.size : Int) := by omega
  have hrest := fun W => refRest_any s p W (by omega) hs
  have hrl := runL_len (s.data.toList.drop p)
  have hll : (s.data.toList.drop p).length = s.size - p := by simp
  have hpos := ext_pos (s := s) hp (show wdZ (s[p].toNat : Nat) = true by unfold wdZ; rw [h2]; simp)
  have c1 := fun W => refLetter_any (s[p].toNat : Nat) W
  have c2 := fun W => refDigit_any (s[p].toNat : Nat) W
  rw [h1] at c1
  rw [h2] at c2
  obtain ⟨R, hR⟩ : ∃ R, R = p + L := ⟨_, rfl⟩
  rw [← hL, ← hR] at hrest
  rw [← hL] at hrl hpos
  rw [← hR]
  have hpR : p ≤ R := by omega
  have hRs : R ≤ s.size := by omega
  obtain ⟨t, ht⟩ : ∃ t, s.extract p R = t := ⟨_, rfl⟩
  have hts : t.size = R - p := by rw [← ht]; simp [ByteArray.size_extract]; omega
  have hnum := fun W => refNum_any t W (by omega) (by omega)
  have hag := num_agree t
  rw [ht]
  obtain ⟨T, hT⟩ : ∃ T : Tk, T = (if (vlR t).2 = 0 then ⟨0, 2, t, (vlR t).1, L⟩ else ⟨(vlR t).2, 0, ⟨#[]⟩, 0, 0⟩) := ⟨_, rfl⟩
  rw [← hT]
  have HT := Lib.hid hT
  clear hT
  generalize rvR (ntB t) (ntD t).data.toList = n at *
  generalize vlR t = v at *
  have HN := Lib.hid hnum
  have HR := Lib.hid hrest
  have C1 := Lib.hid c1
  have C2 := Lib.hid c2
  have HRL := Lib.hid hR
  generalize hx : s[p] = c at *
  have hpR' : (p : Int) ≤ (R : Int) := by omega
  have hRs' : (R : Int) ≤ (s.size : Int) := by omega
  have hz := two33 w #[.int .i64 0, .int .i64 0, .string ⟨#[]⟩, .int .i64 0] #[.int .i64 0, .int .i64 p, .string ⟨#[]⟩, .int .i64 0]
  have HZ := Lib.hid hz
  clear hrest c1 c2 hL h1 h2 hR hrl hll hpos hts hnum hz
  go_enter Tryz.func47, Tryz.ntmps47
  go_wp2_with fail
  refine (C1.out _).mono ?_
  rintro e _ ⟨rfl, rfl⟩
  go_wp2_with fail
  refine (C2.out _).mono ?_
  rintro e _ ⟨rfl, rfl⟩
  go_wp2_with fail
  refine (HR.out _).mono ?_
  rintro e _ ⟨rfl, rfl⟩
  go_wp2_with fail
  refine (HN.out _).mono ?_
  rintro e w2 ⟨rfl, hb2⟩
  have hz0 : Blk w2 w.heap.size 33 #[.int .i64 0, .int .i64 0, .string ⟨#[]⟩, .int .i64 0] := HZ.out.1.below hb2 (by first | (simp; done) | (simp; omega))
  have hz1 : Blk w2 (w.heap.size + 1) 33 #[.int .i64 0, .int .i64 p, .string ⟨#[]⟩, .int .i64 0] := HZ.out.2.1.below hb2 (by first | (simp; done) | (simp; omega))
  have HB2 := Lib.hid (HZ.out.2.2.trans (hb2.mono (by first | (simp; done) | (simp; omega))))
  have HZ0 := Lib.hid hz0
  have HZ1 := Lib.hid hz1
  obtain ⟨a0, a1, a2, a3, y0, y1, y2, y3⟩ := blk33 hz0
  obtain ⟨b0, b1, b2, b3, x0, x1, x2, x3⟩ := blk33 hz1
  clear hb2 hz0 hz1 HZ
  have hT := HT.out
  clear HT
  rcases hag with ⟨q1, rfl⟩ | ⟨q1, rfl⟩ | ⟨q1, q2, rfl⟩
  · rw [if_neg (by simp)] at hT
    subst hT
    go_wp2_with fail
    obtain ⟨f0, f1, f2, f3, _, _, _, _⟩ := blk33 (set4 HZ0.out (.int .i64 0) (.int .i64 p) (.string ⟨#[]⟩) (.int .i64 0))
    refine bodyPost_ret (v := .tuple #[wv 0 p ⟨#[]⟩ 0, .int .i64 0, .int .i64 30]) (by simp [results, Tryz.results47, go_sem, wv, f0, f1, f2, f3]) rfl ⟨0, p, _, 0, 0, rfl, below_set4 HB2.out (Nat.le_refl _) _ _ _ _, fun h => by cases h⟩
  · rw [if_neg (by simp)] at hT
    subst hT
    have q2 : ¬ n < 0 := by omega
    go_wp2_with fail
    obtain ⟨f0, f1, f2, f3, _, _, _, _⟩ := blk33 (set4 HZ0.out (.int .i64 0) (.int .i64 p) (.string ⟨#[]⟩) (.int .i64 0))
    refine bodyPost_ret (v := .tuple #[wv 0 p ⟨#[]⟩ 0, .int .i64 0, .int .i64 9]) (by simp [results, Tryz.results47, go_sem, wv, f0, f1, f2, f3]) rfl ⟨0, p, _, 0, 0, rfl, below_set4 HB2.out (Nat.le_refl _) _ _ _ _, fun h => by cases h⟩
  · rw [if_pos rfl] at hT
    subst hT
    have q3 : ¬ n < 0 := by omega
    have q4 : ¬ 2147483648 < n := by omega
    go_wp2_with fail
    obtain ⟨f0, f1, f2, f3, _, _, _, _⟩ := blk33 (set4 (((HZ0.out.far (p := ⟨w.heap.size + 1, 0, none⟩) (by simp) (.int .i64 2)).far (p := ⟨w.heap.size + 1, 2, none⟩) (by simp) (.string t)).far (p := ⟨w.heap.size + 1, 3, none⟩) (by simp) (.int .i64 n)) (.int .i64 2) (.int .i64 p) (.string t) (.int .i64 n))
    refine bodyPost_ret (v := .tuple #[wv 2 p t n, .int .i64 R, .int .i64 0]) (by simp [results, Tryz.results47, go_sem, wv, f0, f1, f2, f3]) rfl ⟨2, p, _, n, R, rfl, ?_, fun _ => ⟨rfl, rfl, rfl, rfl, by rw [HRL.out]⟩⟩
    exact below_set4 (((HB2.out.setCell (by simp) _).setCell (by simp) _).setCell (by simp) _) (Nat.le_refl _) _ _ _ _
theorem rw_lit (s : ByteArray) (p : Nat) (w : World) (hp : p < s.size) (hs : s.size ≤ 1000000) (h1 : ltZ (s[p].toNat : Nat) = false) (h2 : dgZ (s[p].toNat : Nat) = false) (h3 : s[p].toNat = 34 ∨ s[p].toNat = 39) (N : Nat) (hN : N = liL (s.data.toList.drop p)) :
    Calls Tryz.prog 47 #[.string s, .int .i64 p] w (RwP w (if N = 0 then ⟨21, 0, ⟨#[]⟩, 0, 0⟩ else match unqL ((s.data.toList.drop p).take N) with | none => ⟨21, 0, ⟨#[]⟩, 0, 0⟩ | some v => ⟨0, 3, ⟨v.toArray⟩, 0, N⟩) p) := by
  have hp' : (p : Int) < (s.size : Int) := by omega
  have hd := drop_at s p hp
  have hlit := fun W => refLit_any s p W hp hs
  have hag := lit_agree s[p] (s.data.toList.drop (p + 1))
  rw [← hd, ← hN] at hag
  rw [lrP_at] at hlit
  have hNl : N = 0 ∨ (2 ≤ N ∧ p + N ≤ s.size) := by
    rw [hN, hd]
    have h4 : (s.data.toList.drop (p + 1)).length = s.size - (p + 1) := by simp
    rcases liF_le s[p] (s.data.toList.drop (p + 1)).length 1 (s.data.toList.drop (p + 1)) with h | ⟨h5, h6⟩
    · exact .inl h
    · right
      show 2 ≤ liF _ _ _ _ ∧ p + liF _ _ _ _ ≤ _
      omega
  have c1 := fun W => refLetter_any (s[p].toNat : Nat) W
  have c2 := fun W => refDigit_any (s[p].toNat : Nat) W
  rw [h1] at c1
  rw [h2] at c2
  obtain ⟨T, hT⟩ : ∃ T : Tk, T = (if N = 0 then ⟨21, 0, ⟨#[]⟩, 0, 0⟩ else match unqL ((s.data.toList.drop p).take N) with | none => ⟨21, 0, ⟨#[]⟩, 0, 0⟩ | some v => ⟨0, 3, ⟨v.toArray⟩, 0, N⟩) := ⟨_, rfl⟩
  rw [← hT]
  have C1 := Lib.hid c1
  have C2 := Lib.hid c2
  generalize hM : lrP s[p] 1 (s.data.toList.drop (p + 1)) = M at *
  generalize hx : s[p] = c at *
  have hz := two33 w #[.int .i64 0, .int .i64 0, .string ⟨#[]⟩, .int .i64 0] #[.int .i64 0, .int .i64 p, .string ⟨#[]⟩, .int .i64 0]
  have HZ := Lib.hid hz
  have hcs : ((c.toNat : Int) == 34) = true ∨ (((c.toNat : Int) == 34) = false ∧ ((c.toNat : Int) == 39) = true) := by
    rcases h3 with h | h
    · left; simp; omega
    · right; constructor <;> (simp; omega)
  by_cases hM0 : M = 0
  · rw [if_pos hM0] at hlit
    have hT2 : T = ⟨21, 0, ⟨#[]⟩, 0, 0⟩ := by
      rw [hT]
      rcases hag with h | ⟨_, h | h⟩
      · rw [if_pos (by omega)]
      · rw [if_pos h]
      · by_cases h0 : N = 0
        · rw [if_pos h0]
        · rw [if_neg h0, h]
    subst hT2
    have HL := Lib.hid hlit
    clear c1 c2 hN h1 h2 h3 hz hlit hag hT hd hNl hM hM0
    go_enter Tryz.func47, Tryz.ntmps47
    go_wp2_with fail
    refine (C1.out _).mono ?_
    rintro e _ ⟨rfl, rfl⟩
    go_wp2_with fail
    refine (C2.out _).mono ?_
    rintro e _ ⟨rfl, rfl⟩
    rcases hcs with d | ⟨d, d'⟩
    all_goals
      go_wp2_with fail
      refine (HL.out _).mono ?_
      rintro e w2 ⟨rfl, hb2⟩
      have hz0 : Blk w2 w.heap.size 33 #[.int .i64 0, .int .i64 0, .string ⟨#[]⟩, .int .i64 0] := HZ.out.1.below hb2 (by first | (simp; done) | (simp; omega))
      have hz1 : Blk w2 (w.heap.size + 1) 33 #[.int .i64 0, .int .i64 p, .string ⟨#[]⟩, .int .i64 0] := HZ.out.2.1.below hb2 (by first | (simp; done) | (simp; omega))
      have HB2 := Lib.hid (HZ.out.2.2.trans (hb2.mono (by first | (simp; done) | (simp; omega))))
      have HZ0 := Lib.hid hz0
      have HZ1 := Lib.hid hz1
      obtain ⟨a0, a1, a2, a3, y0, y1, y2, y3⟩ := blk33 hz0
      obtain ⟨b0, b1, b2, b3, x0, x1, x2, x3⟩ := blk33 hz1
      clear hb2 hz0 hz1
      unfold lrA
      go_wp2_with fail
      obtain ⟨f0, f1, f2, f3, _, _, _, _⟩ := blk33 (set4 HZ0.out (.int .i64 0) (.int .i64 p) (.string ⟨#[]⟩) (.int .i64 0))
      refine bodyPost_ret (v := .tuple #[wv 0 p ⟨#[]⟩ 0, .int .i64 0, .int .i64 21]) (by simp [results, Tryz.results47, go_sem, wv, f0, f1, f2, f3]) rfl ⟨0, p, _, 0, 0, rfl, below_set4 HB2.out (Nat.le_refl _) _ _ _ _, fun h => by cases h⟩
  · rw [if_neg hM0] at hlit
    have hMN : M = N := by
      rcases hag with h | ⟨h, _⟩
      · exact h
      · exact absurd h hM0
    subst hMN
    obtain ⟨n1, n2⟩ : 2 ≤ M ∧ p + M ≤ s.size := by
      rcases hNl with h | h
      · exact absurd h hM0
      · exact h
    rw [if_neg hM0] at hT
    obtain ⟨R, hR⟩ : ∃ R, R = M + p := ⟨_, rfl⟩
    rw [← hR] at hlit
    have hpR' : (p : Int) ≤ (R : Int) := by omega
    have hRs' : (R : Int) ≤ (s.size : Int) := by omega
    have hR0 : decide (R ≠ 0) = true := by simp; omega
    obtain ⟨t, ht⟩ : ∃ t, s.extract p R = t := ⟨_, rfl⟩
    have htl : t.data.toList = (s.data.toList.drop p).take M := by rw [← ht, extract_mid]; congr 1; omega
    have hts : t.size ≤ 1000000 := by rw [← ht]; simp [ByteArray.size_extract]; omega
    have hun := fun W => runquote_any t W hts
    rw [htl] at hun
    generalize unqL ((s.data.toList.drop p).take M) = U at *
    have HUN := Lib.hid hun
    have HL := Lib.hid hlit
    have HT := Lib.hid hT
    have HRL := Lib.hid hR
    clear c1 c2 hN h1 h2 h3 hz hlit hag hT hd hNl hM hM0 hun htl hR
    go_enter Tryz.func47, Tryz.ntmps47
    go_wp2_with fail
    refine (C1.out _).mono ?_
    rintro e _ ⟨rfl, rfl⟩
    go_wp2_with fail
    refine (C2.out _).mono ?_
    rintro e _ ⟨rfl, rfl⟩
    rcases hcs with d | ⟨d, d'⟩
    all_goals
      go_wp2_with fail
      refine (HL.out _).mono ?_
      rintro e w2 ⟨rfl, hb2⟩
      have hz0 : Blk w2 w.heap.size 33 #[.int .i64 0, .int .i64 0, .string ⟨#[]⟩, .int .i64 0] := HZ.out.1.below hb2 (by first | (simp; done) | (simp; omega))
      have hz1 : Blk w2 (w.heap.size + 1) 33 #[.int .i64 0, .int .i64 p, .string ⟨#[]⟩, .int .i64 0] := HZ.out.2.1.below hb2 (by first | (simp; done) | (simp; omega))
      have HB2 := Lib.hid (HZ.out.2.2.trans (hb2.mono (by first | (simp; done) | (simp; omega))))
      have HZ0 := Lib.hid hz0
      have HZ1 := Lib.hid hz1
      unfold lrA
      rw [hR0]
      clear hb2 hz0 hz1
      go_wp2_with fail
      refine (HUN.out _).mono ?_
      rintro e w3 ⟨v3, rfl, ho3, hb3⟩
      have HLT := Lib.hid (show w.heap.size + 1 < w2.heap.size from HZ1.out.lt)
      have hz0 := HZ0.out.below hb3 HZ0.out.lt
      have hz1 := HZ1.out.below hb3 HZ1.out.lt
      have HB3 := Lib.hid (HB2.out.trans (hb3.mono HB2.out.size))
      have HY0 := Lib.hid hz0
      have HY1 := Lib.hid hz1
      obtain ⟨a0, a1, a2, a3, y0, y1, y2, y3⟩ := blk33 hz0
      obtain ⟨b0, b1, b2, b3, x0, x1, x2, x3⟩ := blk33 hz1
      have hT := HT.out
      clear hb3 hz0 hz1 HT HB2 HZ0 HZ1 HZ
      cases U with
      | none =>
        simp only at hT
        subst hT
        obtain ⟨A3, c3, rfl, _⟩ := ho3.bs
        clear ho3
        unfold ansR
        go_wp2_with fail
        obtain ⟨f0, f1, f2, f3, _, _, _, _⟩ := blk33 (set4 HY0.out (.int .i64 0) (.int .i64 p) (.string ⟨#[]⟩) (.int .i64 0))
        refine bodyPost_ret (v := .tuple #[wv 0 p ⟨#[]⟩ 0, .int .i64 0, .int .i64 21]) (by simp [results, Tryz.results47, go_sem, wv, f0, f1, f2, f3]) rfl ⟨0, p, _, 0, 0, rfl, below_set4 HB3.out (Nat.le_refl _) _ _ _ _, fun h => by cases h⟩
      | some v =>
        simp only at hT
        subst hT
        obtain ⟨A3, c3, rfl, hB3⟩ := ho3.bs
        have hw2 : w.heap.size + 1 < w2.heap.size := HLT.out
        have hcv3 : (convert 42 9 (.slice A3 v.length c3)).run Tryz.prog (w3.setCell ⟨w.heap.size + 1, 0, none⟩ (.int .i64 3)) = .ok (.string ⟨v.toArray⟩) (w3.setCell ⟨w.heap.size + 1, 0, none⟩ (.int .i64 3)) :=
          (hB3.setCell (p := ⟨w.heap.size + 1, 0, none⟩) (.inl hw2) _).convert (P := Tryz.prog) 42 5 9 Tryz.underlying42 Tryz.underlying5 Tryz.underlying9
        generalize (⟨v.toArray⟩ : ByteArray) = vb at *
        clear ho3 hB3
        unfold ansR
        go_wp2_with fail
        obtain ⟨f0, f1, f2, f3, _, _, _, _⟩ := blk33 (set4 ((HY0.out.far (p := ⟨w.heap.size + 1, 0, none⟩) (by simp) (.int .i64 3)).far (p := ⟨w.heap.size + 1, 2, none⟩) (by simp) (.string vb)) (.int .i64 3) (.int .i64 p) (.string vb) (.int .i64 0))
        refine bodyPost_ret (v := .tuple #[wv 3 p vb 0, .int .i64 R, .int .i64 0]) (by simp [results, Tryz.results47, go_sem, wv, f0, f1, f2, f3]) rfl ⟨3, p, _, 0, R, rfl, ?_, fun _ => ⟨rfl, rfl, rfl, rfl, by rw [HRL.out, Nat.add_comm]⟩⟩
        exact below_set4 ((HB3.out.setCell (by simp) _).setCell (by simp) _) (Nat.le_refl _) _ _ _ _
end
theorem refWord_any (s : ByteArray) (p : Nat) (w : World) (hp : p < s.size) (hs : s.size ≤ 1000000) : Calls Tryz.prog 47 #[.string s, .int .i64 p] w (RwP w (tkR s p s[p]) p) := by
  have hcl := cl_apart s[p]
  unfold tkR
  simp only
  by_cases h0 : clN s[p] = 0
  · rw [if_pos h0]
    have hy : ltZ (s[p].toNat : Nat) = true := by have := hcl.1; rw [h0] at this; simpa using this
    have hil := ident_len (c := s[p]) (r := s.data.toList.drop (p + 1)) hy
    rw [← drop_at s p hp] at hil
    have := rw_ident s p w hp hs hy _ rfl
    rw [hil]
    simpa using this
  · rw [if_neg h0]
    have hy : ltZ (s[p].toNat : Nat) = false := by have := hcl.1; rw [decide_eq_false h0] at this; simpa using this
    by_cases h1 : clN s[p] = 1
    · rw [if_pos h1]
      exact rw_num s p w hp hs hy (by have := hcl.2.1; rw [h1] at this; simpa using this) _ rfl
    · rw [if_neg h1]
      have hz : dgZ (s[p].toNat : Nat) = false := by have := hcl.2.1; rw [decide_eq_false h1] at this; simpa using this
      by_cases h2 : clN s[p] = 2
      · rw [if_pos h2]
        have hq : quB s[p] = true := by have := hcl.2.2.1; rw [h2] at this; simpa using this
        refine rw_lit s p w hp hs hy hz ?_ _ rfl
        unfold quB at hq
        simp only [Bool.or_eq_true, beq_iff_eq] at hq
        rcases hq with h | h <;> rw [h] <;> simp
      · rw [if_neg h2]
        have hq : quB s[p] = false := by have := hcl.2.2.1; rw [decide_eq_false h2] at this; simpa using this
        have hsg := hcl.2.2.2
        have := rw_sign s p w hp hs hy hz (by
          unfold quB at hq
          simp only [Bool.or_eq_false_iff, beq_eq_false_iff_ne, ne_eq] at hq
          exact ⟨fun h => hq.1 (UInt8.toNat_inj.1 h), fun h => hq.2 (UInt8.toNat_inj.1 h)⟩)
        by_cases h3 : clN s[p] = 3
        · rw [if_pos h3]
          rw [h3] at hsg
          have hs3 : sgB s[p] = true := by simpa using hsg
          rw [if_pos hs3] at this
          exact this
        · rw [if_neg h3]
          rw [decide_eq_false h3] at hsg
          have hs3 : sgB s[p] = false := by simpa using hsg
          rw [if_neg (by simp [hs3])] at this
          exact this
end
section
open Go.RowKit
set_option linter.unusedVariables false
set_option linter.unusedSimpArgs false

structure RsR (w : World) (s : ByteArray) (R : WR) (v : Value) (p : Nat) (acc : List Wd) (wr : World) : Prop where
  own : OwnW wr w.heap.size v acc
  bel : Below w.heap.size w wr
  le : p ≤ s.size
  few : acc.length ≤ p
  fin : ∃ k, s.size - p < k ∧ R = comb acc (wdF s k p)

set_option maxRecDepth 100000 in
set_option maxHeartbeats 1000000 in
theorem refWords_any (s : ByteArray) (w : World) (hs : s.size ≤ 1000000) : Calls Tryz.prog 14 #[.string s] w (WsP w (wordsR s)) := by
  obtain ⟨i0, hi0, hz0, hz1, hz2⟩ := info_parts Tryz.info33
  unfold wordsR
  by_cases hbig : 65536 < s.size
  · rw [if_pos hbig]
    have hbig' : (65536 : Int) < (s.size : Int) := by omega
    go_enter Tryz.func14, Tryz.ntmps14
    go_wp2_with fail
    refine bodyPost_ret (v := .tuple #[.slice none 0 0, .int .i64 0, .int .i64 5]) (by simp [results, Tryz.results14, go_sem]) rfl ⟨_, rfl, OwnW.nil _ _, Below.refl _ _⟩
  · rw [if_neg hbig]
    have hbig' : ¬ (65536 : Int) < (s.size : Int) := by omega
    obtain ⟨R, hR⟩ : ∃ R, R = wdF s (s.size + 1) 0 := ⟨_, rfl⟩
    rw [← hR]
    have HR := Lib.hid hR
    have hst : RsR w s R (.slice none 0 0) 0 [] w := by
      refine ⟨OwnW.nil _ _, Below.refl _ _, by omega, by simp, s.size + 1, by omega, ?_⟩
      rw [hR]
      unfold comb
      split
      · rfl
      · rename_i h
        have h' : (wdF s (s.size + 1) 0).e = 0 := by simpa using h
        rw [List.nil_append]
        exact wd_at0 s _ _ h'
    have HST := Lib.hid hst
    clear hR hbig hst
    go_enter Tryz.func14, Tryz.ntmps14
    go_wp2_with fail
    go_loopg [5, 6] (s.size + 1) (fun g v5 v6 wr => ∃ (p : Nat) (acc : List Wd), g = s.size + 1 - p ∧ v6 = .int .i64 p ∧ RsR w s R v5 p acc wr)
    case atStart => exact ⟨0, [], rfl, rfl, HST.out⟩
    case round =>
      obtain ⟨p, acc, rfl, rfl, hrel⟩ := hrel
      obtain ⟨q, O, hqO⟩ : ∃ q O, q = p + (skL (s.data.toList.drop p)).1 ∧ O = (skL (s.data.toList.drop p)).2 := ⟨_, _, rfl, rfl⟩
      obtain ⟨hq, hO⟩ := hqO
      have hql : q ≤ s.size := by
        have := skL_le (s.data.toList.drop p).length (s.data.toList.drop p)
        have h2 : (s.data.toList.drop p).length = s.size - p := by simp
        have h3 := hrel.le
        unfold skL at hq
        omega
      have hpq : p ≤ q := by omega
      obtain ⟨k, hk, hfin⟩ := hrel.fin
      obtain ⟨k, rfl⟩ : ∃ k', k = k' + 1 := ⟨k - 1, by omega⟩
      rw [wdF] at hfin
      simp only [← hq, ← hO] at hfin
      have hsk := fun W => refSkip_any s p W hrel.le hs
      rw [← hq, ← hO] at hsk
      have HSK := Lib.hid hsk
      have HREL := Lib.hid hrel
      have HFIN := Lib.hid hfin
      have hfew := hrel.few
      obtain ⟨A2, c2, rfl, hc2, hc3, _⟩ := hrel.own.val
      clear hq hO hrel hfin hsk
      go_wp2_with fail
      refine (HSK.out _).mono ?_
      rintro e w1 ⟨rfl, hb1⟩
      have HOW1 := Lib.hid (HREL.out.own.below hb1)
      have HBE1 := Lib.hid (HREL.out.bel.trans (hb1.mono HREL.out.bel.size))
      clear hb1 HSK HREL
      cases O
      · have hR2 : R = ⟨30, q, []⟩ := by rw [HFIN.out, if_pos rfl]; rfl
        have HR2 := Lib.hid hR2
        clear hR2
        go_wp2_with fail
        refine bodyPost_ret (v := .tuple #[.slice none 0 0, .int .i64 q, .int .i64 30]) (by simp [results, Tryz.results14, go_sem]) rfl ?_
        rw [HR2.out]
        exact ⟨_, rfl, OwnW.nil _ _, HBE1.out⟩
      · by_cases hend : q = s.size
        · have hR2 : R = ⟨0, 0, acc ++ [⟨0, q, ⟨#[]⟩, 0⟩]⟩ := by rw [HFIN.out, if_neg (by simp), if_pos hend]; rfl
          have HR2 := Lib.hid hR2
          have he : ((q : Int) == (s.size : Int)) = true := by simp; omega
          have hal : acc.length ≤ 1073741824 := by omega
          have HAL := Lib.hid hal
          clear hR2 hend hal
          have hba : w.heap.size ≤ (w1.alloc (.cells #[.int .i64 0, .int .i64 q, .string ⟨#[]⟩, .int .i64 0] 33)).heap.size := by have := HBE1.out.size; simp; omega
          have HBA := Lib.hid hba
          have hwo : OwnW (w1.alloc (.cells #[.int .i64 0, .int .i64 q, .string ⟨#[]⟩, .int .i64 0] 33)) w.heap.size (.slice A2 acc.length c2) acc := HOW1.out.below ((Below.refl _ _).alloc (Nat.le_refl _) _)
          have HWO := Lib.hid hwo
          clear hba hwo
          go_wp2_with (at_builtin; refine wpList_append_w _ rfl _ _ 22 rfl i0 Tryz.underlying22 hi0 hz0 hz1 hz2 w.heap.size _ acc rfl HWO.out w1.heap.size ⟨0, q, ⟨#[]⟩, 0⟩ rfl (Blk.new w1 33 _) HAL.out HBA.out ?_; intro v5 w5 ho5 hg5)
          have hb5 : Below w.heap.size w w5 := (HBE1.out.alloc HBE1.out.size _).trans (hg5.below HBA.out (fun g e => (HWO.out.lt e).1))
          have HB5 := Lib.hid hb5
          obtain ⟨A5, c5, rfl, _⟩ := ho5.val
          have HO5 := Lib.hid ho5
          clear ho5 hg5 hb5
          go_wp2_with fail
          refine bodyPost_ret (v := .tuple #[.slice A5 (acc ++ [(⟨0, q, ⟨#[]⟩, 0⟩ : Wd)]).length c5, .int .i64 0, .int .i64 0]) (by simp [results, Tryz.results14, go_sem]) rfl ?_
          rw [HR2.out]
          exact ⟨_, rfl, HO5.out, HB5.out⟩
        · have he : ((q : Int) == (s.size : Int)) = false := by simp; omega
          have hqs : q < s.size := by omega
          have hgd : s.data.toList.getD q 0 = s[q] := by
            rw [List.getD_eq_getElem?_getD, List.getElem?_eq_getElem (by simpa using hqs)]; rfl
          have hfin := HFIN.out
          rw [if_neg (by simp), if_neg hend, hgd] at hfin
          have htk := fun h => tk_size (s := s) hqs h
          have hwd := fun W => refWord_any s q W hqs hs
          generalize tkR s q s[q] = T at *
          have HFI2 := Lib.hid hfin
          have HTK := Lib.hid htk
          have HWD := Lib.hid hwd
          clear hfin htk hend hgd HFIN hwd
          go_wp2_with fail
          refine (HWD.out _).mono ?_
          rintro e w3 ⟨k3, q3, t3, n3, z3, rfl, hb3, hok⟩
          have HOW3 := Lib.hid (HOW1.out.below hb3)
          have HBE3 := Lib.hid (HBE1.out.trans (hb3.mono HBE1.out.size))
          have HOK := Lib.hid hok
          clear hb3 hok HOW1 HBE1 HWD
          unfold wv
          by_cases hE : T.e = 0
          · obtain ⟨rfl, rfl, rfl, rfl, rfl⟩ := HOK.out hE
            have hT0 : ((T.e : Int) != 0) = false := by rw [hE]; rfl
            obtain ⟨z1, z2⟩ := HTK.out hE
            have hfi := HFI2.out
            rw [if_neg (by simpa using hE), comb_next] at hfi
            have HFI3 := Lib.hid hfi
            clear hfi HFI2 HTK HOK hE
            obtain ⟨h2a, h2b, h2c⟩ := two33 w3 #[.int .i64 T.k, .int .i64 q3, .string T.t, .int .i64 T.n] #[.int .i64 T.k, .int .i64 q3, .string T.t, .int .i64 T.n]
            have HWO := Lib.hid (HOW3.out.below h2c)
            have HBX := Lib.hid (HBE3.out.trans (h2c.mono HBE3.out.size))
            have HBB := Lib.hid h2b
            have HAL := Lib.hid (show acc.length ≤ 1073741824 by omega)
            clear h2a h2b h2c HOW3
            go_wp2_with (at_builtin; refine wpList_append_w _ rfl _ _ 22 rfl i0 Tryz.underlying22 hi0 hz0 hz1 hz2 w.heap.size _ acc rfl HWO.out (w3.heap.size + 1) ⟨T.k, q3, T.t, T.n⟩ rfl HBB.out HAL.out HBX.out.size ?_; intro v5 w5 ho5 hg5)
            have hb5 : Below w.heap.size w w5 := HBX.out.trans (hg5.below HBX.out.size (fun g e => (HWO.out.lt e).1))
            have HB5 := Lib.hid hb5
            have HO5 := Lib.hid ho5
            clear ho5 hg5 hb5 HBX HWO HBB
            go_wp2_with fail
            go_roundg (s.size + 1 - (q3 + T.z))
            case measure => omega
            case rel => exact ⟨q3 + T.z, acc ++ [⟨T.k, q3, T.t, T.n⟩], rfl, by go_num, HO5.out, HB5.out, by omega, by simp; omega, ⟨k, by omega, HFI3.out⟩⟩
          · have hT0 : ((T.e : Int) != 0) = true := by simp only [bne_iff_ne, ne_eq]; omega
            have hR2 : R = ⟨T.e, q, []⟩ := by rw [HFI2.out, if_pos hE]; unfold comb; rw [if_pos hE]
            have HR2 := Lib.hid hR2
            clear hR2 HFI2 HTK HOK
            go_wp2_with fail
            refine bodyPost_ret (v := .tuple #[.slice none 0 0, .int .i64 q, .int .i64 T.e]) (by simp [results, Tryz.results14, go_sem]) rfl ?_
            rw [HR2.out]
            exact ⟨_, rfl, OwnW.nil _ _, HBE3.out.alloc HBE3.out.size _⟩
end
section
open Go.RowKit
set_option linter.unusedVariables false
set_option linter.unusedSimpArgs false

theorem wdF_few (s : ByteArray) : ∀ (k p : Nat), p ≤ s.size → (wdF s k p).l.length + p ≤ s.size + 1
  | 0, p, hp => by simp [wdF]; omega
  | k + 1, p, hp => by
    have hle : p + (skL (s.data.toList.drop p)).1 ≤ s.size := by
      have := skL_le (s.data.toList.drop p).length (s.data.toList.drop p)
      have h2 : (s.data.toList.drop p).length = s.size - p := by simp
      unfold skL
      omega
    rw [wdF]
    generalize hn : (skL (s.data.toList.drop p)).1 = n at *
    by_cases h1 : (skL (s.data.toList.drop p)).2 = false
    · rw [if_pos h1]; simp; omega
    · rw [if_neg h1]
      by_cases h2 : p + n = s.size
      · rw [if_pos h2]; simp; omega
      · rw [if_neg h2]
        have hlt : p + n < s.size := by omega
        have hgd : s.data.toList.getD (p + n) 0 = s[p + n] := by
          rw [List.getD_eq_getElem?_getD, List.getElem?_eq_getElem (by simpa using hlt)]; rfl
        rw [hgd]
        by_cases h3 : (tkR s (p + n) s[p + n]).e ≠ 0
        · rw [if_pos h3]; simp; omega
        · rw [if_neg h3]
          obtain ⟨z1, z2⟩ := tk_size hlt (show (tkR s (p + n) s[p + n]).e = 0 by omega)
          have ih := wdF_few s k (p + n + (tkR s (p + n) s[p + n]).z) z2
          split
          · omega
          · simp only [List.length_cons]; omega
theorem words_few (s : ByteArray) : (wordsR s).l.length ≤ s.size + 1 := by
  unfold wordsR
  split
  · simp
  · have := wdF_few s (s.size + 1) 0 (by omega)
    omega
set_option maxRecDepth 100000 in
set_option maxHeartbeats 1000000 in
theorem cuts_any (s : ByteArray) (w : World) (hE : Env w) : Calls Tryz.prog 3 #[.string s] w fun e w' => e = .returned (.bool true) ∧ Below w.heap.size w w' := by
  obtain ⟨m, hm, hms, hm2⟩ : ∃ m : Nat, min (s.size : Int) 2000 = (m : Int) ∧ m ≤ s.size ∧ m ≤ 2000 := ⟨min s.size 2000, by omega, by omega, by omega⟩
  have hms' : (m : Int) ≤ (s.size : Int) := by omega
  obtain ⟨t, ht⟩ : ∃ t, s.extract 0 m = t := ⟨_, rfl⟩
  have hts : t.size ≤ 2000 := by rw [← ht]; simp [ByteArray.size_extract]; omega
  have h1 := words_any t w hE (by omega)
  have h2 := fun W => refWords_any t W (by omega)
  have hfew := words_few t
  generalize wordsR t = R at *
  have H1 := Lib.hid h1
  have H2 := Lib.hid h2
  have HE := Lib.hid hE
  clear h1 h2 hE
  go_enter Tryz.func3, Tryz.ntmps3
  go_wp2_with fail
  refine (H1.out).mono ?_
  rintro e w1 ⟨v1, rfl, ho1, hb1⟩
  have HO1 := Lib.hid ho1
  have HB1 := Lib.hid hb1
  obtain ⟨A1, c1, rfl, _, _, _⟩ := ho1.val
  clear ho1 hb1
  go_wp2_with fail
  refine (H2.out _).mono ?_
  rintro e w2 ⟨v2, rfl, ho2, hb2⟩
  have hsm := same_any R.l w.heap.size w1.heap.size (.slice A1 R.l.length c1) v2 w2 (HO1.out.below hb2) ho2 (by omega)
  have HSM := Lib.hid hsm
  have HB2 := Lib.hid (HB1.out.trans (hb2.mono HB1.out.size))
  obtain ⟨A2, c2, rfl, _, _, _⟩ := ho2.val
  have e1 : ((R.at_ : Int) == (R.at_ : Int)) = true := by simp
  have e2 : ((R.e : Int) == (R.e : Int)) = true := by simp
  clear ho2 hb2 hsm
  go_wp2_with fail
  refine (HSM.out).mono ?_
  rintro e w3 ⟨rfl, hb3⟩
  have HB3 := Lib.hid (HB2.out.trans (hb3.mono HB2.out.size))
  clear hb3
  go_wp2_with fail
  refine (lexWorks_any _ (HE.out.below HB3.out)).mono ?_
  rintro e w4 ⟨rfl, hb4⟩
  have HB4 := Lib.hid (HB3.out.trans (hb4.mono HB3.out.size))
  clear hb4
  go_wp2_with fail
  go_ret
  exact ⟨rfl, HB4.out⟩
end
section
open Go.RowKit
set_option linter.unusedVariables false
set_option linter.unusedSimpArgs false

structure JnR (w : World) (hi : Nat) (v : Value) (l : List Wi) (i : Nat) (s : ByteArray) (wr : World) : Prop where
  rd : RdI wr hi v l
  bel : Below w.heap.size w wr
  s : s.data.toList = jL (l.take i)
set_option maxRecDepth 100000 in
set_option maxHeartbeats 1000000 in
theorem refJoin_any (l : List Wi) (hi : Nat) (v : Value) (w : World) (hv : RdI w hi v l) (hhi : hi ≤ w.heap.size) (hl : l.length ≤ 200) (hs : ∀ x ∈ l, x.t.size ≤ 1000) :
    Calls Tryz.prog 57 #[v] w (StrP w (jL l)) := by
  have HST := Lib.hid (show JnR w hi v l 0 ⟨#[]⟩ w from ⟨hv, Below.refl _ _, rfl⟩)
  obtain ⟨A, c, rfl, hlc, _, _⟩ := hv
  have HHS := Lib.hid hs
  clear hs
  go_enter Tryz.func57, Tryz.ntmps57
  go_wp2_with fail
  go_loopg [3, 4] l.length (fun g v1 v2 wr => ∃ (i : Nat) (s : ByteArray), i ≤ l.length ∧ g = l.length - i ∧ v1 = .string s ∧ v2 = .int .i64 i ∧ JnR w hi (.slice A l.length c) l i s wr)
  case atStart => exact ⟨0, ⟨#[]⟩, by omega, rfl, rfl, rfl, HST.out⟩
  case round =>
    obtain ⟨i, s, hi1, rfl, rfl, rfl, hr⟩ := hrel
    have HR := Lib.hid hr
    by_cases hil : i < l.length
    · obtain ⟨A', c', he, _, _, hc⟩ := hr.rd
      obtain ⟨g, o, hA, hg, hcs⟩ := hc (by omega)
      simp only [Value.slice.injEq, true_and] at he
      obtain ⟨rfl, rfl⟩ := he
      subst hA
      obtain ⟨q0, q1, q2, q3⟩ := hcs i hil
      have hil' : (i : Int) < (l.length : Int) := by omega
      have htk := take_snoc_i hil
      have hsz := HHS.out l[i] (List.getElem_mem hil)
      have hjl := jL_len (l.take i) (fun x hx => HHS.out x (List.take_subset _ _ hx))
      have hjs := hr.s
      have hsl : s.size ≤ 900000 := by
        have h1 : s.data.toList.length = s.size := by simp
        rw [hjs] at h1
        have h2 : (l.take i).length = i := by simp; omega
        omega
      generalize hx : l[i] = x at *
      have HTK := Lib.hid htk
      have HJS := Lib.hid hjs
      clear hr hc hcs htk hjl hjs
      by_cases hk : x.k = 3
      · have hk' : (x.k == 3) = true := by simpa using hk
        obtain ⟨cc, hcv, hbs⟩ := conv_bytes x.t wr (by omega)
        have hbb := below_bytes wr x.t
        have hq := rquote_any hbs (by rw [Lib.bytesWorld_size]; exact Nat.le_refl _) (by omega)
        have hsp : spW x = qtL x.t.data.toList := by unfold spW; rw [if_pos hk]
        have hsl2 := spW_len x
        rw [← hsp] at hq
        generalize Lib.bytesWorld wr 5 x.t = wb at *
        have HQ := Lib.hid hq
        have HBB := Lib.hid hbb
        clear hq hbs hbb hsp hk
        go_wp2_with fail
        refine (HQ.out).mono ?_
        rintro e w2 ⟨rfl, hb2⟩
        have HB2 := Lib.hid (HBB.out.trans (hb2.mono HBB.out.size))
        have HBE := Lib.hid (show RdI w2 hi (.slice (some ⟨g, o, none⟩) l.length c) l ∧ Below w.heap.size w w2 from ⟨HR.out.rd.below HB2.out (by have := HR.out.bel.size; omega), HR.out.bel.trans (HB2.out.mono HR.out.bel.size)⟩)
        obtain ⟨T, hT⟩ : ∃ T : ByteArray, T = ⟨(spW x).toArray⟩ := ⟨_, rfl⟩
        have hTs : T.size ≤ 5000 := by rw [hT]; show (spW x).length ≤ 5000; omega
        have HSP := Lib.hid (show T.data.toList = spW x by rw [hT])
        rw [← hT]
        clear hb2 hT HB2 HBB HQ hcv
        go_upto_region 8 with fail
        by_cases ht0 : T.size = 0
        · have et : T.toList = [] := by rw [Lib.toList_data]; exact List.eq_nil_of_length_eq_zero (by simpa using ht0)
          have et2 : T.toList.isEmpty = true := by rw [et]; rfl
          have hts : s ++ T = s := by apply bytes_inj_; simp [← Lib.toList_data, et]
          have hjn : jL (l.take (i + 1)) = jL (l.take i) := by
            rw [HTK.out, jL_snoc, ← HSP.out, ← Lib.toList_data, et]
            rfl
          have HF := Lib.hid (JnR.mk HBE.out.1 HBE.out.2 (HJS.out.trans hjn.symm))
          clear hjn
          go_wp2_with fail
          go_roundg (l.length - (i + 1))
          case measure => omega
          case rel => exact ⟨i + 1, s, by omega, rfl, rfl, by go_num, HF.out⟩
        · have et : ¬ T.toList = [] := by
            intro h
            rw [Lib.toList_data] at h
            exact ht0 (by have := congrArg List.length h; simpa using this)
          have et2 : T.toList.isEmpty = false := by simpa using et
          have et3 : ¬ spW x = [] := by rw [← HSP.out, ← Lib.toList_data]; exact et
          by_cases hs0 : s.size = 0
          · have es : s.toList = [] := by rw [Lib.toList_data]; exact List.eq_nil_of_length_eq_zero (by simpa using hs0)
            have es2 : s.toList.isEmpty = true := by rw [es]; rfl
            have hts : s ++ T = T := by apply bytes_inj_; simp [← Lib.toList_data, es]
            have hjn : jL (l.take (i + 1)) = T.data.toList := by
              rw [HTK.out, jL_snoc, ← HJS.out, ← Lib.toList_data, es]
              unfold jnA
              rw [if_neg et3, if_pos rfl, HSP.out]
            have HF := Lib.hid (JnR.mk HBE.out.1 HBE.out.2 hjn.symm)
            clear hjn
            go_wp2_with fail
            go_roundg (l.length - (i + 1))
            case measure => omega
            case rel => exact ⟨i + 1, T, by omega, rfl, rfl, by go_num, HF.out⟩
          · have es : ¬ s.toList = [] := by
              intro h
              rw [Lib.toList_data] at h
              exact hs0 (by have := congrArg List.length h; simpa using this)
            have es2 : s.toList.isEmpty = false := by simpa using es
            have hjn : jL (l.take (i + 1)) = (s ++ ⟨#[32]⟩ ++ T).data.toList := by
              rw [HTK.out, jL_snoc, ← HJS.out]
              unfold jnA
              rw [if_neg et3, if_neg (by rw [← Lib.toList_data]; exact es), ← HSP.out]
              simp
            have HF := Lib.hid (JnR.mk HBE.out.1 HBE.out.2 hjn.symm)
            clear hjn
            go_wp2_with fail
            go_roundg (l.length - (i + 1))
            case measure => omega
            case rel => exact ⟨i + 1, s ++ ⟨#[32]⟩ ++ T, by omega, rfl, rfl, by go_num, HF.out⟩
      · have hk' : (x.k == 3) = false := by simpa using hk
        have HSP := Lib.hid (show x.t.data.toList = spW x by unfold spW; rw [if_neg hk])
        have HBE := Lib.hid (show RdI wr hi (.slice (some ⟨g, o, none⟩) l.length c) l ∧ Below w.heap.size w wr from ⟨HR.out.rd, HR.out.bel⟩)
        clear hk
        go_upto_region 8 with fail
        by_cases ht0 : x.t.size = 0
        · have et : x.t.toList = [] := by rw [Lib.toList_data]; exact List.eq_nil_of_length_eq_zero (by simpa using ht0)
          have et2 : x.t.toList.isEmpty = true := by rw [et]; rfl
          have hts : s ++ x.t = s := by apply bytes_inj_; simp [← Lib.toList_data, et]
          have hjn : jL (l.take (i + 1)) = jL (l.take i) := by
            rw [HTK.out, jL_snoc, ← HSP.out, ← Lib.toList_data, et]
            rfl
          have HF := Lib.hid (JnR.mk HBE.out.1 HBE.out.2 (HJS.out.trans hjn.symm))
          clear hjn
          go_wp2_with fail
          go_roundg (l.length - (i + 1))
          case measure => omega
          case rel => exact ⟨i + 1, s, by omega, rfl, rfl, by go_num, HF.out⟩
        · have et : ¬ x.t.toList = [] := by
            intro h
            rw [Lib.toList_data] at h
            exact ht0 (by have := congrArg List.length h; simpa using this)
          have et2 : x.t.toList.isEmpty = false := by simpa using et
          have et3 : ¬ spW x = [] := by rw [← HSP.out, ← Lib.toList_data]; exact et
          by_cases hs0 : s.size = 0
          · have es : s.toList = [] := by rw [Lib.toList_data]; exact List.eq_nil_of_length_eq_zero (by simpa using hs0)
            have es2 : s.toList.isEmpty = true := by rw [es]; rfl
            have hts : s ++ x.t = x.t := by apply bytes_inj_; simp [← Lib.toList_data, es]
            have hjn : jL (l.take (i + 1)) = x.t.data.toList := by
              rw [HTK.out, jL_snoc, ← HJS.out, ← Lib.toList_data, es]
              unfold jnA
              rw [if_neg et3, if_pos rfl, HSP.out]
            have HF := Lib.hid (JnR.mk HBE.out.1 HBE.out.2 hjn.symm)
            clear hjn
            go_wp2_with fail
            go_roundg (l.length - (i + 1))
            case measure => omega
            case rel => exact ⟨i + 1, x.t, by omega, rfl, rfl, by go_num, HF.out⟩
          · have es : ¬ s.toList = [] := by
              intro h
              rw [Lib.toList_data] at h
              exact hs0 (by have := congrArg List.length h; simpa using this)
            have es2 : s.toList.isEmpty = false := by simpa using es
            have hjn : jL (l.take (i + 1)) = (s ++ ⟨#[32]⟩ ++ x.t).data.toList := by
              rw [HTK.out, jL_snoc, ← HJS.out]
              unfold jnA
              rw [if_neg et3, if_neg (by rw [← Lib.toList_data]; exact es), ← HSP.out]
              simp
            have HF := Lib.hid (JnR.mk HBE.out.1 HBE.out.2 hjn.symm)
            clear hjn
            go_wp2_with fail
            go_roundg (l.length - (i + 1))
            case measure => omega
            case rel => exact ⟨i + 1, s ++ ⟨#[32]⟩ ++ x.t, by omega, rfl, rfl, by go_num, HF.out⟩
    · obtain rfl : i = l.length := by omega
      have hjs := hr.s
      rw [List.take_length] at hjs
      have HSS := Lib.hid (show s = ⟨(jL l).toArray⟩ by apply bytes_inj_; rw [hjs])
      clear hr hjs
      go_wp2_with fail
      go_ret
      exact ⟨by rw [HSS.out]; rfl, HR.out.bel⟩
end
section
open Go.RowKit
set_option linter.unusedVariables false
set_option linter.unusedSimpArgs false

structure SmI (w w1 : World) (l : List Wi) (h1 h2 : Nat) (v u : Value) : Prop where
  o1 : RdI w1 h1 v l
  o2 : RdI w1 h2 u l
  b : Below w.heap.size w w1
theorem SmI.drewN {w w1 : World} {l : List Wi} {B1 B2 : Nat} {v u : Value} (h : SmI w w1 l B1 B2 v u) (m : Nat) : SmI w (w1.drewN m) l B1 B2 v u := ⟨h.o1, h.o2, Below.drewN_ h.b m⟩
set_option maxRecDepth 100000 in
set_option maxHeartbeats 1000000 in
/-- Same of two lists of the same words. -/
theorem same_rd (l : List Wi) (h1 h2 : Nat) (v u : Value) (w : World) (hv : RdI w h1 v l) (hu : RdI w h2 u l) (hl : l.length ≤ 1000000) :
    Calls Tryz.prog 15 #[v, u] w fun e w' => e = .returned (.bool true) ∧ Below w.heap.size w w' := by
  have HS := Lib.hid (SmI.mk (w := w) hv hu (Below.refl _ _))
  obtain ⟨A, c, rfl, _, _, _⟩ := hv
  obtain ⟨D, d, rfl, _, _, _⟩ := hu
  go_enter Tryz.func15, Tryz.ntmps15
  go_wp2_with fail
  go_loopg [5] l.length (fun g v wr => ∃ i : Nat, i ≤ l.length ∧ g = l.length - i ∧ v = .int .i64 i ∧ SmI w wr l h1 h2 (.slice A l.length c) (.slice D l.length d))
  case atStart => exact ⟨0, by omega, rfl, rfl, HS.out⟩
  case round =>
    obtain ⟨i, hi, rfl, rfl, hr⟩ := hrel
    have HR := Lib.hid hr
    by_cases hil : i < l.length
    · obtain ⟨A', c', he, _, _, hc⟩ := hr.o1
      obtain ⟨D', d', he2, _, _, hc2⟩ := hr.o2
      obtain ⟨g, o, hA, _, hcs⟩ := hc (by omega)
      obtain ⟨g2, o2, hA2, _, hcs2⟩ := hc2 (by omega)
      simp only [Value.slice.injEq, true_and] at he he2
      obtain ⟨rfl, rfl⟩ := he
      obtain ⟨rfl, rfl⟩ := he2
      subst hA hA2
      obtain ⟨q0, q1, q2, q3⟩ := hcs i hil
      obtain ⟨p0, p1, p2, p3⟩ := hcs2 i hil
      have hil' : (i : Int) < (l.length : Int) := by omega
      generalize hx : l[i] = x at *
      clear hr hc hcs hc2 hcs2
      go_wp2_with fail
      go_quiet (fail)
      go_wp2_with fail
      go_roundg (l.length - (i + 1))
      case measure => omega
      case rel => exact ⟨i + 1, by omega, rfl, by go_num, HR.out.drewN _⟩
    · obtain rfl : i = l.length := by omega
      clear hr
      go_wp2_with fail
      refine bodyPost_ret (v := .bool true) (by simp [results, Tryz.results15, go_sem]) rfl ⟨rfl, HR.out.b⟩
/-- append(v, src...) of words: v is nil or the call's own, src is any list of words that can be read. -/
theorem run_append_is {P : Program} {w : World} {base hi : Nat} {v u : Value} {xs l : List Wi} (t ty : TypeId) (i : TypeInfo)
    (ht : P.underlying t = some (.slice 33)) (hi33 : P.info? 33 = some i) (hz : i.zero = some (.agg #[.int .i64 0, .int .i64 0, .string ⟨#[]⟩, .int .i64 0])) (hsize : i.size = 4) (hby : i.bytes = 40)
    (hown : OwnI w base v xs) (hu : RdI w hi u l) (hlen : xs.length + l.length ≤ 1073741824) (hbase : base ≤ w.heap.size) :
    ∃ v' w', (Builtin.append_ #[t, t] ty #[v, u]).run P w = .ok v' w' ∧ OwnI w' base v' (xs ++ l) ∧ Grew w w' v v' := by
  obtain ⟨A, c, rfl, hlc, hcm, hrd⟩ := hu
  rcases Nat.eq_zero_or_pos l.length with h0 | h0
  · have hl : l = [] := List.eq_nil_of_length_eq_zero h0
    subst hl
    refine ⟨v, w, ?_, by simpa using hown, Grew.refl _ _⟩
    rcases A with _ | a
    · rcases hown.2 with ⟨rfl, hx⟩ | ⟨g, cap, cur, rfl, _, _, hnc, _⟩
      · simp [Builtin.append_, run_underlying ht, sizeOf, typeInfo, hi33, Builtin.lenOf, Builtin.firstCells]
      · simp [Builtin.append_, run_underlying ht, sizeOf, typeInfo, hi33, Builtin.lenOf, Builtin.firstCells, hnc, storeCells]
    · have hl : (loadCells a 0).run P w = .ok #[] w := by simpa using run_loadCells_list (P := P) w a [] (fun j v hj => by simp at hj)
      rcases hown.2 with ⟨rfl, hx⟩ | ⟨g, cap, cur, rfl, _, _, hnc, _⟩
      · simp [Builtin.append_, run_underlying ht, sizeOf, typeInfo, hi33, Builtin.lenOf, Builtin.firstCells, hl]
      · simp [Builtin.append_, run_underlying ht, sizeOf, typeInfo, hi33, Builtin.lenOf, Builtin.firstCells, hnc, storeCells, hl]
  · obtain ⟨g, o, rfl, hg, hcs⟩ := hrd h0
    have hnews : ∀ j u, (ics l)[j]? = some u → w.cell? ((⟨g, o, none⟩ : Addr).add j) = some u := by
      intro j u hj
      have hlt : j < l.length * 4 := by
        rcases Nat.lt_or_ge j (ics l).length with q | q
        · rw [ics_len] at q; exact q
        · rw [List.getElem?_eq_none q] at hj; cases hj
      obtain ⟨q, r, rfl, hr⟩ : ∃ q r, j = q * 4 + r ∧ r < 4 := ⟨j / 4, j % 4, by omega, by omega⟩
      have hq : q < l.length := by omega
      obtain ⟨a0, a1, a2, a3⟩ := ics_at l q hq
      obtain ⟨c0, c1, c2, c3⟩ := hcs q hq
      rw [Go.WideShapes.add_plain]
      obtain rfl | rfl | rfl | rfl : r = 0 ∨ r = 1 ∨ r = 2 ∨ r = 3 := by omega
      · rw [Nat.add_zero] at hj ⊢
        rw [a0] at hj; rw [c0]; exact hj
      · rw [a1] at hj; rw [← Nat.add_assoc, c1]; exact hj
      · rw [a2] at hj; rw [← Nat.add_assoc, c2]; exact hj
      · rw [a3] at hj; rw [← Nat.add_assoc, c3]; exact hj
    have hone : ∀ u ∈ ics l, u.oneCell' = true := by
      intro u hu
      obtain ⟨x, _, hx⟩ := List.mem_flatMap.1 hu
      simp only [Wi.cs, List.mem_cons, List.mem_nil_iff, or_false] at hx
      rcases hx with rfl | rfl | rfl | rfl <;> rfl
    obtain ⟨v', w', hrun, h2, h3, _, h5⟩ := run_append_own_at (P := P) w base t ty 33 i _ 4 40 ht hi33 hz hsize hby rfl (by omega) v xs.length (ics xs) hown ⟨g, o, none⟩ l.length c (ics l) (ics_len l) hnews hone (by unfold maxLen; omega) (by omega) hbase
    refine ⟨v', w', hrun, ?_, ⟨h3, h5.imp id fun e => ⟨_, e, Nat.le_refl _⟩⟩⟩
    unfold OwnI
    have e : ics (xs ++ l) = ics xs ++ ics l := by simp [ics]
    rw [e, List.length_append]
    exact h2
theorem wpList_append_is {P : Program} (w : World) {ops : Array Oper} {rest : List Oper} {o : Oper} {a : Act} {Q : Exit → Act → World → Prop} (hgd : o.guard = none) (s x : Operand) (t : TypeId)
    (ho : o.op = .call { callee := .builtin .append, args := #[s, x], argTypes := #[t, t] }) (i : TypeInfo)
    (ht : P.underlying t = some (.slice 33)) (hi : P.info? 33 = some i) (hz : i.zero = some (.agg #[.int .i64 0, .int .i64 0, .string ⟨#[]⟩, .int .i64 0])) (hsize : i.size = 4) (hby : i.bytes = 40)
    (base hi' : Nat) (v u : Value) (xs l : List Wi) (hs : a.eval s = v) (hown : OwnI w base v xs) (hx : a.eval x = u) (hu : RdI w hi' u l)
    (hlen : xs.length + l.length ≤ 1073741824) (hbase : base ≤ w.heap.size)
    (h : ∀ v' w', OwnI w' base v' (xs ++ l) → Grew w w' v v' → wpList P ops Q rest (a.put o.dst v') w') : wpList P ops Q (o :: rest) a w :=
  wpList_plain hgd fun _ hK => by
    obtain ⟨v', w', hrun, h2, h3⟩ := run_append_is (P := P) t o.type i ht hi hz hsize hby hown hu hlen hbase
    unfold Oper.wp execOp
    simp only [ho, resolve, invoke, builtin, Sem.run_bind, Sem.run_pure, Result.andThen_ok, List.map_toArray, List.map_cons, List.map_nil, hs, hx, hrun]
    exact hK _ _ (h v' w' h2 h3)
def cutI (x : Wi) : Wi := ⟨x.k, x.p, x.t.extract 0 (min x.t.size 40), x.n⟩
def inI (l : List Wi) (i : Nat) : List Wi := (l.take i).map cutI
theorem inI_snoc {l : List Wi} {i : Nat} (h : i < l.length) : inI l (i + 1) = inI l i ++ [cutI l[i]] := by
  unfold inI
  rw [take_snoc_i h, List.map_append]
  rfl
theorem inI_len (l : List Wi) (i : Nat) : (inI l i).length ≤ i := by unfold inI; simp; omega
theorem inI_few (l : List Wi) (i : Nat) : ∀ x ∈ inI l i, x.t.size ≤ 1000 := by
  intro x hx
  obtain ⟨y, _, rfl⟩ := List.mem_map.1 hx
  simp [cutI, ByteArray.size_extract]
  omega
structure LjR (w : World) (v0 : Value) (l : List Wi) (i : Nat) (v : Value) (wr : World) : Prop where
  rd : RdI wr w.heap.size v0 l
  own : OwnI wr w.heap.size v (inI l i)
  bel : Below w.heap.size w wr
set_option maxRecDepth 100000 in
set_option maxHeartbeats 1000000 in
theorem joins_any (l : List Wi) (v : Value) (w : World) (hE : Env w) (hv : RdI w w.heap.size v l) :
    Calls Tryz.prog 21 #[v] w fun e w' => e = .returned (.bool true) ∧ Below w.heap.size w w' := by
  obtain ⟨i0, hi0, hz0, hz1, hz2⟩ := info_parts Tryz.info33
  have HST := Lib.hid (show LjR w v l 0 (.slice none 0 0) w from ⟨hv, OwnI.nil _ _, Below.refl _ _⟩)
  obtain ⟨A, c, rfl, hlc, hcm, _⟩ := hv
  have HE := Lib.hid hE
  clear hE
  go_enter Tryz.func21, Tryz.ntmps21
  go_wp2_with fail
  go_loopg [3, 4] l.length (fun g v3 v4 wr => ∃ i : Nat, i ≤ l.length ∧ i ≤ 100 ∧ g = l.length - i ∧ v4 = .int .i64 i ∧ LjR w (.slice A l.length c) l i v3 wr)
  case atStart => exact ⟨0, by omega, by omega, rfl, rfl, HST.out⟩
  case round =>
    obtain ⟨i, hi1, hi100, rfl, rfl, hr⟩ := hrel
    have HR := Lib.hid hr
    by_cases hil : i < l.length ∧ i < 100
    · obtain ⟨hil, hi2⟩ := hil
      obtain ⟨A', c', he, _, _, hc⟩ := hr.rd
      obtain ⟨g, o, hA, hg, hcs⟩ := hc (by omega)
      simp only [Value.slice.injEq, true_and] at he
      obtain ⟨rfl, rfl⟩ := he
      subst hA
      obtain ⟨q0, q1, q2, q3⟩ := hcs i hil
      have hil' : (i : Int) < (l.length : Int) := by omega
      have hi2' : (i : Int) < 100 := by omega
      have hsn := inI_snoc hil
      have hln := inI_len l i
      generalize hx : l[i] = x at *
      obtain ⟨m, hm, hm1, hm2⟩ : ∃ m : Nat, min (x.t.size : Int) 40 = (m : Int) ∧ m ≤ x.t.size ∧ m = min x.t.size 40 := ⟨min x.t.size 40, by omega, by omega, rfl⟩
      have hm3 : (m : Int) ≤ (x.t.size : Int) := by omega
      have HSN := Lib.hid hsn
      have HM2 := Lib.hid hm2
      clear hr hc hcs hsn hm2
      obtain ⟨y, hy⟩ : ∃ y : Wi, y = ⟨x.k, x.p, x.t.extract 0 m, x.n⟩ := ⟨_, rfl⟩
      have hcy : cutI x = y := by rw [hy, HM2.out]; rfl
      obtain ⟨h2a, h2b, h2c⟩ := two33 wr #[.int .i64 x.k, .int .i64 x.p, .string (x.t.extract 0 m), .int .i64 x.n] #[.int .i64 x.k, .int .i64 x.p, .string (x.t.extract 0 m), .int .i64 x.n]
      have HWO := Lib.hid (HR.out.own.below h2c)
      have HBX := Lib.hid (HR.out.bel.trans (h2c.mono HR.out.bel.size))
      have HBB := Lib.hid (show Blk _ _ 33 #[.int .i64 y.k, .int .i64 y.p, .string y.t, .int .i64 y.n] by rw [hy]; exact h2b)
      have HRD := Lib.hid (HR.out.rd.below h2c HR.out.bel.size)
      have HCY := Lib.hid hcy
      have HAL := Lib.hid (show (inI l i).length ≤ 1073741824 by omega)
      clear h2a h2b h2c hcy hy
      go_wp2_with (at_builtin; refine wpList_append_i _ rfl _ _ 22 rfl i0 Tryz.underlying22 hi0 hz0 hz1 hz2 w.heap.size _ (inI l i) rfl HWO.out (wr.heap.size + 1) y rfl HBB.out HAL.out HBX.out.size ?_; intro v5 w5 ho5 hg5)
      have hgb := hg5.below HBX.out.size (fun g e => (HWO.out.lt e).1)
      have HF := Lib.hid (LjR.mk (w := w) (i := i + 1) (HRD.out.below hgb (Nat.le_refl _)) (by rw [HSN.out, HCY.out]; exact ho5) (HBX.out.trans hgb))
      clear ho5 hg5 hgb HBX HWO HBB HRD
      go_wp2_with fail
      go_roundg (l.length - (i + 1))
      case measure => omega
      case rel => exact ⟨i + 1, by omega, by omega, rfl, by go_num, HF.out⟩
    · have hil' : ¬ (i : Int) < (l.length : Int) ∨ ((i : Int) < (l.length : Int) ∧ ¬ (i : Int) < 100) := by omega
      have hln := inI_len l i
      have hfw := inI_few l i
      obtain ⟨L, hL⟩ : ∃ L, L = inI l i := ⟨_, rfl⟩
      have hown := hr.own
      rw [← hL] at hln hfw hown
      have HOWN := Lib.hid hown
      have HFW := Lib.hid hfw
      obtain ⟨A3, c3, rfl, hlc3, hcm3, hrd3⟩ := hown.rd
      clear hr hil hown hrd3 hL hfw
      rcases hil' with hq | ⟨hq, hq2⟩
      all_goals
        have hnw := (Below.refl wr.heap.size wr).alloc (Nat.le_refl _) (.cells #[] 33)
        have hzo : OwnI (wr.alloc (.cells #[] 33)) w.heap.size (.slice (some ⟨wr.heap.size, 0, none⟩) 0 0) [] := ⟨rfl, .inr ⟨wr.heap.size, 0, #[], rfl, HR.out.bel.size, heap_alloc_new wr _, Nat.le_refl _, by unfold maxLen; omega, rfl, rfl⟩⟩
        have HZO := Lib.hid hzo
        have HO4 := Lib.hid (HOWN.out.below hnw)
        have HBE4 := Lib.hid (HR.out.bel.trans (hnw.mono HR.out.bel.size))
        have HRD4 := Lib.hid (HO4.out.rd)
        have HN := Lib.hid (show ([] : List Wi).length + L.length ≤ 1073741824 by simp; omega)
        clear hnw hzo
        go_wp2_with (at_builtin; refine wpList_append_is _ rfl _ _ 22 rfl i0 Tryz.underlying22 hi0 hz0 hz1 hz2 w.heap.size _ _ _ [] L rfl HZO.out rfl HRD4.out HN.out HBE4.out.size ?_; intro v5 w5 ho5 hg5)
        have hb45 := hg5.below HBE4.out.size (fun g e => by have h : wr.heap.size = g := Option.some.inj e; have := HR.out.bel.size; omega)
        have hin5 : OwnI w5 w.heap.size (.slice A3 L.length c3) L := HO4.out.kept fun g hg => hg5.1.block g (HO4.out.lt hg).2 (by intro e; have h : g = wr.heap.size := Option.some.inj e; have := (HOWN.out.lt hg).2; omega)
        rw [List.nil_append] at ho5
        have HIN5 := Lib.hid hin5.rd
        have HOW5 := Lib.hid ho5.rd
        have HBE5 := Lib.hid (HBE4.out.trans hb45)
        obtain ⟨A6, c6, rfl, _, _, _⟩ := ho5.rd
        have hj1 := join_any L _ _ w5 HIN5.out (Nat.le_refl _) (by omega) HFW.out
        have hj2 := fun W (h : RdI W w5.heap.size (.slice A6 L.length c6) L) (h2 : w5.heap.size ≤ W.heap.size) => refJoin_any L _ _ W h h2 (by omega) HFW.out
        unfold StrP at hj1 hj2
        generalize (⟨(jL L).toArray⟩ : ByteArray) = T at *
        have heq : (T.toList == T.toList) = true := by simp
        have HJ1 := Lib.hid hj1
        have HJ2 := Lib.hid hj2
        clear hj1 hj2 ho5 hg5 hb45 hin5
        go_wp2_with fail
        refine (HJ1.out).mono ?_
        rintro e w6 ⟨rfl, hb6⟩
        have HB6 := Lib.hid hb6
        clear hb6
        go_wp2_with fail
        refine (HJ2.out _ (HOW5.out.below HB6.out (Nat.le_refl _)) HB6.out.size).mono ?_
        rintro e w7 ⟨rfl, hb7⟩
        have HB7 := Lib.hid (HB6.out.trans (hb7.mono HB6.out.size))
        clear hb7
        go_wp2_with fail
        refine (same_rd L _ _ _ _ _ (HIN5.out.below HB7.out (Nat.le_refl _)) (HOW5.out.below HB7.out (Nat.le_refl _)) (by omega)).mono ?_
        rintro e w8 ⟨rfl, hb8⟩
        have HB8 := Lib.hid (HBE5.out.trans ((HB7.out.trans (hb8.mono HB7.out.size)).mono HBE5.out.size))
        clear hb8
        go_wp2_with fail
        refine (lexWorks_any _ (HE.out.below HB8.out)).mono ?_
        rintro e w9 ⟨rfl, hb9⟩
        have HB9 := Lib.hid (HB8.out.trans (hb9.mono HB8.out.size))
        clear hb9
        go_wp2_with fail
        go_ret
        exact ⟨rfl, HB9.out⟩
end
section
open Go.RowKit
set_option linter.unusedVariables false
set_option linter.unusedSimpArgs false

/-- Blanks. -/
def bks (n : Nat) : List UInt8 := List.replicate n 32
theorem bks_len (n : Nat) : (bks n).length = n := List.length_replicate
theorem bks_sk : ∀ n : Nat, skL (bks n) = (n, true)
  | 0 => rfl
  | n + 1 => by
    have e : bks (n + 1) = 32 :: bks n := rfl
    rw [e, skL_blank (by decide), bks_sk n]
theorem words_many (s : ByteArray) (h : 65536 < s.size) : wordsR s = ⟨5, 0, []⟩ := by unfold wordsR; rw [if_pos h]
theorem words_bks (s : ByteArray) (n : Nat) (hn : n ≤ 65536) (h : s.data.toList = bks n) : wordsR s = ⟨0, 0, [⟨0, n, ⟨#[]⟩, 0⟩]⟩ := by
  have hs : s.size = n := by
    have := congrArg List.length h
    rw [bks_len] at this
    simpa using this
  unfold wordsR
  rw [if_neg (by omega), wdF]
  simp only [List.drop_zero, h, bks_sk, Nat.zero_add, hs, if_true, if_neg (show ¬ (true = false) by simp)]
theorem conv_oneK (z : Int) (h0 : 0 ≤ z) (h1 : z < 256) (W : World) : (convert 42 9 (.slice (some ⟨W.heap.size, 0, none⟩) 1 1)).run Tryz.prog (W.alloc (.cells #[.int .u8 z] 5)) = .ok (.string ⟨#[UInt8.ofNat z.toNat]⟩) (W.alloc (.cells #[.int .u8 z] 5)) :=
  (Bs.single W z h0 h1).convert (P := Tryz.prog) 42 5 9 Tryz.underlying42 Tryz.underlying5 Tryz.underlying9
theorem str_add2 (a b : ByteArray) (n : Nat) (h : a.size + b.size ≤ n) (hn : n ≤ 1000) : ∃ c : ByteArray, (∀ W, (Op.stringOp .add a b).run Tryz.prog W = .ok (.string c) W) ∧ c.size ≤ n :=
  ⟨a ++ b, fun W => run_string_add_sum W _ _ (by omega), by simpa using h⟩
/-- N short texts lie in block B. -/
def StrsOk (w : World) (B N : Nat) : Prop := B < w.heap.size ∧ ∀ i, i < N → ∃ t : ByteArray, w.cell? ⟨B, i, none⟩ = some (.string t) ∧ t.size ≤ 100
theorem StrsOk.below {w w' : World} {B N : Nat} (h : StrsOk w B N) (hb : Below w.heap.size w w') : StrsOk w' B N := by
  refine ⟨Nat.lt_of_lt_of_le h.1 hb.size, fun i hi => ?_⟩
  obtain ⟨t, h1, h2⟩ := h.2 i hi
  exact ⟨t, (hb.cell (p := ⟨B, i, none⟩) h.1).trans h1, h2⟩
theorem strs_alloc (W : World) (ts : List ByteArray) (t : TypeId) (h : ∀ x ∈ ts, x.size ≤ 100) : StrsOk (W.alloc (.cells (ts.map Value.string).toArray t)) W.heap.size ts.length := by
  refine ⟨by rw [World.size_alloc]; omega, fun i hi => ?_⟩
  have hc := (Blk.new W t (ts.map Value.string).toArray).cell i
  rw [List.getElem?_toArray, List.getElem?_map, List.getElem?_eq_getElem hi] at hc
  exact ⟨ts[i], hc, h _ (List.getElem_mem _)⟩
theorem words_is {s : ByteArray} {R : WR} (h : wordsR s = R) (hs : s.size ≤ 1000000) (W : World) (hE : Env W) :
    Calls Tryz.prog 13 #[.string s] W fun e w' => ∃ v, e = .returned (.tuple #[v, .int .i64 R.at_, .int .i64 R.e]) ∧ OwnI w' W.heap.size v (R.l.map Wd.i) ∧ Below W.heap.size W w' := by
  have := words_any s W hE hs
  rw [h] at this
  refine this.mono ?_
  rintro e w' ⟨v, rfl, ho, hb⟩
  exact ⟨v, rfl, ho.i, hb⟩
/-- Bytes that are filled with blanks, so far. -/
structure FlR (w : World) (g i : Nat) (wr : World) : Prop where
  blk : ∃ cs : Array Value, Blk wr g 5 cs ∧ cs.size = 65537 ∧ ∀ j, j < i → cs[j]? = some (.int .u8 32)
  bel : Below w.heap.size w wr
theorem FlR.start {w wr : World} {g base : Nat} {l : List Value} (h : wr.ownsRow base 5 1 (.slice (some ⟨g, 0, none⟩) 65537 65537) 65537 l) (hb : Below w.heap.size w wr) : FlR w g 0 wr := by
  rcases h.2 with ⟨e, _⟩ | ⟨g', cap, cur, e, _, hh, _, _, hsz, _⟩
  · cases e
  · simp only [Value.slice.injEq, Option.some.injEq, Addr.mk.injEq, and_true, true_and] at e
    obtain ⟨rfl, rfl⟩ := e
    exact ⟨⟨cur, hh, by rw [hsz], fun j hj => absurd hj (Nat.not_lt_zero _)⟩, hb⟩
theorem FlR.next {w wr : World} {g i : Nat} (h : FlR w g i wr) (hi : i < 65537) (hg : w.heap.size ≤ g) : FlR w g (i + 1) (wr.setCell ⟨g, i, none⟩ (.int .u8 32)) := by
  obtain ⟨cs, hb, hsz, hall⟩ := h.blk
  refine ⟨⟨cs.setIfInBounds i (.int .u8 32), hb.set_ i _, by rw [Array.size_setIfInBounds]; exact hsz, fun j hj => ?_⟩, h.bel.setCell hg _⟩
  rw [Array.getElem?_setIfInBounds]
  by_cases e : i = j
  · rw [if_pos e, if_pos (by rw [hsz]; exact hi)]
  · rw [if_neg e]
    exact hall j (by omega)
theorem FlR.bs {w wr : World} {g : Nat} (h : FlR w g 65537 wr) : Bs wr 0 (g + 1) (some ⟨g, 0, none⟩) 65537 65537 (bks 65537) := by
  obtain ⟨cs, hb, hsz, hall⟩ := h.blk
  refine ⟨bks_len _, Nat.le_refl _, by unfold maxLen; omega, fun _ => ⟨g, 0, rfl, Nat.zero_le _, Nat.lt_succ_self _, fun j hj => ?_⟩⟩
  rw [bks_len] at hj
  rw [Nat.zero_add, hb.cell j, hall j hj]
  have : (bks 65537)[j]'(by rw [bks_len]; exact hj) = 32 := List.getElem_replicate ..
  rw [this]
  rfl
theorem FlR.bs1 {w wr : World} {g : Nat} (h : FlR w g 65537 wr) : Bs wr 0 (g + 1) (some ⟨g, 1, none⟩) 65536 65536 (bks 65536) := by
  have := h.bs.mid (K := 1) (m := 65536) (by omega)
  have e : ((bks 65537).drop 1).take 65536 = bks 65536 := by
    unfold bks
    rw [List.drop_replicate, List.take_replicate]
    rfl
  rw [e] at this
  exact this
theorem RdI.cells1 {w : World} {hi c n : Nat} {A : Option Addr} {x : Wi} (h : RdI w hi (.slice A n c) [x]) (h0 : 0 < 1) : ∃ g o, A = some ⟨g, o, none⟩ ∧ n = 1 ∧ 1 ≤ c ∧ w.cell? ⟨g, o + 1, none⟩ = some (.int .i64 x.p) := by
  obtain ⟨A', c', e, h1, h2, h3⟩ := h
  simp only [Value.slice.injEq] at e
  obtain ⟨rfl, rfl, rfl⟩ := e
  obtain ⟨g, o, hA, _, hc⟩ := h3 (Nat.zero_lt_one)
  have := (hc 0 Nat.zero_lt_one).2.1
  exact ⟨g, o, hA, rfl, h1, by simpa using this⟩
/-- Four words that are written out. -/
theorem four_words (W : World) (t : ByteArray) (i : Int) (hE : Env W) : Calls Tryz.prog 21 #[.slice (some ⟨W.heap.size, 0, none⟩) 4 4]
    (W.alloc (.cells #[.int .i64 3, .int .i64 0, .string t, .int .i64 0, .int .i64 i, .int .i64 0, .string t, .int .i64 0, .int .i64 0, .int .i64 0, .string ⟨#[]⟩, .int .i64 0, .int .i64 3, .int .i64 0, .string ⟨#[]⟩, .int .i64 0] 33))
    fun e w' => e = .returned (.bool true) ∧ Below W.heap.size W w' := by
  have hb := Blk.new W 33 #[.int .i64 3, .int .i64 0, .string t, .int .i64 0, .int .i64 i, .int .i64 0, .string t, .int .i64 0, .int .i64 0, .int .i64 0, .string ⟨#[]⟩, .int .i64 0, .int .i64 3, .int .i64 0, .string ⟨#[]⟩, .int .i64 0]
  have hbe := (Below.refl W.heap.size W).alloc (Nat.le_refl _) (.cells #[.int .i64 3, .int .i64 0, .string t, .int .i64 0, .int .i64 i, .int .i64 0, .string t, .int .i64 0, .int .i64 0, .int .i64 0, .string ⟨#[]⟩, .int .i64 0, .int .i64 3, .int .i64 0, .string ⟨#[]⟩, .int .i64 0] 33)
  have hrd : RdI (W.alloc (.cells #[.int .i64 3, .int .i64 0, .string t, .int .i64 0, .int .i64 i, .int .i64 0, .string t, .int .i64 0, .int .i64 0, .int .i64 0, .string ⟨#[]⟩, .int .i64 0, .int .i64 3, .int .i64 0, .string ⟨#[]⟩, .int .i64 0] 33))
      (W.alloc (.cells #[.int .i64 3, .int .i64 0, .string t, .int .i64 0, .int .i64 i, .int .i64 0, .string t, .int .i64 0, .int .i64 0, .int .i64 0, .string ⟨#[]⟩, .int .i64 0, .int .i64 3, .int .i64 0, .string ⟨#[]⟩, .int .i64 0] 33)).heap.size
      (.slice (some ⟨W.heap.size, 0, none⟩) 4 4) [⟨3, 0, t, 0⟩, ⟨i, 0, t, 0⟩, ⟨0, 0, ⟨#[]⟩, 0⟩, ⟨3, 0, ⟨#[]⟩, 0⟩] := by
    refine ⟨_, 4, rfl, Nat.le_refl _, by unfold maxLen; omega, fun _ => ⟨_, 0, rfl, hb.lt, fun j hj => ?_⟩⟩
    have hj4 : j < 4 := hj
    obtain rfl | rfl | rfl | rfl : j = 0 ∨ j = 1 ∨ j = 2 ∨ j = 3 := by omega
    all_goals exact ⟨(hb.cell _).trans rfl, (hb.cell _).trans rfl, (hb.cell _).trans rfl, (hb.cell _).trans rfl⟩
  refine (joins_any _ _ _ (hE.below hbe) hrd).mono ?_
  rintro e w' ⟨rfl, h⟩
  exact ⟨rfl, hbe.trans (h.mono hbe.size)⟩
end
end Go.Proofs.YtoineheocipmaaaGreatDoor
