/-
  Letters, digits, identifiers.
-/
import Derived.Test.YtoineheocipmaaaGreatDoorWords
import Derived.Test.YtoineheocipmaaaGreatDoorShelf
namespace Go.Proofs.YtoineheocipmaaaGreatDoor
open Go.RowKit
set_option linter.unusedVariables false

def dgZ (c : Int) : Bool := decide (48 ≤ c) && decide (c ≤ 57)
def loZ (c : Int) : Bool := decide (97 ≤ c) && decide (c ≤ 122)
def upZ (c : Int) : Bool := decide (65 ≤ c) && decide (c ≤ 90)
/-- A byte of an identifier. -/
def idZ (c : Int) : Bool := loZ c || upZ c || dgZ c || (c == 95)

theorem isDigit_any (c : Int) (w : World) : Calls Tryz.prog 195 #[.int .u8 c] w fun e w' => e = .returned (.bool (dgZ c)) ∧ w = w' := by
  by_cases h1 : 48 ≤ c <;> by_cases h2 : c ≤ 57
  all_goals
    go_enter Tryz.func195, Tryz.ntmps195
    go_wp2
    go_ret
    exact ⟨ret_bool (by simp [dgZ, *]), rfl⟩
theorem isLower_any (c : Int) (w : World) : Calls Tryz.prog 217 #[.int .u8 c] w fun e w' => e = .returned (.bool (loZ c)) ∧ w = w' := by
  by_cases h1 : 97 ≤ c <;> by_cases h2 : c ≤ 122
  all_goals
    go_enter Tryz.func217, Tryz.ntmps217
    go_wp2
    go_ret
    exact ⟨ret_bool (by simp [loZ, *]), rfl⟩
theorem isLetter_any (c : Int) (w : World) : Calls Tryz.prog 196 #[.int .u8 c] w fun e w' => e = .returned (.bool (loZ c || upZ c)) ∧ w = w' := by
  have h := fun W => isLower_any c W
  have hu : upZ c = (decide (65 ≤ c) && decide (c ≤ 90)) := rfl
  generalize loZ c = a at *
  generalize upZ c = b at *
  have H := Lib.hid h
  clear h
  cases a
  · rcases (show c < 65 ∨ (65 ≤ c ∧ c ≤ 90) ∨ (65 ≤ c ∧ 90 < c) by omega) with h1 | ⟨h1, h2⟩ | ⟨h1, h2⟩
    all_goals
      have HU := Lib.hid hu
      clear hu
      go_enter Tryz.func196, Tryz.ntmps196
      go_wp2_with fail
      refine (H.out _).mono ?_
      rintro e _ ⟨rfl, rfl⟩
      go_wp2
      go_ret
      exact ⟨ret_bool (by rw [HU.out]; simp; try omega), rfl⟩
  · have HU := Lib.hid hu
    clear hu
    go_enter Tryz.func196, Tryz.ntmps196
    go_wp2_with fail
    refine (H.out _).mono ?_
    rintro e _ ⟨rfl, rfl⟩
    go_wp2
    go_ret
    exact ⟨rfl, rfl⟩
theorem small_any (c : Int) (w : World) : Calls Tryz.prog 234 #[.int .u8 c] w fun e w' => e = .returned (.bool (loZ c)) ∧ w = w' := by
  by_cases h1 : 97 ≤ c <;> by_cases h2 : c ≤ 122
  all_goals
    go_enter Tryz.func234, Tryz.ntmps234
    go_wp2
    go_ret
    exact ⟨ret_bool (by simp [loZ, *]), rfl⟩
theorem great_any (c : Int) (w : World) : Calls Tryz.prog 235 #[.int .u8 c] w fun e w' => e = .returned (.bool (upZ c)) ∧ w = w' := by
  by_cases h1 : 65 ≤ c <;> by_cases h2 : c ≤ 90
  all_goals
    go_enter Tryz.func235, Tryz.ntmps235
    go_wp2
    go_ret
    exact ⟨ret_bool (by simp [upZ, *]), rfl⟩
theorem digit_any (c : Int) (w : World) : Calls Tryz.prog 236 #[.int .u8 c] w fun e w' => e = .returned (.bool (dgZ c)) ∧ w = w' := by
  by_cases h1 : 48 ≤ c <;> by_cases h2 : c ≤ 57
  all_goals
    go_enter Tryz.func236, Tryz.ntmps236
    go_wp2
    go_ret
    exact ⟨ret_bool (by simp [dgZ, *]), rfl⟩

def identL (l : List UInt8) : Bool := !l.isEmpty && decide (l.length ≤ 32) && !dgZ (l.headD 0).toNat && l.all fun x => idZ x.toNat

theorem nth_take (l : List UInt8) (k : Nat) (h : k < l.length) : l.take (k + 1) = l.take k ++ [l[k]] := List.take_succ_eq_append_getElem h
theorem str_at (s : ByteArray) (k : Nat) (h : k < s.size) : s[k] = s.data.toList[k]'(by simpa using h) := rfl
theorem str_ne {s : ByteArray} (h : 0 < s.size) : s.toList.isEmpty = false ∧ ¬ s.toList = [] := by
  have : s.toList = s.data.toList := ByteArray.toList_eq s
  rw [this]
  have hl : 0 < s.data.toList.length := by simpa using h
  cases hq : s.data.toList with
  | nil => rw [hq] at hl; simp at hl
  | cons a b => simp
theorem str_nil {s : ByteArray} (h : s.size = 0) : s.toList.isEmpty = true ∧ s.toList = [] := by
  have e : s.toList = s.data.toList := ByteArray.toList_eq s
  have : s.data.toList = [] := List.eq_nil_of_length_eq_zero (by simpa using h)
  rw [e, this]; simp

set_option maxRecDepth 100000 in
set_option maxHeartbeats 1000000 in
theorem isIdent_any (s : ByteArray) (w : World) (hs : s.size ≤ maxLen) : Calls Tryz.prog 150 #[.string s] w fun e w' => e = .returned (.bool (identL s.data.toList)) ∧ w = w' := by
  unfold maxLen at hs
  have hsl : s.data.toList.length = s.size := by simp
  by_cases h0 : s.size = 0
  · have hn := (str_nil h0).1
    have hn2 := (str_nil h0).2
    have hl : s.data.toList = [] := List.eq_nil_of_length_eq_zero (by omega)
    have HL := Lib.hid hl
    clear hl hsl
    go_enter Tryz.func150, Tryz.ntmps150
    go_wp2
    go_ret
    exact ⟨ret_bool (by rw [HL.out]; rfl), rfl⟩
  have hp : 0 < s.size := by omega
  have hn := (str_ne hp).1
  have hn2 := (str_ne hp).2
  have hhead : (s.data.toList.headD 0) = s[0] := by
    rw [str_at s 0 hp, List.headD_eq_head?_getD, List.head?_eq_getElem?, List.getElem?_eq_getElem (by omega)]
    rfl
  have hne : s.data.toList.isEmpty = false := by
    cases hq : s.data.toList with
    | nil => rw [hq] at hsl; simp at hsl; omega
    | cons a b => rfl
  have hid : identL s.data.toList = (decide (s.size ≤ 32) && !dgZ (s[0].toNat : Nat) && s.data.toList.all fun x => idZ x.toNat) := by
    unfold identL; rw [hne, hsl, hhead]; rfl
  obtain ⟨R, hR⟩ : ∃ R, R = identL s.data.toList := ⟨_, rfl⟩
  rw [← hR] at hid ⊢
  have HID := Lib.hid hid
  clear hR hid hne hhead hsl
  by_cases h32 : s.size ≤ 32
  · have h32' : ¬ (32 : Int) < (s.size : Int) := by omega
    have hdg := fun W => isDigit_any (s[0].toNat : Nat) W
    obtain ⟨d, hd⟩ : ∃ d, dgZ (s[0].toNat : Nat) = d := ⟨_, rfl⟩
    simp only [hd] at hdg
    have HD := Lib.hid hdg
    have HDD := Lib.hid hd
    clear hdg hd
    cases d
    · go_enter Tryz.func150, Tryz.ntmps150
      go_wp2_with fail
      refine (HD.out _).mono ?_
      rintro e _ ⟨rfl, rfl⟩
      go_wp2_with fail
      go_loop [18] (fun j => ∃ k : Nat, j = .int .i64 k ∧ k ≤ s.size ∧ (s.data.toList.take k).all (fun x => idZ x.toNat) = true) (fun j => s.size - (intOf j).toNat)
      case atStart => exact ⟨0, rfl, by omega, by simp⟩
      case round =>
        obtain ⟨k, rfl, hk, hall⟩ := hrel
        have HA := Lib.hid hall
        clear hall
        by_cases hlt : k < s.size
        · have hlt' : (k : Int) < (s.size : Int) := by omega
          have hL := fun W => isLetter_any (s[k].toNat : Nat) W
          have hD := fun W => isDigit_any (s[k].toNat : Nat) W
          obtain ⟨c, hc⟩ : ∃ c : Int, ((s[k].toNat : Nat) : Int) = c := ⟨_, rfl⟩
          have HC := Lib.hid hc
          obtain ⟨a, ha⟩ : ∃ a, (loZ c || upZ c) = a := ⟨_, rfl⟩
          obtain ⟨b, hb⟩ : ∃ b, dgZ c = b := ⟨_, rfl⟩
          simp only [hc, ha] at hL
          simp only [hc, hb] at hD
          have HAA := Lib.hid ha
          have HBB := Lib.hid hb
          have HLL := Lib.hid hL
          have HDG := Lib.hid hD
          clear hL hD ha hb
          have hstep : ∀ q, idZ c = q → (s.data.toList.take (k + 1)).all (fun x => idZ x.toNat) = q := by
            intro q hq
            have hkl : k < s.data.toList.length := by simpa using hlt
            rw [nth_take _ _ hkl, List.all_append, HA.out]
            simp only [List.all_cons, List.all_nil, Bool.and_true, Bool.true_and]
            rw [← hq, ← HC.out, str_at s k hlt]
          have HST := Lib.hid hstep
          clear hstep
          cases a
          · cases b
            · by_cases h95 : c = 95
              · have e95 : (c != 95) = false := by simp [h95]
                have H95 := Lib.hid h95
                clear h95
                go_wp2_with fail
                refine (HLL.out _).mono ?_
                rintro e _ ⟨rfl, rfl⟩
                go_wp2_with fail
                refine (HDG.out _).mono ?_
                rintro e _ ⟨rfl, rfl⟩
                go_wp2_with fail
                go_round
                case rel => exact ⟨k + 1, by go_num, by omega, HST.out true (by unfold idZ; rw [H95.out]; decide)⟩
                case measure => simp [intOf]; omega
              · have e95 : (c != 95) = true := by simp [h95]
                have H95 := Lib.hid h95
                clear h95
                go_wp2_with fail
                refine (HLL.out _).mono ?_
                rintro e _ ⟨rfl, rfl⟩
                go_wp2_with fail
                refine (HDG.out _).mono ?_
                rintro e _ ⟨rfl, rfl⟩
                go_wp2
                go_ret
                have h1 := HST.out false (by unfold idZ; rw [HAA.out, HBB.out]; simp [H95.out])
                refine ⟨ret_bool ?_, rfl⟩
                rw [HID.out]
                have h2 : s.data.toList.all (fun x => idZ x.toNat) = false := by
                  rw [← List.take_append_drop (k + 1) s.data.toList, List.all_append, h1]; rfl
                rw [h2]; simp
            · go_wp2_with fail
              refine (HLL.out _).mono ?_
              rintro e _ ⟨rfl, rfl⟩
              go_wp2_with fail
              refine (HDG.out _).mono ?_
              rintro e _ ⟨rfl, rfl⟩
              go_wp2_with fail
              go_round
              case rel => exact ⟨k + 1, by go_num, by omega, HST.out true (by unfold idZ; rw [HAA.out, HBB.out]; rfl)⟩
              case measure => simp [intOf]; omega
          · go_wp2_with fail
            refine (HLL.out _).mono ?_
            rintro e _ ⟨rfl, rfl⟩
            go_wp2_with fail
            go_round
            case rel => exact ⟨k + 1, by go_num, by omega, HST.out true (by unfold idZ; rw [HAA.out]; rfl)⟩
            case measure => simp [intOf]; omega
        · go_wp2
          go_ret
          refine ⟨ret_bool ?_, rfl⟩
          have h2 := HA.out
          rw [List.take_of_length_le (by simp; omega)] at h2
          rw [HID.out, h2, HDD.out]
          simp; omega
    · go_enter Tryz.func150, Tryz.ntmps150
      go_wp2_with fail
      refine (HD.out _).mono ?_
      rintro e _ ⟨rfl, rfl⟩
      go_wp2
      go_ret
      exact ⟨ret_bool (by rw [HID.out, HDD.out]; simp), rfl⟩
  · have h32' : (32 : Int) < (s.size : Int) := by omega
    go_enter Tryz.func150, Tryz.ntmps150
    go_wp2
    go_ret
    exact ⟨ret_bool (by rw [HID.out]; simp; omega), rfl⟩
end Go.Proofs.YtoineheocipmaaaGreatDoor
