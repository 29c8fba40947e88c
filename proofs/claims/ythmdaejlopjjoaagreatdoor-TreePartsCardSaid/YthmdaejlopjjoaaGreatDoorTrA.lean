/-
  tree: IsPath, the program's and the document's.
-/
import Derived.Test.YthmdaejlopjjoaaGreatDoorLxA
import Derived.Test.YthmdaejlopjjoaaGreatDoorTmA
namespace Go.Proofs.YthmdaejlopjjoaaGreatDoor
open Go.RowKit
set_option linter.unusedVariables false
set_option linter.unusedSimpArgs false

theorem pathL_bad {l : List UInt8} {c : UInt8} (h : c ∈ l) (hc : pcZ (c.toNat : Nat) = false) : pathL l = false := by
  unfold pathL
  have : l.all (fun c => pcZ (c.toNat : Nat)) = false := by
    rw [List.all_eq_false]
    exact ⟨c, h, by simp [hc]⟩
  rw [this]
  rfl
set_option maxRecDepth 100000 in
set_option maxHeartbeats 1000000 in
theorem mayBeInPath_any (z : Int) (w : World) : Calls Tryz.prog 46 #[.int .u8 z] w fun e w' => e = .returned (.bool (pcZ z)) ∧ w = w' := by
  have key : ∀ b, pcZ z = b → Calls Tryz.prog 46 #[.int .u8 z] w fun e w' => e = .returned (.bool b) ∧ w = w' := by
    intro b hb
    unfold pcZ at hb
    by_cases a1 : z = 95
    · subst a1; obtain rfl : b = true := by rw [← hb]; decide
      go_enter Tryz.func46, Tryz.ntmps46
      go_wp2_with fail
      go_ret
      exact ⟨rfl, rfl⟩
    by_cases a2 : z = 45
    · subst a2; obtain rfl : b = true := by rw [← hb]; decide
      go_enter Tryz.func46, Tryz.ntmps46
      go_wp2_with fail
      go_ret
      exact ⟨rfl, rfl⟩
    by_cases a3 : z = 46
    · subst a3; obtain rfl : b = true := by rw [← hb]; decide
      go_enter Tryz.func46, Tryz.ntmps46
      go_wp2_with fail
      go_ret
      exact ⟨rfl, rfl⟩
    by_cases a4 : z = 47
    · subst a4; obtain rfl : b = true := by rw [← hb]; decide
      go_enter Tryz.func46, Tryz.ntmps46
      go_wp2_with fail
      go_ret
      exact ⟨rfl, rfl⟩
    have e1 : (z == 95) = false := by simpa using a1
    have e2 : (z == 45) = false := by simpa using a2
    have e3 : (z == 46) = false := by simpa using a3
    have e4 : (z == 47) = false := by simpa using a4
    rw [e1, e2, e3, e4] at hb
    simp only [Bool.or_false] at hb
    have HB := Lib.hid hb
    clear hb a1 a2 a3 a4
    have hz : (97 ≤ z ∧ z ≤ 122) ∨ (65 ≤ z ∧ z ≤ 90) ∨ (48 ≤ z ∧ z ≤ 57) ∨ (z < 48) ∨ (57 < z ∧ z < 65) ∨ (90 < z ∧ z < 97) ∨ (122 < z) := by omega
    rcases hz with ⟨h1, h2⟩ | ⟨h1, h2⟩ | ⟨h1, h2⟩ | h1 | ⟨h1, h2⟩ | ⟨h1, h2⟩ | h1
    all_goals
      go_enter Tryz.func46, Tryz.ntmps46
      go_wp2_with fail
      go_ret
      refine ⟨?_, rfl⟩
      rw [← HB.out]
      refine congrArg Ending.returned (congrArg Value.bool (?_ : _ = _))
      rw [Bool.eq_iff_iff]
      simp
      omega
  exact key _ rfl
theorem path_all {s : ByteArray} (h1 : 1 ≤ s.size) (h2 : s.size ≤ 64) (h : s.data.toList.all (fun c => pcZ (c.toNat : Nat)) = true) : pathL s.data.toList = true := by
  have hl : s.data.toList.length = s.size := by simp
  unfold pathL
  rw [h, hl]
  simp
  omega
theorem path_len {s : ByteArray} (h : s.size = 0 ∨ 64 < s.size) : pathL s.data.toList = false := by
  have hl : s.data.toList.length = s.size := by simp
  unfold pathL
  rw [hl]
  rcases h with h | h
  · rw [show decide (1 ≤ s.size) = false from decide_eq_false (by omega)]; simp
  · rw [show decide (s.size ≤ 64) = false from decide_eq_false (by omega)]; simp
set_option maxRecDepth 100000 in
set_option maxHeartbeats 1000000 in
theorem isPath_any (s : ByteArray) (w : World) (hs : s.size ≤ 1000000) : Calls Tryz.prog 12 #[.string s] w fun e w' => e = .returned (.bool (pathL s.data.toList)) ∧ w = w' := by
  by_cases h0 : s.size = 0
  · rw [path_len (.inl h0)]
    have et : s.toList = [] := by rw [Lib.toList_data]; exact List.eq_nil_of_length_eq_zero (by simpa using h0)
    have et2 : s.toList.isEmpty = true := by rw [et]; rfl
    go_enter Tryz.func12, Tryz.ntmps12
    go_wp2_with fail
    go_ret
    exact ⟨rfl, rfl⟩
  have et : ¬ s.toList = [] := by
    intro h
    rw [Lib.toList_data] at h
    exact h0 (by have := congrArg List.length h; simpa using this)
  have et2 : s.toList.isEmpty = false := by simpa using et
  by_cases h64 : 64 < s.size
  · rw [path_len (.inr h64)]
    have h64' : (64 : Int) < (s.size : Int) := by omega
    go_enter Tryz.func12, Tryz.ntmps12
    go_wp2_with fail
    go_ret
    exact ⟨rfl, rfl⟩
  have h64' : ¬ (64 : Int) < (s.size : Int) := by omega
  obtain ⟨b, hb⟩ : ∃ b, b = pathL s.data.toList := ⟨_, rfl⟩
  rw [← hb]
  have HB := Lib.hid hb
  clear hb
  go_enter Tryz.func12, Tryz.ntmps12
  go_wp2_with fail
  go_loopg [3, 13] s.size (fun g v3 v13 wr => ∃ i : Nat, i ≤ s.size ∧ g = s.size - i ∧ v13 = .int .i64 i ∧ (s.data.toList.take i).all (fun c => pcZ (c.toNat : Nat)) = true ∧ w = wr)
  case atStart => exact ⟨0, by omega, rfl, rfl, rfl, rfl⟩
  case round =>
    obtain ⟨i, hi, rfl, rfl, hall, rfl⟩ := hrel
    have HAL := Lib.hid hall
    clear hall
    by_cases hil : i < s.size
    · have hil' : (i : Int) < (s.size : Int) := by omega
      have hi0 : (0 : Int) ≤ (i : Int) := by omega
      have hm : s[i] ∈ s.data.toList := by
        have : s[i] = s.data.toList[i]'(by simpa using hil) := rfl
        rw [this]; exact List.getElem_mem _
      have htk : s.data.toList.take (i + 1) = s.data.toList.take i ++ [s[i]] := nth_take s.data.toList i (by simpa using hil)
      have c1 := fun W => mayBeInPath_any (s[i].toNat : Nat) W
      generalize hx : s[i] = c at *
      have C1 := Lib.hid c1
      have HM := Lib.hid hm
      have HTK := Lib.hid htk
      clear c1 hm htk
      cases hp : pcZ (c.toNat : Nat)
      · have hbf := Lib.hid (show b = false by rw [HB.out]; exact pathL_bad HM.out hp)
        have c2 := C1.out
        rw [hp] at c2
        clear hp C1
        go_wp2_with fail
        refine (c2 _).mono ?_
        rintro e _ ⟨rfl, rfl⟩
        go_wp2_with fail
        go_ret
        exact ⟨by rw [hbf.out]; rfl, rfl⟩
      · have HN := Lib.hid (show (s.data.toList.take (i + 1)).all (fun c => pcZ (c.toNat : Nat)) = true by rw [HTK.out, List.all_append, HAL.out]; simp [hp])
        have c2 := C1.out
        rw [hp] at c2
        clear hp C1
        go_wp2_with fail
        refine (c2 _).mono ?_
        rintro e _ ⟨rfl, rfl⟩
        go_wp2_with fail
        go_roundg (s.size - (i + 1))
        case measure => omega
        case rel => exact ⟨i + 1, by omega, rfl, by go_num, HN.out, rfl⟩
    · obtain rfl : i = s.size := by omega
      have hbt := Lib.hid (show b = true by
        rw [HB.out]
        have h := HAL.out
        rw [List.take_of_length_le (by simp)] at h
        exact path_all (by omega) (by omega) h)
      go_wp2_with fail
      go_ret
      exact ⟨by rw [hbt.out]; rfl, rfl⟩
end Go.Proofs.YthmdaejlopjjoaaGreatDoor
