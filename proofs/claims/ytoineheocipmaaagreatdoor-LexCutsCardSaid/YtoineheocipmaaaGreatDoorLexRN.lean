/-
  lex: the document's answer: the number of a word.
-/
import Derived.Test.YtoineheocipmaaaGreatDoorLexRV
namespace Go.Proofs.YtoineheocipmaaaGreatDoor
open Go.RowKit
set_option linter.unusedVariables false
set_option linter.unusedSimpArgs false

theorem bytes_inj_ {a b : ByteArray} (h : a.data.toList = b.data.toList) : a = b := by
  cases a; cases b
  congr
  exact Array.toList_inj.1 h
theorem two_pre (s : ByteArray) (h : 1 < s.size) (a b : UInt8) : ((s.extract 0 2).toList == [a, b]) = Lib.hasPrefix s.data.toList [a, b] := by
  have e : (s.extract 0 2).toList = s.data.toList.take 2 := by rw [Lib.toList_data]; simp
  have hl : s.data.toList.length = s.size := by simp
  rw [e]
  unfold Lib.hasPrefix
  rcases hd : s.data.toList with _ | ⟨x, _ | ⟨y, r⟩⟩
  · rw [hd] at hl; simp at hl; omega
  · rw [hd] at hl; simp at hl; omega
  · rw [Bool.eq_iff_iff]; simp [List.isPrefixOf]; constructor <;> (rintro ⟨rfl, rfl⟩; exact ⟨rfl, rfl⟩)
set_option maxRecDepth 100000 in
set_option maxHeartbeats 1000000 in
theorem refNum_any (s : ByteArray) (w : World) (h0 : 0 < s.size) (hs : s.size ≤ 1000000) : Calls Tryz.prog 94 #[.string s] w fun e w' => e = .returned (.int .i64 (rvR (ntB s) (ntD s).data.toList)) ∧ Below w.heap.size w w' := by
  obtain ⟨N, hN⟩ : ∃ N, N = rvR (ntB s) (ntD s).data.toList := ⟨_, rfl⟩
  rw [← hN]
  have HN := Lib.hid hN
  clear hN
  have h0' : (0 : Int) < (s.size : Int) := by omega
  by_cases hz : s = ⟨#[48]⟩
  · subst hz
    have : N = 0 := by rw [HN.out]; decide +kernel
    subst this
    clear HN
    go_enter Tryz.func94, Tryz.ntmps94
    go_wp2_with fail
    go_ret
    exact ⟨rfl, Below.refl _ _⟩
  · have HZ := Lib.hid hz
    have ez : (s.toList == [48]) = false := by
      rw [Lib.toList_data]
      simp only [beq_eq_false_iff_ne, ne_eq]
      intro h
      exact hz (bytes_inj_ (by rw [h]))
    clear hz
    have hh : s.data.toList.headD 0 = s[0] := by
      have := drop_at s 0 h0
      rw [List.drop_zero] at this
      rw [this]; rfl
    have hA : ntD s = if Lib.hasPrefix s.data.toList [48, 120] || Lib.hasPrefix s.data.toList [48, 88] then s.extract 2 s.size else if decide (1 < s.size) && (s.data.toList.headD 0 == 48) then s.extract 1 s.size else s := rfl
    have hB : ntB s = if Lib.hasPrefix s.data.toList [48, 120] || Lib.hasPrefix s.data.toList [48, 88] then 16 else if decide (1 < s.size) && (s.data.toList.headD 0 == 48) then 8 else 10 := rfl
    have z1 := fun h => pre_size (s := s) (a := 48) (b := 120) h
    have z2 := fun h => pre_size (s := s) (a := 48) (b := 88) h
    rw [hh] at hA hB
    have hsz1 : s.size = 1 → s[0] ≠ 48 := by
      intro h1 h2
      apply HZ.out
      apply bytes_inj_
      have hl : s.data.toList.length = 1 := by simpa using h1
      rcases hd : s.data.toList with _ | ⟨x, _ | ⟨y, r⟩⟩
      · rw [hd] at hl; simp at hl
      · rw [hd] at hh; rw [← hh] at h2; simp at h2; rw [h2]
      · rw [hd] at hl; simp at hl
    generalize hc : s[0] = c at *
    by_cases h1 : 1 < s.size
    · have h1' : (1 : Int) < (s.size : Int) := by omega
      have t1 := two_pre s h1 48 120
      have t2 := two_pre s h1 48 88
      generalize Lib.hasPrefix s.data.toList [48, 120] = x1 at *
      generalize Lib.hasPrefix s.data.toList [48, 88] = x2 at *
      have HA := Lib.hid hA
      have HBB := Lib.hid hB
      clear hA hB z1 z2 hh hsz1
      have fin16 : (x1 || x2) = true → N = rvR 16 (s.extract 2 s.size).data.toList := by intro h; rw [HN.out, HA.out, HBB.out, if_pos h, if_pos h]
      have fin8' : (x1 || x2) = false → c = 48 → N = rvR 8 (s.extract 1 s.size).data.toList := by intro h hc; rw [HN.out, HA.out, HBB.out, h]; simp [h1, hc]
      have fin10 : (x1 || x2) = false → c ≠ 48 → N = rvR 10 s.data.toList := by intro h hc; rw [HN.out, HA.out, HBB.out, h]; simp [hc]
      have F16 := Lib.hid fin16
      have F8 := Lib.hid fin8'
      have F10 := Lib.hid fin10
      clear fin16 fin8' fin10
      cases x1
      · cases x2
        · by_cases hc48 : c = 48
          · have e1 : ((c.toNat : Int) == 48) = true := by rw [hc48]; rfl
            have H48 := Lib.hid hc48
            clear hc48
            go_enter Tryz.func94, Tryz.ntmps94
            go_wp2_with fail
            refine (refVal_any _ 8 (by omega) _ (by simp; omega)).mono ?_
            rintro e w1 ⟨rfl, hb⟩
            rw [← F8.out rfl H48.out]
            go_wp2_with fail
            go_ret
            exact ⟨rfl, hb⟩
          · have e1 : ((c.toNat : Int) == 48) = false := by simp only [beq_eq_false_iff_ne, ne_eq]; intro e; exact hc48 (UInt8.toNat_inj.1 (by show c.toNat = 48; omega))
            have H48 := Lib.hid hc48
            clear hc48
            go_enter Tryz.func94, Tryz.ntmps94
            go_wp2_with fail
            refine (refVal_any _ 10 (by omega) _ hs).mono ?_
            rintro e w1 ⟨rfl, hb⟩
            rw [← F10.out rfl H48.out]
            go_wp2_with fail
            go_ret
            exact ⟨rfl, hb⟩
        · go_enter Tryz.func94, Tryz.ntmps94
          go_wp2_with fail
          refine (refVal_any _ 16 (by omega) _ (by simp; omega)).mono ?_
          rintro e w1 ⟨rfl, hb⟩
          rw [← F16.out rfl]
          go_wp2_with fail
          go_ret
          exact ⟨rfl, hb⟩
      · go_enter Tryz.func94, Tryz.ntmps94
        go_wp2_with fail
        refine (refVal_any _ 16 (by omega) _ (by simp; omega)).mono ?_
        rintro e w1 ⟨rfl, hb⟩
        rw [← F16.out rfl]
        go_wp2_with fail
        go_ret
        exact ⟨rfl, hb⟩
    · have h1' : ¬ (1 : Int) < (s.size : Int) := by omega
      have hne : c ≠ 48 := hsz1 (by omega)
      have e1 : ((c.toNat : Int) == 48) = false := by simp only [beq_eq_false_iff_ne, ne_eq]; intro e; exact hne (UInt8.toNat_inj.1 (by show c.toNat = 48; omega))
      have q1 : Lib.hasPrefix s.data.toList [48, 120] = false := by cases hq : Lib.hasPrefix s.data.toList [48, 120]; · rfl
                                                                    · exact absurd (z1 hq) (by omega)
      have q2 : Lib.hasPrefix s.data.toList [48, 88] = false := by cases hq : Lib.hasPrefix s.data.toList [48, 88]; · rfl
                                                                   · exact absurd (z2 hq) (by omega)
      have hN : N = rvR 10 s.data.toList := by rw [HN.out, hA, hB, q1, q2]; simp [hne]
      have HN2 := Lib.hid hN
      clear hA hB z1 z2 hh hsz1 hne q1 q2 hN
      go_enter Tryz.func94, Tryz.ntmps94
      go_wp2_with fail
      refine (refVal_any _ 10 (by omega) _ hs).mono ?_
      rintro e w1 ⟨rfl, hb⟩
      rw [← HN2.out]
      go_wp2_with fail
      go_ret
      exact ⟨rfl, hb⟩
end Go.Proofs.YtoineheocipmaaaGreatDoor
