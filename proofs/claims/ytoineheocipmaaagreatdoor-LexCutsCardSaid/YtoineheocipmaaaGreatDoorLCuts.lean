/-
  LexCuts, walked.
-/
import Derived.Test.YtoineheocipmaaaGreatDoorLexRWs
namespace Go.Proofs.YtoineheocipmaaaGreatDoor
open Go.RowKit
set_option linter.unusedVariables false
set_option linter.unusedSimpArgs false

theorem wdF_few (s : ByteArray) : ∀ (k p : Nat), p ≤ s.size → (wdF s k p).l.length + p ≤ s.size + 1
  | 0, p, hp => by simp [wdF]; omega
  | k + 1, p, hp => by
    have hle : p + (skL (s.data.toList.drop p)).1 ≤ s.size := by
      have := skL_le (s.data.toList.drop p).length (s.data.toList.drop p)
      have h2 : (s.data.toList.drop p).length = s.size - p := by simp
      unfold skL
      omega
    rw [wdF]
    generalize hn : (skL (s.data.toList.drop p)).1 = n at *
    by_cases h1 : (skL (s.data.toList.drop p)).2 = false
    · rw [if_pos h1]; simp; omega
    · rw [if_neg h1]
      by_cases h2 : p + n = s.size
      · rw [if_pos h2]; simp; omega
      · rw [if_neg h2]
        have hlt : p + n < s.size := by omega
        have hgd : s.data.toList.getD (p + n) 0 = s[p + n] := by
          rw [List.getD_eq_getElem?_getD, List.getElem?_eq_getElem (by simpa using hlt)]; rfl
        rw [hgd]
        by_cases h3 : (tkR s (p + n) s[p + n]).e ≠ 0
        · rw [if_pos h3]; simp; omega
        · rw [if_neg h3]
          obtain ⟨z1, z2⟩ := tk_size hlt (show (tkR s (p + n) s[p + n]).e = 0 by omega)
          have ih := wdF_few s k (p + n + (tkR s (p + n) s[p + n]).z) z2
          split
          · omega
          · simp only [List.length_cons]; omega
theorem words_few (s : ByteArray) : (wordsR s).l.length ≤ s.size + 1 := by
  unfold wordsR
  split
  · simp
  · have := wdF_few s (s.size + 1) 0 (by omega)
    omega
set_option maxRecDepth 100000 in
set_option maxHeartbeats 1000000 in
theorem cuts_any (s : ByteArray) (w : World) (hE : Env w) : Calls Tryz.prog 3 #[.string s] w fun e w' => e = .returned (.bool true) ∧ Below w.heap.size w w' := by
  obtain ⟨m, hm, hms, hm2⟩ : ∃ m : Nat, min (s.size : Int) 2000 = (m : Int) ∧ m ≤ s.size ∧ m ≤ 2000 := ⟨min s.size 2000, by omega, by omega, by omega⟩
  have hms' : (m : Int) ≤ (s.size : Int) := by omega
  obtain ⟨t, ht⟩ : ∃ t, s.extract 0 m = t := ⟨_, rfl⟩
  have hts : t.size ≤ 2000 := by rw [← ht]; simp [ByteArray.size_extract]; omega
  have h1 := words_any t w hE (by omega)
  have h2 := fun W => refWords_any t W (by omega)
  have hfew := words_few t
  generalize wordsR t = R at *
  have H1 := Lib.hid h1
  have H2 := Lib.hid h2
  have HE := Lib.hid hE
  clear h1 h2 hE
  go_enter Tryz.func3, Tryz.ntmps3
  go_wp2_with fail
  refine (H1.out).mono ?_
  rintro e w1 ⟨v1, rfl, ho1, hb1⟩
  have HO1 := Lib.hid ho1
  have HB1 := Lib.hid hb1
  obtain ⟨A1, c1, rfl, _, _, _⟩ := ho1.val
  clear ho1 hb1
  go_wp2_with fail
  refine (H2.out _).mono ?_
  rintro e w2 ⟨v2, rfl, ho2, hb2⟩
  have hsm := same_any R.l w.heap.size w1.heap.size (.slice A1 R.l.length c1) v2 w2 (HO1.out.below hb2) ho2 (by omega)
  have HSM := Lib.hid hsm
  have HB2 := Lib.hid (HB1.out.trans (hb2.mono HB1.out.size))
  obtain ⟨A2, c2, rfl, _, _, _⟩ := ho2.val
  have e1 : ((R.at_ : Int) == (R.at_ : Int)) = true := by simp
  have e2 : ((R.e : Int) == (R.e : Int)) = true := by simp
  clear ho2 hb2 hsm
  go_wp2_with fail
  refine (HSM.out).mono ?_
  rintro e w3 ⟨rfl, hb3⟩
  have HB3 := Lib.hid (HB2.out.trans (hb3.mono HB2.out.size))
  clear hb3
  go_wp2_with fail
  refine (lexWorks_any _ (HE.out.below HB3.out)).mono ?_
  rintro e w4 ⟨rfl, hb4⟩
  have HB4 := Lib.hid (HB3.out.trans (hb4.mono HB3.out.size))
  clear hb4
  go_wp2_with fail
  go_ret
  exact ⟨rfl, HB4.out⟩
end Go.Proofs.YtoineheocipmaaaGreatDoor
