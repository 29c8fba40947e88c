/-
  The document's IsIdent.
-/
import Derived.Test.YtjophmgpknpboaaDoorNames
namespace Go.Proofs.YtjophmgpknpboaaDoor
open Go.RowKit
set_option linter.unusedVariables false

/-- So far all bytes may be, and the first one is no digit. -/
structure IdR (s : ByteArray) (k : Nat) : Prop where
  all : (s.data.toList.take k).all (fun x => idZ x.toNat) = true
  head : 0 < k → dgZ ((s.data.toList.headD 0).toNat : Nat) = false
theorem head_at {s : ByteArray} (h : 0 < s.size) : s.data.toList.headD 0 = s[0] := by
  rw [str_at s 0 h, List.headD_eq_head?_getD, List.head?_eq_getElem?, List.getElem?_eq_getElem (by simpa using h)]
  rfl
theorem id_step {s : ByteArray} {k : Nat} (h : IdR s k) (hk : k < s.size) (hc : idZ (s[k].toNat : Nat) = true) (hd : k = 0 → dgZ (s[k].toNat : Nat) = false) : IdR s (k + 1) := by
  have hkl : k < s.data.toList.length := by simpa using hk
  refine ⟨?_, fun _ => ?_⟩
  · rw [nth_take _ _ hkl, List.all_append, h.all]
    simp only [List.all_cons, List.all_nil, Bool.and_true, Bool.true_and]
    rw [← str_at s k hk]; exact hc
  · rcases Nat.eq_zero_or_pos k with h0 | h0
    · subst h0
      rw [head_at hk]; exact hd rfl
    · exact h.head h0
theorem id_bad {s : ByteArray} {k : Nat} (hk : k < s.size) (hc : idZ (s[k].toNat : Nat) = false ∨ (k = 0 ∧ dgZ (s[k].toNat : Nat) = true)) : identL s.data.toList = false := by
  have hkl : k < s.data.toList.length := by simpa using hk
  unfold identL
  rcases hc with hc | ⟨rfl, hc⟩
  · have : s.data.toList.all (fun x => idZ x.toNat) = false := by
      rw [← List.take_append_drop (k + 1) s.data.toList, List.all_append, nth_take _ _ hkl, List.all_append]
      simp only [List.all_cons, List.all_nil, Bool.and_true]
      rw [← str_at s k hk, hc]; simp
    rw [this]; simp
  · rw [head_at hk, hc]; simp
theorem id_end {s : ByteArray} {k : Nat} (h : IdR s k) (hk : ¬ k < s.size) (hk2 : k ≤ s.size) : identL s.data.toList = (decide (1 ≤ s.size) && decide (s.size ≤ 32)) := by
  have ha := h.all
  have hsl : s.data.toList.length = s.size := by simp
  rw [List.take_of_length_le (by omega)] at ha
  unfold identL
  rw [ha, hsl]
  by_cases h0 : s.size = 0
  · have : s.data.toList = [] := List.eq_nil_of_length_eq_zero (by omega)
    rw [this, h0]; simp
  · have hne : s.data.toList.isEmpty = false := by
      cases hq : s.data.toList with
      | nil => rw [hq] at hsl; simp at hsl; omega
      | cons a b => rfl
    rw [hne, h.head (by omega)]
    simp
    omega
theorem lo_nodg {c : Int} (h : loZ c = true) : dgZ c = false := by unfold loZ at h; unfold dgZ; simp at *; omega
theorem up_nodg {c : Int} (h : upZ c = true) : dgZ c = false := by unfold upZ at h; unfold dgZ; simp at *; omega

set_option maxRecDepth 100000 in
set_option maxHeartbeats 1000000 in
theorem risIdent_any (s : ByteArray) (w : World) (hs : s.size ≤ maxLen) : Calls Tryd.prog 23 #[.string s] w fun e w' => e = .returned (.bool (identL s.data.toList)) ∧ w = w' := by
  unfold maxLen at hs
  obtain ⟨R, hR⟩ : ∃ R, R = identL s.data.toList := ⟨_, rfl⟩
  rw [← hR]
  have HR := Lib.hid hR
  clear hR
  go_enter Tryd.func23, Tryd.ntmps23
  go_wp2_with fail
  go_loop [3] (fun j => ∃ k : Nat, j = .int .i64 k ∧ k ≤ s.size ∧ IdR s k) (fun j => s.size - (intOf j).toNat)
  case atStart => exact ⟨0, rfl, by omega, ⟨by simp, fun h => absurd h (by omega)⟩⟩
  case round =>
    obtain ⟨k, rfl, hk, hrel⟩ := hrel
    have HREL := Lib.hid hrel
    clear hrel
    by_cases hlt : k < s.size
    · have hlt' : (k : Int) < (s.size : Int) := by omega
      have h1 := fun W => small_any (s[k].toNat : Nat) W
      have h2 := fun W => great_any (s[k].toNat : Nat) W
      have h3 := fun W => digit_any (s[k].toNat : Nat) W
      have hstep := id_step HREL.out hlt
      have hbad := id_bad hlt
      obtain ⟨c, hc⟩ : ∃ c : Int, ((s[k].toNat : Nat) : Int) = c := ⟨_, rfl⟩
      rw [hc] at hstep hbad
      obtain ⟨a, ha⟩ : ∃ a, loZ c = a := ⟨_, rfl⟩
      obtain ⟨b, hb⟩ : ∃ b, upZ c = b := ⟨_, rfl⟩
      obtain ⟨d, hd⟩ : ∃ d, dgZ c = d := ⟨_, rfl⟩
      simp only [hc, ha] at h1
      simp only [hc, hb] at h2
      simp only [hc, hd] at h3
      have H1 := Lib.hid h1
      have H2 := Lib.hid h2
      have H3 := Lib.hid h3
      have HA := Lib.hid ha
      have HB := Lib.hid hb
      have HD := Lib.hid hd
      have HST := Lib.hid hstep
      have HBD := Lib.hid hbad
      clear h1 h2 h3 ha hb hd hstep hbad
      cases a
      · cases b
        · by_cases h95 : c = 95
          · have e95 : (c != 95) = false := by simp [h95]
            have H95 := Lib.hid h95
            clear h95
            go_wp2_with fail
            refine (H1.out _).mono ?_
            rintro e _ ⟨rfl, rfl⟩
            go_wp2_with fail
            refine (H2.out _).mono ?_
            rintro e _ ⟨rfl, rfl⟩
            go_wp2_with fail
            go_round
            case rel => exact ⟨k + 1, by go_num, by omega, HST.out (by rw [H95.out]; decide) (fun _ => by rw [H95.out]; decide)⟩
            case measure => simp [intOf]; omega
          · have e95 : (c != 95) = true := by simp [h95]
            have H95 := Lib.hid h95
            clear h95
            have hid : idZ c = d := by unfold idZ; rw [HA.out, HB.out, HD.out]; simp [H95.out]
            have HID := Lib.hid hid
            clear hid
            by_cases hk0 : k = 0
            · subst hk0
              go_wp2_with fail
              refine (H1.out _).mono ?_
              rintro e _ ⟨rfl, rfl⟩
              go_wp2_with fail
              refine (H2.out _).mono ?_
              rintro e _ ⟨rfl, rfl⟩
              go_wp2
              go_ret
              refine ⟨ret_bool ?_, rfl⟩
              rw [HR.out, HBD.out (by cases d; exact .inl HID.out; exact .inr ⟨trivial, HD.out⟩)]
            · have ek : ((k : Int) == 0) = false := by simp; omega
              have HK0 := Lib.hid hk0
              clear hk0
              cases d
              · go_wp2_with fail
                refine (H1.out _).mono ?_
                rintro e _ ⟨rfl, rfl⟩
                go_wp2_with fail
                refine (H2.out _).mono ?_
                rintro e _ ⟨rfl, rfl⟩
                go_wp2_with fail
                refine (H3.out _).mono ?_
                rintro e _ ⟨rfl, rfl⟩
                go_wp2
                go_ret
                exact ⟨ret_bool (by rw [HR.out, HBD.out (.inl HID.out)]), rfl⟩
              · go_wp2_with fail
                refine (H1.out _).mono ?_
                rintro e _ ⟨rfl, rfl⟩
                go_wp2_with fail
                refine (H2.out _).mono ?_
                rintro e _ ⟨rfl, rfl⟩
                go_wp2_with fail
                refine (H3.out _).mono ?_
                rintro e _ ⟨rfl, rfl⟩
                go_wp2_with fail
                go_round
                case rel => exact ⟨k + 1, by go_num, by omega, HST.out HID.out (fun q => absurd q HK0.out)⟩
                case measure => simp [intOf]; omega
        · go_wp2_with fail
          refine (H1.out _).mono ?_
          rintro e _ ⟨rfl, rfl⟩
          go_wp2_with fail
          refine (H2.out _).mono ?_
          rintro e _ ⟨rfl, rfl⟩
          go_wp2_with fail
          go_round
          case rel => exact ⟨k + 1, by go_num, by omega, HST.out (by unfold idZ; rw [HB.out]; simp) (fun _ => up_nodg HB.out)⟩
          case measure => simp [intOf]; omega
      · go_wp2_with fail
        refine (H1.out _).mono ?_
        rintro e _ ⟨rfl, rfl⟩
        go_wp2_with fail
        go_round
        case rel => exact ⟨k + 1, by go_num, by omega, HST.out (by unfold idZ; rw [HA.out]; simp) (fun _ => lo_nodg HA.out)⟩
        case measure => simp [intOf]; omega
    · have he := id_end HREL.out hlt hk
      rw [← HR.out] at he
      have HE := Lib.hid he
      clear he
      rcases (show s.size = 0 ∨ (1 ≤ s.size ∧ s.size ≤ 32) ∨ 32 < s.size by omega) with h | ⟨h, h'⟩ | h
      · have i1 : ¬ (1 : Int) ≤ (s.size : Int) := by omega
        go_wp2
        go_ret
        exact ⟨ret_bool (by rw [HE.out]; simp; omega), rfl⟩
      · have i1 : (1 : Int) ≤ (s.size : Int) := by omega
        have i2 : (s.size : Int) ≤ 32 := by omega
        go_wp2
        go_ret
        exact ⟨ret_bool (by rw [HE.out]; simp; omega), rfl⟩
      · have i1 : (1 : Int) ≤ (s.size : Int) := by omega
        have i2 : ¬ (s.size : Int) ≤ 32 := by omega
        go_wp2
        go_ret
        exact ⟨ret_bool (by rw [HE.out]; simp; omega), rfl⟩
end Go.Proofs.YtjophmgpknpboaaDoor
