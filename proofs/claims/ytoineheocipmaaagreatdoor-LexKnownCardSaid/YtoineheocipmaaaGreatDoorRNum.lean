/-
  The document's hex and number, walked.
-/
import Derived.Test.YtoineheocipmaaaGreatDoorDigits
namespace Go.Proofs.YtoineheocipmaaaGreatDoor
open Go.RowKit
set_option linter.unusedVariables false
set_option linter.unusedSimpArgs false

def hxV (c : Int) : Int := if dgV c = 16 then -1 else dgV c
theorem hex_any (c : Int) (w : World) (h0 : 0 ≤ c) (h1 : c < 256) : Calls Tryz.prog 230 #[.int .u8 c] w fun e w' => e = .returned (.int .i64 (hxV c)) ∧ w = w' := by
  have hd := fun W => digit_any c W
  have hz : dgZ c = (decide (48 ≤ c) && decide (c ≤ 57)) := rfl
  have hv : dgV c = if 48 ≤ c ∧ c ≤ 57 then c - 48 else if 97 ≤ c ∧ c ≤ 102 then c - 97 + 10 else if 65 ≤ c ∧ c ≤ 70 then c - 65 + 10 else 16 := rfl
  have hx : hxV c = if dgV c = 16 then -1 else dgV c := rfl
  obtain ⟨X, hX⟩ : ∃ X, hxV c = X := ⟨_, rfl⟩
  rw [hX] at hx ⊢
  obtain ⟨V, hV⟩ : ∃ V, dgV c = V := ⟨_, rfl⟩
  rw [hV] at hv hx
  generalize dgZ c = b at *
  have HD := Lib.hid hd
  have HV := Lib.hid hv
  have HX := Lib.hid hx
  clear hd hV hv hx hX
  rcases (show (48 ≤ c ∧ c ≤ 57) ∨ (97 ≤ c ∧ c ≤ 102) ∨ (65 ≤ c ∧ c ≤ 70) ∨ c < 48 ∨ (58 ≤ c ∧ c < 65) ∨ (70 < c ∧ c < 97) ∨ 102 < c by omega) with ⟨h, h'⟩ | ⟨h, h'⟩ | ⟨h, h'⟩ | h | ⟨h, h'⟩ | ⟨h, h'⟩ | h
  · obtain rfl : b = true := by rw [hz]; simp [h, h']
    clear hz
    go_enter Tryz.func230, Tryz.ntmps230
    go_wp2_with fail
    refine (HD.out _).mono ?_
    rintro e _ ⟨rfl, rfl⟩
    go_wp2_with fail
    go_ret
    refine ⟨ret_int ?_, rfl⟩
    have h1 := HV.out
    have h2 := HX.out
    rw [if_pos (by omega)] at h1
    rw [if_neg (by omega)] at h2
    omega
  all_goals
    have e : b = false := by rw [hz]; simp; omega
    subst e
    clear hz
    go_enter Tryz.func230, Tryz.ntmps230
    go_wp2_with fail
    refine (HD.out _).mono ?_
    rintro e _ ⟨rfl, rfl⟩
    go_wp2_with fail
    go_ret
    refine ⟨ret_int ?_, rfl⟩
    have h1 := HV.out
    have h2 := HX.out
    rw [if_neg (by omega)] at h1
    first
      | (rw [if_pos (by omega)] at h1; rw [if_neg (by omega)] at h2; omega)
      | (rw [if_neg (by omega), if_pos (by omega)] at h1; rw [if_neg (by omega)] at h2; omega)
      | (rw [if_neg (by omega), if_neg (by omega)] at h1; rw [if_pos (by omega)] at h2; omega)

theorem ext_at (s : ByteArray) (at_ k : Nat) (h : at_ + k < s.size) : (s.extract at_ s.size)[k]'(by simp [ByteArray.size_extract]; omega) = s[at_ + k] := by
  simp [ByteArray.getElem_extract]

set_option maxRecDepth 100000 in
set_option maxHeartbeats 1000000 in
theorem rnumber_any (s : ByteArray) (p : Nat) (base : Int) (most : Nat) (w : World) (hb : base = 8 ∨ base = 16) (hm : most ≤ 8) (hsz : s.size ≤ 1000000) (hp : p ≤ s.size) :
    Calls Tryz.prog 203 #[.string s, .int .i64 p, .int .i64 base, .int .i64 most] w fun e w' => e = .returned (.tuple #[.int .i64 (nmF base most 0 (s.data.toList.drop p)).1, .int .i64 ((nmF base most 0 (s.data.toList.drop p)).2 : Nat)]) ∧ w = w' := by
  obtain ⟨t, ht⟩ : ∃ t : ByteArray, t = s.extract p s.size := ⟨_, rfl⟩
  have htl : t.data.toList = s.data.toList.drop p := by rw [ht]; exact Lib.extract_to_end s p
  have hts : t.size = s.size - p := by rw [ht]; simp [ByteArray.size_extract]
  have hta : ∀ k (h : k < t.size) (h2 : p + k < s.size), t[k] = s[p + k] := by
    subst ht
    intro k h h2
    exact ext_at s p k (by omega)
  rw [← htl]
  have HTA := Lib.hid hta
  obtain ⟨R, hR⟩ : ∃ R, R = nmF base most 0 t.data.toList := ⟨_, rfl⟩
  rw [← hR]
  have hst : NmR t base most R 0 0 := ⟨by rw [List.drop_zero, Nat.sub_zero, ← hR]; exact ⟨rfl, rfl⟩, by omega, by decide⟩
  have hb0 : 0 ≤ base := by omega
  have hb1 : base ≤ 16 := by omega
  have HST := Lib.hid hst
  have HTS := Lib.hid hts
  have p0 : (0 : Int) ≤ (p : Int) := by omega
  clear hR ht htl hta hst hts
  rcases hb with rfl | rfl
  · go_enter Tryz.func203, Tryz.ntmps203
    go_wp2_with fail
    go_loop [10, 11] (fun a j => ∃ (n : Int) (k : Nat), a = .int .i64 n ∧ j = .int .i64 k ∧ k ≤ most ∧ NmR t 8 most R n k) (fun _ j => most - (intOf j).toNat)
    case atStart => exact ⟨0, 0, rfl, rfl, by omega, HST.out⟩
    case round =>
      obtain ⟨n, k, rfl, rfl, hk, hrel⟩ := hrel
      have HREL := Lib.hid hrel
      have hn0 := hrel.lo
      have hn1 := hrel.hi
      clear hrel
      by_cases hlt : k < most
      · have hlt' : (k : Int) < (most : Int) := by omega
        have hpw := pow16 k (by omega)
        have hn2 : n ≤ 268435455 := by omega
        clear hpw hn1
        by_cases hs : k < t.size
        · have hpk : p + k < s.size := by have := HTS.out; omega
          have hs' : (p : Int) + (k : Int) < (s.size : Int) := by omega
          have hk0 : (0 : Int) ≤ (k : Int) := by omega
          have hcb := s[p + k].toNat_lt
          have hta := HTA.out k hs hpk
          have hdg := fun W => hex_any (s[p + k].toNat : Nat) W (by omega) (by omega)
          have hrg := dgV_range (s[p + k].toNat : Nat)
          obtain ⟨d, hd⟩ : ∃ d, dgV (s[p + k].toNat : Nat) = d := ⟨_, rfl⟩
          have hxd : hxV (s[p + k].toNat : Nat) = if d = 16 then -1 else d := by unfold hxV; rw [hd]
          rw [hd] at hrg
          have HDD := Lib.hid (show dgV (t[k].toNat : Nat) = d by rw [hta]; exact hd)
          have hd0 := hrg.1
          have hd1 := hrg.2
          clear hd hrg hta
          by_cases hdb : d < 8
          · rw [if_neg (by omega)] at hxd
            rw [hxd] at hdg
            have HD := Lib.hid hdg
            have hdn : ¬ d < 0 := by omega
            have hdm : ¬ 8 ≤ d := by omega
            clear hdg hxd
            have HN := Lib.hid (show NmR t 8 most R (8 * n + d) (k + 1) by rw [Int.mul_comm]; exact nm_step HREL.out hlt hs HDD.out hdb hb1 hb0 hd0)
            go_wp2_with fail
            refine (HD.out _).mono ?_
            rintro e _ ⟨rfl, rfl⟩
            go_wp2_with fail
            go_round
            case rel => exact ⟨_, k + 1, rfl, by go_num, by omega, HN.out⟩
            case measure => simp [intOf]; omega
          · have he := Lib.hid (nm_end HREL.out (.inr (.inr ⟨hs, by rw [HDD.out]; omega⟩)))
            obtain ⟨z, hz, hzz⟩ : ∃ z, hxV (s[p + k].toNat : Nat) = z ∧ (z < 0 ∨ (¬ z < 0 ∧ 8 ≤ z)) := by
              refine ⟨_, rfl, ?_⟩
              rw [hxd]
              split <;> omega
            rw [hz] at hdg
            have HD := Lib.hid hdg
            clear hdg hxd hz
            rcases hzz with z1 | ⟨z1, z2⟩
            all_goals
              go_wp2_with fail
              refine (HD.out _).mono ?_
              rintro e _ ⟨rfl, rfl⟩
              go_wp2_with fail
              go_ret2
              rw [he.out]
              exact ⟨rfl, rfl⟩
        · have hs' : ¬ (p : Int) + (k : Int) < (s.size : Int) := by have := HTS.out; omega
          have he := Lib.hid (nm_end HREL.out (.inr (.inl hs)))
          go_wp2_with fail
          go_ret2
          rw [he.out]
          exact ⟨rfl, rfl⟩
      · have hlt' : ¬ (k : Int) < (most : Int) := by omega
        have he := Lib.hid (nm_end HREL.out (.inl hlt))
        go_wp2_with fail
        go_ret2
        rw [he.out]
        exact ⟨rfl, rfl⟩
  · go_enter Tryz.func203, Tryz.ntmps203
    go_wp2_with fail
    go_loop [10, 11] (fun a j => ∃ (n : Int) (k : Nat), a = .int .i64 n ∧ j = .int .i64 k ∧ k ≤ most ∧ NmR t 16 most R n k) (fun _ j => most - (intOf j).toNat)
    case atStart => exact ⟨0, 0, rfl, rfl, by omega, HST.out⟩
    case round =>
      obtain ⟨n, k, rfl, rfl, hk, hrel⟩ := hrel
      have HREL := Lib.hid hrel
      have hn0 := hrel.lo
      have hn1 := hrel.hi
      clear hrel
      by_cases hlt : k < most
      · have hlt' : (k : Int) < (most : Int) := by omega
        have hpw := pow16 k (by omega)
        have hn2 : n ≤ 268435455 := by omega
        clear hpw hn1
        by_cases hs : k < t.size
        · have hpk : p + k < s.size := by have := HTS.out; omega
          have hs' : (p : Int) + (k : Int) < (s.size : Int) := by omega
          have hk0 : (0 : Int) ≤ (k : Int) := by omega
          have hcb := s[p + k].toNat_lt
          have hta := HTA.out k hs hpk
          have hdg := fun W => hex_any (s[p + k].toNat : Nat) W (by omega) (by omega)
          have hrg := dgV_range (s[p + k].toNat : Nat)
          obtain ⟨d, hd⟩ : ∃ d, dgV (s[p + k].toNat : Nat) = d := ⟨_, rfl⟩
          have hxd : hxV (s[p + k].toNat : Nat) = if d = 16 then -1 else d := by unfold hxV; rw [hd]
          rw [hd] at hrg
          have HDD := Lib.hid (show dgV (t[k].toNat : Nat) = d by rw [hta]; exact hd)
          have hd0 := hrg.1
          have hd1 := hrg.2
          clear hd hrg hta
          by_cases hdb : d < 16
          · rw [if_neg (by omega)] at hxd
            rw [hxd] at hdg
            have HD := Lib.hid hdg
            have hdn : ¬ d < 0 := by omega
            have hdm : ¬ 16 ≤ d := by omega
            clear hdg hxd
            have HN := Lib.hid (show NmR t 16 most R (16 * n + d) (k + 1) by rw [Int.mul_comm]; exact nm_step HREL.out hlt hs HDD.out hdb hb1 hb0 hd0)
            go_wp2_with fail
            refine (HD.out _).mono ?_
            rintro e _ ⟨rfl, rfl⟩
            go_wp2_with fail
            go_round
            case rel => exact ⟨_, k + 1, rfl, by go_num, by omega, HN.out⟩
            case measure => simp [intOf]; omega
          · have he := Lib.hid (nm_end HREL.out (.inr (.inr ⟨hs, by rw [HDD.out]; omega⟩)))
            obtain ⟨z, hz, hzz⟩ : ∃ z, hxV (s[p + k].toNat : Nat) = z ∧ (z < 0 ∨ (¬ z < 0 ∧ 16 ≤ z)) := by
              refine ⟨_, rfl, ?_⟩
              rw [hxd]
              split <;> omega
            rw [hz] at hdg
            have HD := Lib.hid hdg
            clear hdg hxd hz
            rcases hzz with z1 | ⟨z1, z2⟩
            all_goals
              go_wp2_with fail
              refine (HD.out _).mono ?_
              rintro e _ ⟨rfl, rfl⟩
              go_wp2_with fail
              go_ret2
              rw [he.out]
              exact ⟨rfl, rfl⟩
        · have hs' : ¬ (p : Int) + (k : Int) < (s.size : Int) := by have := HTS.out; omega
          have he := Lib.hid (nm_end HREL.out (.inr (.inl hs)))
          go_wp2_with fail
          go_ret2
          rw [he.out]
          exact ⟨rfl, rfl⟩
      · have hlt' : ¬ (k : Int) < (most : Int) := by omega
        have he := Lib.hid (nm_end HREL.out (.inl hlt))
        go_wp2_with fail
        go_ret2
        rw [he.out]
        exact ⟨rfl, rfl⟩
end Go.Proofs.YtoineheocipmaaaGreatDoor
