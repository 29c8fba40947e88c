/-
  digit, number: digits of a base.
-/
import Derived.Test.YtoineheocipmaaaGreatDoorKeys
namespace Go.Proofs.YtoineheocipmaaaGreatDoor
open Go.RowKit
set_option linter.unusedVariables false

/-- The value of a digit; 16: it is none. -/
def dgV (c : Int) : Int := if 48 ≤ c ∧ c ≤ 57 then c - 48 else if 97 ≤ c ∧ c ≤ 102 then c - 97 + 10 else if 65 ≤ c ∧ c ≤ 70 then c - 65 + 10 else 16
theorem dgV_range (c : Int) : 0 ≤ dgV c ∧ dgV c ≤ 16 := by
  unfold dgV
  repeat' split
  all_goals omega

set_option maxHeartbeats 1000000 in
theorem dig_any (c : Int) (w : World) (h0 : 0 ≤ c) (h1 : c < 256) : Calls Tryz.prog 253 #[.int .u8 c] w fun e w' => e = .returned (.int .i64 (dgV c)) ∧ w = w' := by
  have hd := fun W => isDigit_any c W
  have hz : dgZ c = (decide (48 ≤ c) && decide (c ≤ 57)) := rfl
  have hv : dgV c = if 48 ≤ c ∧ c ≤ 57 then c - 48 else if 97 ≤ c ∧ c ≤ 102 then c - 97 + 10 else if 65 ≤ c ∧ c ≤ 70 then c - 65 + 10 else 16 := rfl
  obtain ⟨V, hV⟩ : ∃ V, dgV c = V := ⟨_, rfl⟩
  rw [hV] at hv ⊢
  generalize dgZ c = b at *
  have HD := Lib.hid hd
  have HV := Lib.hid hv
  clear hd hV hv
  rcases (show (48 ≤ c ∧ c ≤ 57) ∨ (97 ≤ c ∧ c ≤ 102) ∨ (65 ≤ c ∧ c ≤ 70) ∨ c < 48 ∨ (58 ≤ c ∧ c < 65) ∨ (70 < c ∧ c < 97) ∨ 102 < c by omega) with ⟨h, h'⟩ | ⟨h, h'⟩ | ⟨h, h'⟩ | h | ⟨h, h'⟩ | ⟨h, h'⟩ | h
  · obtain rfl : b = true := by rw [hz]; simp [h, h']
    clear hz
    go_enter Tryz.func253, Tryz.ntmps253
    go_wp2_with fail
    refine (HD.out _).mono ?_
    rintro e _ ⟨rfl, rfl⟩
    go_wp2
    go_ret
    exact ⟨ret_int (by rw [HV.out, if_pos (by omega)]), rfl⟩
  all_goals
    have e : b = false := by rw [hz]; simp; omega
    subst e
    clear hz
    go_enter Tryz.func253, Tryz.ntmps253
    go_wp2_with fail
    refine (HD.out _).mono ?_
    rintro e _ ⟨rfl, rfl⟩
    go_wp2
    go_ret
    refine ⟨ret_int ?_, rfl⟩
    rw [HV.out, if_neg (by omega)]
    first | (rw [if_pos (by omega)]) | (rw [if_neg (by omega), if_pos (by omega)]) | (rw [if_neg (by omega), if_neg (by omega)])

/-- The number of the digits of a base, at most so many, and how many there are. -/
def nmF (base : Int) : Nat → Int → List UInt8 → Int × Nat
  | 0, n, _ => (n, 0)
  | k + 1, n, [] => (n, 0)
  | k + 1, n, c :: r => if dgV c.toNat < base then ((nmF base k (n * base + dgV c.toNat) r).1, (nmF base k (n * base + dgV c.toNat) r).2 + 1) else (n, 0)

structure NmR (s : ByteArray) (base : Int) (most : Nat) (R : Int × Nat) (n : Int) (k : Nat) : Prop where
  fin : (nmF base (most - k) n (s.data.toList.drop k)).1 = R.1 ∧ (nmF base (most - k) n (s.data.toList.drop k)).2 + k = R.2
  lo : 0 ≤ n
  hi : n < 16 ^ k
theorem nm_step {s : ByteArray} {base : Int} {most : Nat} {R : Int × Nat} {n d : Int} {k : Nat} (h : NmR s base most R n k) (hk : k < most) (hs : k < s.size) (hd : dgV (s[k].toNat : Nat) = d) (hlt : d < base) (hb : base ≤ 16) (hb0 : 0 ≤ base) (hd0 : 0 ≤ d) : NmR s base most R (n * base + d) (k + 1) := by
  have hf := h.fin
  have e : most - k = (most - (k + 1)) + 1 := by omega
  rw [drop_at s k hs, e, nmF, hd, if_pos hlt] at hf
  refine ⟨⟨hf.1, by have := hf.2; simp only at this; omega⟩, ?_, ?_⟩
  · have := Int.mul_nonneg h.lo hb0; omega
  · have h1 : n * base ≤ n * 16 := Int.mul_le_mul_of_nonneg_left hb h.lo
    have h2 := h.hi
    rw [Int.pow_succ]
    omega
theorem nm_end {s : ByteArray} {base : Int} {most : Nat} {R : Int × Nat} {n : Int} {k : Nat} (h : NmR s base most R n k) (hd : ¬ k < most ∨ ¬ k < s.size ∨ ∃ hs : k < s.size, ¬ dgV (s[k].toNat : Nat) < base) : R = (n, k) := by
  have hf := h.fin
  have : nmF base (most - k) n (s.data.toList.drop k) = (n, 0) := by
    rcases hd with hd | hd | ⟨hs, hd⟩
    · rw [show most - k = 0 by omega, nmF]
    · rw [List.drop_eq_nil_of_le (by simp; omega)]
      cases most - k <;> rfl
    · rw [drop_at s k hs]
      cases most - k with
      | zero => rfl
      | succ q => rw [nmF, if_neg hd]
  rw [this] at hf
  obtain ⟨h1, h2⟩ := hf
  simp only at h1 h2
  rw [h1]
  ext
  · rfl
  · simp only; omega
theorem pow16 (k : Nat) (h : k ≤ 7) : (16 : Int) ^ k ≤ 268435456 := by
  have : ∀ q : Fin 8, (16 : Int) ^ q.val ≤ 268435456 := by decide
  exact this ⟨k, by omega⟩

set_option maxRecDepth 100000 in
set_option maxHeartbeats 1000000 in
theorem number_any (s : ByteArray) (base : Int) (most : Nat) (w : World) (hb : base = 8 ∨ base = 16) (hm : most ≤ 8) (hsz : s.size ≤ 1000000) :
    Calls Tryz.prog 227 #[.string s, .int .i64 base, .int .i64 most] w fun e w' => e = .returned (.tuple #[.int .i64 (nmF base most 0 s.data.toList).1, .int .i64 ((nmF base most 0 s.data.toList).2 : Nat)]) ∧ w = w' := by
  obtain ⟨R, hR⟩ : ∃ R, R = nmF base most 0 s.data.toList := ⟨_, rfl⟩
  rw [← hR]
  have hst : NmR s base most R 0 0 := ⟨by rw [List.drop_zero, Nat.sub_zero, ← hR]; exact ⟨rfl, rfl⟩, by omega, by decide⟩
  have hb0 : 0 ≤ base := by omega
  have hb1 : base ≤ 16 := by omega
  clear hR
  rcases hb with rfl | rfl
  · go_enter Tryz.func227, Tryz.ntmps227
    go_wp2
    go_loop [6, 7] (fun a j => ∃ (n : Int) (k : Nat), a = .int .i64 n ∧ j = .int .i64 k ∧ k ≤ most ∧ NmR s _ most R n k) (fun _ j => most - (intOf j).toNat)
    case atStart => exact ⟨0, 0, rfl, rfl, by omega, hst⟩
    case round =>
      obtain ⟨n, k, rfl, rfl, hk, hrel⟩ := hrel
      clear hst
      have HREL := Lib.hid hrel
      have hn0 := hrel.lo
      have hn1 := hrel.hi
      clear hrel
      by_cases hlt : k < most
      · have hlt' : (k : Int) < (most : Int) := by omega
        have hp := pow16 k (by omega)
        have hn2 : n ≤ 268435455 := by omega
        clear hp hn1
        by_cases hs : k < s.size
        · have hs' : (k : Int) < (s.size : Int) := by omega
          have hk0 : (0 : Int) ≤ (k : Int) := by omega
          have hcb := s[k].toNat_lt
          have hdg := fun W => dig_any (s[k].toNat : Nat) W (by omega) (by omega)
          have hrg := dgV_range (s[k].toNat : Nat)
          obtain ⟨d, hd⟩ : ∃ d, dgV (s[k].toNat : Nat) = d := ⟨_, rfl⟩
          rw [hd] at hrg
          simp only [hd] at hdg
          have HD := Lib.hid hdg
          have HDD := Lib.hid hd
          have hd0 := hrg.1
          have hd1 := hrg.2
          clear hdg hd hrg
          by_cases hdb : d < 8
          · go_wp2_with fail
            refine (HD.out _).mono ?_
            rintro e _ ⟨rfl, rfl⟩
            go_wp2_with fail
            refine (HD.out _).mono ?_
            rintro e _ ⟨rfl, rfl⟩
            go_wp2_with fail
            go_round
            case rel => exact ⟨_, k + 1, rfl, by go_num, by omega, nm_step HREL.out hlt hs HDD.out hdb hb1 hb0 hd0⟩
            case measure => simp [intOf]; omega
          · go_wp2_with fail
            refine (HD.out _).mono ?_
            rintro e _ ⟨rfl, rfl⟩
            go_wp2
            go_ret2
            have he := nm_end HREL.out (.inr (.inr ⟨hs, by rw [HDD.out]; omega⟩))
            rw [he]
            exact ⟨rfl, rfl⟩
        · have hs' : ¬ (k : Int) < (s.size : Int) := by omega
          go_wp2
          go_ret2
          have he := nm_end HREL.out (.inr (.inl hs))
          rw [he]
          exact ⟨rfl, rfl⟩
      · have hlt' : ¬ (k : Int) < (most : Int) := by omega
        go_wp2
        go_ret2
        have he := nm_end HREL.out (.inl hlt)
        rw [he]
        exact ⟨rfl, rfl⟩
  · go_enter Tryz.func227, Tryz.ntmps227
    go_wp2
    go_loop [6, 7] (fun a j => ∃ (n : Int) (k : Nat), a = .int .i64 n ∧ j = .int .i64 k ∧ k ≤ most ∧ NmR s _ most R n k) (fun _ j => most - (intOf j).toNat)
    case atStart => exact ⟨0, 0, rfl, rfl, by omega, hst⟩
    case round =>
      obtain ⟨n, k, rfl, rfl, hk, hrel⟩ := hrel
      clear hst
      have HREL := Lib.hid hrel
      have hn0 := hrel.lo
      have hn1 := hrel.hi
      clear hrel
      by_cases hlt : k < most
      · have hlt' : (k : Int) < (most : Int) := by omega
        have hp := pow16 k (by omega)
        have hn2 : n ≤ 268435455 := by omega
        clear hp hn1
        by_cases hs : k < s.size
        · have hs' : (k : Int) < (s.size : Int) := by omega
          have hk0 : (0 : Int) ≤ (k : Int) := by omega
          have hcb := s[k].toNat_lt
          have hdg := fun W => dig_any (s[k].toNat : Nat) W (by omega) (by omega)
          have hrg := dgV_range (s[k].toNat : Nat)
          obtain ⟨d, hd⟩ : ∃ d, dgV (s[k].toNat : Nat) = d := ⟨_, rfl⟩
          rw [hd] at hrg
          simp only [hd] at hdg
          have HD := Lib.hid hdg
          have HDD := Lib.hid hd
          have hd0 := hrg.1
          have hd1 := hrg.2
          clear hdg hd hrg
          by_cases hdb : d < 16
          · go_wp2_with fail
            refine (HD.out _).mono ?_
            rintro e _ ⟨rfl, rfl⟩
            go_wp2_with fail
            refine (HD.out _).mono ?_
            rintro e _ ⟨rfl, rfl⟩
            go_wp2_with fail
            go_round
            case rel => exact ⟨_, k + 1, rfl, by go_num, by omega, nm_step HREL.out hlt hs HDD.out hdb hb1 hb0 hd0⟩
            case measure => simp [intOf]; omega
          · go_wp2_with fail
            refine (HD.out _).mono ?_
            rintro e _ ⟨rfl, rfl⟩
            go_wp2
            go_ret2
            have he := nm_end HREL.out (.inr (.inr ⟨hs, by rw [HDD.out]; omega⟩))
            rw [he]
            exact ⟨rfl, rfl⟩
        · have hs' : ¬ (k : Int) < (s.size : Int) := by omega
          go_wp2
          go_ret2
          have he := nm_end HREL.out (.inr (.inl hs))
          rw [he]
          exact ⟨rfl, rfl⟩
      · have hlt' : ¬ (k : Int) < (most : Int) := by omega
        go_wp2
        go_ret2
        have he := nm_end HREL.out (.inl hlt)
        rw [he]
        exact ⟨rfl, rfl⟩
end Go.Proofs.YtoineheocipmaaaGreatDoor
