/-
  Plain mathematics of UTF-8: what is encoded is read back. No program.
-/
import Derived.Test.YtjophmgpknpboaaDoorUtf
import Derived.Test.YtjophmgpknpboaaDoorRune
namespace Go.Proofs.YtjophmgpknpboaaDoor
open Go.Lib
set_option linter.unusedVariables false
set_option linter.unusedSimpArgs false

theorem rnB_range {r : Int} (h : rnB r = true) : (0 ≤ r ∧ r < 55296) ∨ (57343 < r ∧ r ≤ 1114111) := by unfold rnB at h; simpa using h
theorem u8_of (z : Nat) (h : z < 256) : ((z.toUInt8).toNat : Nat) = z := by
  show (UInt8.ofNat z).toNat = z
  rw [UInt8.toNat_ofNat']; omega
theorem two_back (n : Nat) (h : n ≤ 2047) : (192 + n / 64) % 32 * 64 + (128 + n % 64) % 64 = n := by omega
theorem three_back (n : Nat) (h : n ≤ 65535) : (224 + n / 4096) % 16 * 4096 + (128 + n / 64 % 64) % 64 * 64 + (128 + n % 64) % 64 = n := by omega
theorem four_back (n : Nat) (h : n ≤ 2097151) : (240 + n / 262144) % 8 * 262144 + (128 + n / 4096 % 64) % 64 * 4096 + (128 + n / 64 % 64) % 64 * 64 + (128 + n % 64) % 64 = n := by omega
theorem dec_enc (n : Nat) (h : rnB n = true) (t : List UInt8) : decodeL (encodeRune n ++ t) = (n, (encodeRune n).length) := by
  have hr := rnB_range h
  rw [decodeL_N]
  unfold encodeRune
  rcases (show n ≤ 127 ∨ (128 ≤ n ∧ n ≤ 2047) ∨ ((2048 ≤ n ∧ n < 55296) ∨ (57343 < n ∧ n ≤ 65535)) ∨ (65536 ≤ n ∧ n ≤ 1114111) by omega) with q | q | q | q
  · rw [encodeRuneZ_one (by omega) (by omega)]
    simp only [List.map_cons, List.map_nil, List.cons_append, List.nil_append, List.getD_cons_zero, Int.toNat_natCast, List.length_cons, List.length_nil]
    rw [u8_of n (by omega), decodeN, if_pos (by omega)]
  · rw [encodeRuneZ_two (by omega) (by omega)]
    have e0 : ((192 + (n : Int) / 64)).toNat = 192 + n / 64 := by omega
    have e1 : ((128 + (n : Int) % 64)).toNat = 128 + n % 64 := by omega
    simp only [List.map_cons, List.map_nil, List.cons_append, List.nil_append, List.getD_cons_zero, List.getD_cons_succ, List.length_cons, List.length_nil, e0, e1]
    rw [u8_of _ (by omega), u8_of _ (by omega), decodeN, if_neg (by omega), if_pos (by omega), if_pos (by omega)]
    rw [two_back n (by omega)]
  · rw [encodeRuneZ_three (by omega)]
    have e0 : ((224 + (n : Int) / 4096)).toNat = 224 + n / 4096 := by omega
    have e1 : ((128 + (n : Int) / 64 % 64)).toNat = 128 + n / 64 % 64 := by omega
    have e2 : ((128 + (n : Int) % 64)).toNat = 128 + n % 64 := by omega
    simp only [List.map_cons, List.map_nil, List.cons_append, List.nil_append, List.getD_cons_zero, List.getD_cons_succ, List.length_cons, List.length_nil, e0, e1, e2]
    rw [u8_of _ (by omega), u8_of _ (by omega), u8_of _ (by omega), decodeN, if_neg (by omega), if_neg (by omega), if_pos (by omega), if_pos (by omega)]
    rw [three_back n (by omega)]
  · rw [encodeRuneZ_four (by omega) (by omega)]
    have e0 : ((240 + (n : Int) / 262144)).toNat = 240 + n / 262144 := by omega
    have e1 : ((128 + (n : Int) / 4096 % 64)).toNat = 128 + n / 4096 % 64 := by omega
    have e2 : ((128 + (n : Int) / 64 % 64)).toNat = 128 + n / 64 % 64 := by omega
    have e3 : ((128 + (n : Int) % 64)).toNat = 128 + n % 64 := by omega
    simp only [List.map_cons, List.map_nil, List.cons_append, List.nil_append, List.getD_cons_zero, List.getD_cons_succ, List.length_cons, List.length_nil, e0, e1, e2, e3]
    rw [u8_of _ (by omega), u8_of _ (by omega), u8_of _ (by omega), u8_of _ (by omega), decodeN, if_neg (by omega), if_neg (by omega), if_neg (by omega), if_pos (by omega), if_pos (by omega)]
    rw [four_back n (by omega)]
theorem enc_ne (n : Int) : encodeRune n ≠ [] := by
  have := (encodeRuneZ_length n).1
  intro h
  have e : (encodeRune n).length = 0 := by rw [h]; rfl
  simp [encodeRune] at e
  rw [e] at this
  simp at this
theorem ok_enc (n : Nat) (h : rnB n = true) (t : List UInt8) : okL (encodeRune n ++ t) = true := by
  unfold okL
  rw [dec_enc n h t]
  by_cases q : n = 65533
  · subst q
    have : encodeRune ((65533 : Nat) : Int) = [239, 191, 189] := by decide +kernel
    rw [this]
    simp [hasPrefix]
  · simp [q]
theorem bk_enc (n : Nat) (h : rnB n = true) (t : List UInt8) (pos : Nat) : bkL pos (encodeRune n ++ t) = bkL (pos + (encodeRune n).length) t := by
  rw [bkL_step _ _ (by simp [enc_ne]), ok_enc n h t, if_pos rfl, dec_enc n h t]
  simp
theorem rn_enc (n : Nat) (h : rnB n = true) (t : List UInt8) : rnL (encodeRune n ++ t) = (n : Int) :: rnL t := by
  rw [rnL_step _ (by simp [enc_ne]), dec_enc n h t]
  simp
def encs (l : List Int) : List UInt8 := l.flatMap encodeRune
theorem bk_encs : ∀ (l : List Int) (pos : Nat), (∀ r ∈ l, rnB r = true) → bkL pos (encs l) = -1
  | [], pos, _ => rfl
  | r :: l, pos, h => by
    obtain ⟨n, rfl⟩ := Int.eq_ofNat_of_zero_le (show 0 ≤ r by have := rnB_range (h r (by simp)); omega)
    show bkL pos (encodeRune n ++ encs l) = -1
    rw [bk_enc n (h _ (by simp))]
    exact bk_encs l _ (fun x hx => h x (by simp [hx]))
theorem rn_encs : ∀ (l : List Int), (∀ r ∈ l, rnB r = true) → rnL (encs l) = l
  | [], _ => rfl
  | r :: l, h => by
    obtain ⟨n, rfl⟩ := Int.eq_ofNat_of_zero_le (show 0 ≤ r by have := rnB_range (h r (by simp)); omega)
    show rnL (encodeRune n ++ encs l) = _
    rw [rn_enc n (h _ (by simp)), rn_encs l (fun x hx => h x (by simp [hx]))]
end Go.Proofs.YtjophmgpknpboaaDoor
