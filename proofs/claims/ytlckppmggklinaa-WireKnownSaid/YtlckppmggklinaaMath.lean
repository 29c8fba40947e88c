/-
  Plain mathematics of the wire format: numbers, varints, records. No program.
-/
import Derived.Lib.Zigzag
import Derived.Lib.Varint
import Derived.Lib.BitFns
import Derived.Laws.Bits64b
import Derived.RowKit
namespace Go.Proofs.Ytlckppmggklinaa
open Go.RowKit
set_option linter.unusedVariables false

theorem zig_math (n : Int) (h0 : -9223372036854775808 ≤ n) (h1 : n ≤ 9223372036854775807) :
    bits .xor .u64 (IntKind.u64.wrap (IntKind.u64.wrap n * 2)) (IntKind.u64.wrap (n / 9223372036854775808)) = (Lib.zigzag n : Int) := by
  by_cases hn : 0 ≤ n
  · have e1 : n / 9223372036854775808 = 0 := by omega
    have e2 : IntKind.u64.wrap (IntKind.u64.wrap n * 2) = ((2 * n).toNat : Int) := by rw [IntKind.wrap_u64, IntKind.wrap_u64]; omega
    have e3 : IntKind.u64.wrap 0 = ((0 : Nat) : Int) := by decide
    rw [e1, e2, e3, bits_xor_u64_nat _ _ (by omega) (by omega), Nat.xor_zero]
    unfold Lib.zigzag
    rw [if_pos hn]
  · have e1 : n / 9223372036854775808 = -1 := by omega
    have e2 : IntKind.u64.wrap (IntKind.u64.wrap n * 2) = (((2 * n + 18446744073709551616).toNat : Nat) : Int) := by
      rw [IntKind.wrap_u64, IntKind.wrap_u64]; omega
    have e3 : IntKind.u64.wrap (-1) = ((2 ^ 64 - 1 : Nat) : Int) := by decide
    rw [e1, e2, e3, bits_xor_u64_nat _ _ (by omega) (by omega), Nat.xor_comm, Lib.xor_ones64 _ (by omega)]
    unfold Lib.zigzag
    rw [if_neg hn]
    omega

/-- Zag. -/
def zagF (n : Int) : Int := if n % 2 = 0 then n / 2 else -(n / 2) - 1

theorem xor_i64_comm (a b : Int) : bits .xor .i64 a b = bits .xor .i64 b a := by
  show IntKind.i64.wrap ((BitVec.ofInt 64 a ^^^ BitVec.ofInt 64 b).toNat : Int) = IntKind.i64.wrap ((BitVec.ofInt 64 b ^^^ BitVec.ofInt 64 a).toNat : Int)
  rw [BitVec.xor_comm]

theorem zag_math (n : Int) (h0 : 0 ≤ n) (h1 : n ≤ 18446744073709551615) :
    bits .xor .i64 (n / 2) (wrap64 (-wrap64 (bits .and .u64 n 1))) = zagF n := by
  rw [Lib.u64_and1 n h0 (by omega)]
  unfold zagF
  rcases (show n % 2 = 0 ∨ n % 2 = 1 by omega) with h | h
  · rw [h, if_pos rfl, show wrap64 (-wrap64 0) = 0 by decide]
    show IntKind.i64.wrap ((BitVec.ofInt 64 (n / 2) ^^^ BitVec.ofInt 64 0).toNat : Int) = _
    rw [show BitVec.ofInt 64 0 = 0#64 by decide, BitVec.xor_zero]
    obtain ⟨m, hm⟩ := Int.eq_ofNat_of_zero_le (show 0 ≤ n / 2 by omega)
    rw [hm, BitVec.ofInt_natCast, BitVec.toNat_ofNat, Nat.mod_eq_of_lt (by omega), IntKind.wrap_i64]
    omega
  · rw [h, if_neg (by decide), show wrap64 (-wrap64 1) = -1 by decide, xor_i64_comm]
    obtain ⟨m, hm⟩ := Int.eq_ofNat_of_zero_le (show 0 ≤ n / 2 by omega)
    rw [hm, Lib.i64_not m (by omega)]

theorem or_one (n : Nat) : n ||| 1 = n / 2 * 2 + 1 := by
  apply Nat.eq_of_testBit_eq
  intro i
  rw [Nat.testBit_or]
  cases i with
  | zero => simp
  | succ i => rw [Nat.testBit_succ, Nat.testBit_succ, Nat.testBit_succ, show (n / 2 * 2 + 1) / 2 = n / 2 by omega]; simp

theorem bitLen7 (x : Nat) (h0 : 128 ≤ x) (h : x < 2 ^ 64) : Lib.bitLen x = 7 + Lib.bitLen (x / 128) := by
  rw [Lib.bitLen_half x (by omega) h, Lib.bitLen_half (x / 2) (by omega) (by omega), Lib.bitLen_half (x / 2 / 2) (by omega) (by omega), Lib.bitLen_half (x / 2 / 2 / 2) (by omega) (by omega),
    Lib.bitLen_half (x / 2 / 2 / 2 / 2) (by omega) (by omega), Lib.bitLen_half (x / 2 / 2 / 2 / 2 / 2) (by omega) (by omega), Lib.bitLen_half (x / 2 / 2 / 2 / 2 / 2 / 2) (by omega) (by omega),
    show x / 2 / 2 / 2 / 2 / 2 / 2 / 2 = x / 128 by omega]
  omega

theorem small_size : ∀ n : Fin 128, (Lib.bitLen (n.val / 2 * 2 + 1) + 6) / 7 = 1 := by decide +kernel

theorem size_math : ∀ (k n : Nat), n < 128 ^ k → n < 2 ^ 64 → (Lib.bitLen (n / 2 * 2 + 1) + 6) / 7 = (Lib.uvarint n).length
  | 0, n, h, _ => by
    have : n = 0 := by simpa using h
    subst this
    rw [Lib.uvarint_small (by omega)]
    exact small_size ⟨0, by omega⟩
  | k + 1, n, h, h64 => by
    by_cases hn : n < 128
    · rw [Lib.uvarint_small hn]
      exact small_size ⟨n, hn⟩
    · rw [Lib.uvarint_big (by omega), List.length_cons, ← size_math k (n / 128) (by rw [Nat.pow_succ] at h; exact Nat.div_lt_of_lt_mul (by rw [Nat.mul_comm]; exact h)) (by omega),
        bitLen7 _ (by omega) (by omega)]
      by_cases h2 : n / 128 = 0
      · omega
      · have e : (n / 2 * 2 + 1) / 128 = n / 128 := by omega
        rw [e, Lib.bitLen_half (n / 128) h2 (by omega), Lib.bitLen_half (n / 128 / 2 * 2 + 1) (by omega) (by omega), show (n / 128 / 2 * 2 + 1) / 2 = n / 128 / 2 by omega]
        omega
theorem size_eq (n : Nat) (h : n < 2 ^ 64) : (Lib.bitLen (n ||| 1) + 6) / 7 = (Lib.uvarint n).length := by
  rw [or_one]; exact size_math 10 n (Nat.lt_of_lt_of_le h (by decide)) h
theorem bitLen_bound (x : Nat) (h : x < 2 ^ 64) : Lib.bitLen x ≤ 64 := by
  by_cases h0 : x = 0
  · subst h0; decide
  · have := Lib.bitLen_le x 64 (by omega) h
    exact this
end Go.Proofs.Ytlckppmggklinaa
