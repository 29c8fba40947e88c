/-
  Numbers: Zig, Zag, Size; bytes held against each other.
-/
import Derived.Test.YtlckppmggklinaaRows
import Derived.Test.YtlckppmggklinaaShelf
import Derived.Test.YtlckppmggklinaaWords
import Derived.Test.YtlckppmggklinaaMath
namespace Go.Proofs.Ytlckppmggklinaa
open Go.RowKit
set_option linter.unusedVariables false

theorem ret_int {k : IntKind} {a b : Int} (h : a = b) : Ending.returned (.int k a) = .returned (.int k b) := by rw [h]

set_option maxHeartbeats 400000 in
theorem zig_any (n : Int) (w : World) (h0 : -9223372036854775808 ≤ n) (h1 : n ≤ 9223372036854775807) :
    Calls Try.prog 18 #[.int .i64 n] w fun e w' => e = .returned (.int .u64 (Lib.zigzag n)) ∧ w = w' := by
  go_enter Try.func18, Try.ntmps18
  go_wp2
  go_ret
  exact ⟨ret_int (zig_math n h0 h1), rfl⟩

set_option maxHeartbeats 400000 in
theorem zag_any (n : Int) (w : World) (h0 : 0 ≤ n) (h1 : n ≤ 18446744073709551615) :
    Calls Try.prog 20 #[.int .u64 n] w fun e w' => e = .returned (.int .i64 (zagF n)) ∧ w = w' := by
  go_enter Try.func20, Try.ntmps20
  go_wp2
  go_ret
  exact ⟨ret_int (zag_math n h0 h1), rfl⟩

set_option maxHeartbeats 400000 in
theorem size_any (n : Int) (w : World) (h0 : 0 ≤ n) (h1 : n ≤ 18446744073709551615) :
    Calls Try.prog 16 #[.int .u64 n] w fun e w' => e = .returned (.int .i64 ((Lib.uvarint n.toNat).length : Int)) ∧ w = w' := by
  obtain ⟨m, rfl⟩ := Int.eq_ofNat_of_zero_le h0
  have hm : m < 2 ^ 64 := by omega
  have ho : m ||| 1 < 2 ^ 64 := Nat.or_lt_two_pow hm (by decide)
  have e1 : bits .or .u64 (m : Int) 1 = ((m ||| 1 : Nat) : Int) := bits_or_u64_nat m 1 (by omega) (by omega)
  have hs := Lib.hid (size_eq m hm)
  have hb := bitLen_bound _ ho
  go_enter Try.func16, Try.ntmps16
  go_wp2_with fail
  refine (Try.bits_Len64 _ _ (by omega) (by omega)).mono ?_
  rintro e w' ⟨rfl, rfl⟩
  rw [Int.toNat_natCast]
  go_wp2
  go_ret
  refine ⟨ret_int ?_, rfl⟩
  have := hs.out
  rw [Int.toNat_natCast, ← this]
  omega

set_option maxHeartbeats 400000 in
theorem eqb_any {w : World} {lo hi n c lo' hi' n' c' : Nat} {A A' : Option Addr} {l l' : List UInt8} (h : Bs w lo hi A n c l) (h' : Bs w lo' hi' A' n' c' l') :
    Calls Try.prog 14 #[.slice A n c, .slice A' n' c'] w fun e w' => e = .returned (.bool (l == l')) ∧ w = w' := by
  have e1 := h.convert (P := Try.prog) 22 5 9 Try.underlying22 Try.underlying5 Try.underlying9
  have e2 := h'.convert (P := Try.prog) 22 5 9 Try.underlying22 Try.underlying5 Try.underlying9
  clear h h'
  go_enter Try.func14, Try.ntmps14
  go_wp2
  go_ret
  exact ⟨rfl, rfl⟩

set_option maxHeartbeats 400000 in
theorem bequal_any {w : World} {lo hi n c lo' hi' n' c' : Nat} {A A' : Option Addr} {l l' : List UInt8} (h : Bs w lo hi A n c l) (h' : Bs w lo' hi' A' n' c' l') :
    Calls Try.prog 48 #[.slice A n c, .slice A' n' c'] w fun e w' => e = .returned (.bool (l == l')) ∧ w = w' := by
  have e1 := h.convert (P := Try.prog) 22 5 9 Try.underlying22 Try.underlying5 Try.underlying9
  have e2 := h'.convert (P := Try.prog) 22 5 9 Try.underlying22 Try.underlying5 Try.underlying9
  clear h h'
  go_enter Try.func48, Try.ntmps48
  go_wp2
  go_ret
  exact ⟨rfl, rfl⟩

end Go.Proofs.Ytlckppmggklinaa
