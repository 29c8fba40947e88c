/-
  WireZigs, walked.
-/
import Derived.Test.YtlckppmggklinaaWorks2
namespace Go.Proofs.Ytlckppmggklinaa
open Go.RowKit
set_option linter.unusedVariables false

theorem zig_val (n : Int) : (Lib.zigzag n : Int) = if 0 ≤ n then 2 * n else -2 * n - 1 := by
  unfold Lib.zigzag; split <;> omega
theorem zag_zig (n : Int) : zagF (Lib.zigzag n) = n := by
  rw [zig_val]; unfold zagF
  by_cases h : 0 ≤ n
  · rw [if_pos h, if_pos (by omega)]; omega
  · rw [if_neg h, if_neg (by omega)]; omega
theorem zig_zag (n : Int) (h : 0 ≤ n) : (Lib.zigzag (zagF n) : Int) = n := by
  rw [zig_val]; unfold zagF
  by_cases h2 : n % 2 = 0
  · rw [if_pos h2, if_pos (by omega)]; omega
  · rw [if_neg h2, if_neg (by omega)]; omega

set_option maxRecDepth 100000 in
set_option maxHeartbeats 4000000 in
theorem zigs_11lt (a b n P Q Z : Int) (w : World) (a0 : -9223372036854775808 ≤ a) (a1 : a ≤ 9223372036854775807) (b0 : -9223372036854775808 ≤ b) (b1 : b ≤ 9223372036854775807)
    (p0 : 0 ≤ P) (p1 : P ≤ 18446744073709551615) (q0 : 0 ≤ Q) (q1 : Q ≤ 18446744073709551615)
    (HA : Hid (∀ W : World, Calls Try.prog 18 #[.int .i64 a] W fun e w' => e = .returned (.int .u64 P) ∧ W = w')) (HB : Hid (∀ W : World, Calls Try.prog 18 #[.int .i64 b] W fun e w' => e = .returned (.int .u64 Q) ∧ W = w'))
    (HP : Hid (∀ W : World, Calls Try.prog 20 #[.int .u64 P] W fun e w' => e = .returned (.int .i64 a) ∧ W = w')) (HN : Hid (∀ W : World, Calls Try.prog 20 #[.int .u64 n] W fun e w' => e = .returned (.int .i64 Z) ∧ W = w'))
    (HZ : Hid (∀ W : World, Calls Try.prog 18 #[.int .i64 Z] W fun e w' => e = .returned (.int .u64 n) ∧ W = w'))
    (hpa : 0 ≤ a) (e1 : P ≤ 2 * a) (e2 : 2 * a ≤ P) (hpb : 0 ≤ b) (e3 : Q ≤ 2 * b) (e4 : 2 * b ≤ Q) (hlt : P / 2 < Q / 2) :
    Calls Try.prog 9 #[.int .i64 a, .int .i64 b, .int .u64 n] w fun e w' => e = .returned (.bool true) ∧ Below w.heap.size w w' := by
  have hm : (P % 2 == 1) = false := by simp; omega
  have ha : decide (a < 0) = false := by simp; omega
  have hx : (P / 2 != Q / 2) = true := by simp; omega
  go_enter Try.func9, Try.ntmps9
  go_wp2_with fail
  refine (HA.out _).mono ?_
  rintro e _ ⟨rfl, rfl⟩
  go_wp2_with fail
  refine (HP.out _).mono ?_
  rintro e _ ⟨rfl, rfl⟩
  go_wp2_with fail
  refine (HN.out _).mono ?_
  rintro e _ ⟨rfl, rfl⟩
  go_wp2_with fail
  refine (HZ.out _).mono ?_
  rintro e _ ⟨rfl, rfl⟩
  go_wp2_with (first | (go_at_call_of 18 (Value.int .i64 a); refine (HA.out _).mono ?_; rintro e _ ⟨rfl, rfl⟩) | (go_at_call_of 18 (Value.int .i64 b); refine (HB.out _).mono ?_; rintro e _ ⟨rfl, rfl⟩))
  refine (works_any _).mono ?_
  rintro e w1 ⟨rfl, hb⟩
  go_wp2
  go_ret
  exact ⟨by first | rfl | exact ret_bool (by simp; omega), hb⟩

set_option maxRecDepth 100000 in
set_option maxHeartbeats 4000000 in
theorem zigs_11eq (a b n P Q Z : Int) (w : World) (a0 : -9223372036854775808 ≤ a) (a1 : a ≤ 9223372036854775807) (b0 : -9223372036854775808 ≤ b) (b1 : b ≤ 9223372036854775807)
    (p0 : 0 ≤ P) (p1 : P ≤ 18446744073709551615) (q0 : 0 ≤ Q) (q1 : Q ≤ 18446744073709551615)
    (HA : Hid (∀ W : World, Calls Try.prog 18 #[.int .i64 a] W fun e w' => e = .returned (.int .u64 P) ∧ W = w')) (HB : Hid (∀ W : World, Calls Try.prog 18 #[.int .i64 b] W fun e w' => e = .returned (.int .u64 Q) ∧ W = w'))
    (HP : Hid (∀ W : World, Calls Try.prog 20 #[.int .u64 P] W fun e w' => e = .returned (.int .i64 a) ∧ W = w')) (HN : Hid (∀ W : World, Calls Try.prog 20 #[.int .u64 n] W fun e w' => e = .returned (.int .i64 Z) ∧ W = w'))
    (HZ : Hid (∀ W : World, Calls Try.prog 18 #[.int .i64 Z] W fun e w' => e = .returned (.int .u64 n) ∧ W = w'))
    (hpa : 0 ≤ a) (e1 : P ≤ 2 * a) (e2 : 2 * a ≤ P) (hpb : 0 ≤ b) (e3 : Q ≤ 2 * b) (e4 : 2 * b ≤ Q) (hle : P / 2 ≤ Q / 2) (hge : Q / 2 ≤ P / 2) :
    Calls Try.prog 9 #[.int .i64 a, .int .i64 b, .int .u64 n] w fun e w' => e = .returned (.bool true) ∧ Below w.heap.size w w' := by
  have hm : (P % 2 == 1) = false := by simp; omega
  have ha : decide (a < 0) = false := by simp; omega
  have hx : (P / 2 != Q / 2) = false := by simp; omega
  go_enter Try.func9, Try.ntmps9
  go_wp2_with fail
  refine (HA.out _).mono ?_
  rintro e _ ⟨rfl, rfl⟩
  go_wp2_with fail
  refine (HP.out _).mono ?_
  rintro e _ ⟨rfl, rfl⟩
  go_wp2_with fail
  refine (HN.out _).mono ?_
  rintro e _ ⟨rfl, rfl⟩
  go_wp2_with fail
  refine (HZ.out _).mono ?_
  rintro e _ ⟨rfl, rfl⟩
  go_wp2_with (first | (go_at_call_of 18 (Value.int .i64 a); refine (HA.out _).mono ?_; rintro e _ ⟨rfl, rfl⟩) | (go_at_call_of 18 (Value.int .i64 b); refine (HB.out _).mono ?_; rintro e _ ⟨rfl, rfl⟩))
  refine (works_any _).mono ?_
  rintro e w1 ⟨rfl, hb⟩
  go_wp2
  go_ret
  exact ⟨by first | rfl | exact ret_bool (by simp; omega), hb⟩

set_option maxRecDepth 100000 in
set_option maxHeartbeats 4000000 in
theorem zigs_11gt (a b n P Q Z : Int) (w : World) (a0 : -9223372036854775808 ≤ a) (a1 : a ≤ 9223372036854775807) (b0 : -9223372036854775808 ≤ b) (b1 : b ≤ 9223372036854775807)
    (p0 : 0 ≤ P) (p1 : P ≤ 18446744073709551615) (q0 : 0 ≤ Q) (q1 : Q ≤ 18446744073709551615)
    (HA : Hid (∀ W : World, Calls Try.prog 18 #[.int .i64 a] W fun e w' => e = .returned (.int .u64 P) ∧ W = w')) (HB : Hid (∀ W : World, Calls Try.prog 18 #[.int .i64 b] W fun e w' => e = .returned (.int .u64 Q) ∧ W = w'))
    (HP : Hid (∀ W : World, Calls Try.prog 20 #[.int .u64 P] W fun e w' => e = .returned (.int .i64 a) ∧ W = w')) (HN : Hid (∀ W : World, Calls Try.prog 20 #[.int .u64 n] W fun e w' => e = .returned (.int .i64 Z) ∧ W = w'))
    (HZ : Hid (∀ W : World, Calls Try.prog 18 #[.int .i64 Z] W fun e w' => e = .returned (.int .u64 n) ∧ W = w'))
    (hpa : 0 ≤ a) (e1 : P ≤ 2 * a) (e2 : 2 * a ≤ P) (hpb : 0 ≤ b) (e3 : Q ≤ 2 * b) (e4 : 2 * b ≤ Q) (hlt : Q / 2 < P / 2) :
    Calls Try.prog 9 #[.int .i64 a, .int .i64 b, .int .u64 n] w fun e w' => e = .returned (.bool true) ∧ Below w.heap.size w w' := by
  have hm : (P % 2 == 1) = false := by simp; omega
  have ha : decide (a < 0) = false := by simp; omega
  have hx : (P / 2 != Q / 2) = true := by simp; omega
  go_enter Try.func9, Try.ntmps9
  go_wp2_with fail
  refine (HA.out _).mono ?_
  rintro e _ ⟨rfl, rfl⟩
  go_wp2_with fail
  refine (HP.out _).mono ?_
  rintro e _ ⟨rfl, rfl⟩
  go_wp2_with fail
  refine (HN.out _).mono ?_
  rintro e _ ⟨rfl, rfl⟩
  go_wp2_with fail
  refine (HZ.out _).mono ?_
  rintro e _ ⟨rfl, rfl⟩
  go_wp2_with (first | (go_at_call_of 18 (Value.int .i64 a); refine (HA.out _).mono ?_; rintro e _ ⟨rfl, rfl⟩) | (go_at_call_of 18 (Value.int .i64 b); refine (HB.out _).mono ?_; rintro e _ ⟨rfl, rfl⟩))
  refine (works_any _).mono ?_
  rintro e w1 ⟨rfl, hb⟩
  go_wp2
  go_ret
  exact ⟨by first | rfl | exact ret_bool (by simp; omega), hb⟩

set_option maxRecDepth 100000 in
set_option maxHeartbeats 4000000 in
theorem zigs_10lt (a b n P Q Z : Int) (w : World) (a0 : -9223372036854775808 ≤ a) (a1 : a ≤ 9223372036854775807) (b0 : -9223372036854775808 ≤ b) (b1 : b ≤ 9223372036854775807)
    (p0 : 0 ≤ P) (p1 : P ≤ 18446744073709551615) (q0 : 0 ≤ Q) (q1 : Q ≤ 18446744073709551615)
    (HA : Hid (∀ W : World, Calls Try.prog 18 #[.int .i64 a] W fun e w' => e = .returned (.int .u64 P) ∧ W = w')) (HB : Hid (∀ W : World, Calls Try.prog 18 #[.int .i64 b] W fun e w' => e = .returned (.int .u64 Q) ∧ W = w'))
    (HP : Hid (∀ W : World, Calls Try.prog 20 #[.int .u64 P] W fun e w' => e = .returned (.int .i64 a) ∧ W = w')) (HN : Hid (∀ W : World, Calls Try.prog 20 #[.int .u64 n] W fun e w' => e = .returned (.int .i64 Z) ∧ W = w'))
    (HZ : Hid (∀ W : World, Calls Try.prog 18 #[.int .i64 Z] W fun e w' => e = .returned (.int .u64 n) ∧ W = w'))
    (hpa : 0 ≤ a) (e1 : P ≤ 2 * a) (e2 : 2 * a ≤ P) (hpb : b < 0) (e3 : Q ≤ -2 * b - 1) (e4 : -2 * b - 1 ≤ Q) (hlt : P / 2 < -(b + 1)) :
    Calls Try.prog 9 #[.int .i64 a, .int .i64 b, .int .u64 n] w fun e w' => e = .returned (.bool true) ∧ Below w.heap.size w w' := by
  have hm : (P % 2 == 1) = false := by simp; omega
  have ha : decide (a < 0) = false := by simp; omega
  have hx : (P / 2 != -(b + 1)) = true := by simp; omega
  go_enter Try.func9, Try.ntmps9
  go_wp2_with fail
  refine (HA.out _).mono ?_
  rintro e _ ⟨rfl, rfl⟩
  go_wp2_with fail
  refine (HP.out _).mono ?_
  rintro e _ ⟨rfl, rfl⟩
  go_wp2_with fail
  refine (HN.out _).mono ?_
  rintro e _ ⟨rfl, rfl⟩
  go_wp2_with fail
  refine (HZ.out _).mono ?_
  rintro e _ ⟨rfl, rfl⟩
  go_wp2_with (first | (go_at_call_of 18 (Value.int .i64 a); refine (HA.out _).mono ?_; rintro e _ ⟨rfl, rfl⟩) | (go_at_call_of 18 (Value.int .i64 b); refine (HB.out _).mono ?_; rintro e _ ⟨rfl, rfl⟩))
  refine (works_any _).mono ?_
  rintro e w1 ⟨rfl, hb⟩
  go_wp2
  go_ret
  exact ⟨by first | rfl | exact ret_bool (by simp; omega), hb⟩

set_option maxRecDepth 100000 in
set_option maxHeartbeats 4000000 in
theorem zigs_10eq (a b n P Q Z : Int) (w : World) (a0 : -9223372036854775808 ≤ a) (a1 : a ≤ 9223372036854775807) (b0 : -9223372036854775808 ≤ b) (b1 : b ≤ 9223372036854775807)
    (p0 : 0 ≤ P) (p1 : P ≤ 18446744073709551615) (q0 : 0 ≤ Q) (q1 : Q ≤ 18446744073709551615)
    (HA : Hid (∀ W : World, Calls Try.prog 18 #[.int .i64 a] W fun e w' => e = .returned (.int .u64 P) ∧ W = w')) (HB : Hid (∀ W : World, Calls Try.prog 18 #[.int .i64 b] W fun e w' => e = .returned (.int .u64 Q) ∧ W = w'))
    (HP : Hid (∀ W : World, Calls Try.prog 20 #[.int .u64 P] W fun e w' => e = .returned (.int .i64 a) ∧ W = w')) (HN : Hid (∀ W : World, Calls Try.prog 20 #[.int .u64 n] W fun e w' => e = .returned (.int .i64 Z) ∧ W = w'))
    (HZ : Hid (∀ W : World, Calls Try.prog 18 #[.int .i64 Z] W fun e w' => e = .returned (.int .u64 n) ∧ W = w'))
    (hpa : 0 ≤ a) (e1 : P ≤ 2 * a) (e2 : 2 * a ≤ P) (hpb : b < 0) (e3 : Q ≤ -2 * b - 1) (e4 : -2 * b - 1 ≤ Q) (hle : P / 2 ≤ -(b + 1)) (hge : -(b + 1) ≤ P / 2) :
    Calls Try.prog 9 #[.int .i64 a, .int .i64 b, .int .u64 n] w fun e w' => e = .returned (.bool true) ∧ Below w.heap.size w w' := by
  have hm : (P % 2 == 1) = false := by simp; omega
  have ha : decide (a < 0) = false := by simp; omega
  have hx : (P / 2 != -(b + 1)) = false := by simp; omega
  go_enter Try.func9, Try.ntmps9
  go_wp2_with fail
  refine (HA.out _).mono ?_
  rintro e _ ⟨rfl, rfl⟩
  go_wp2_with fail
  refine (HP.out _).mono ?_
  rintro e _ ⟨rfl, rfl⟩
  go_wp2_with fail
  refine (HN.out _).mono ?_
  rintro e _ ⟨rfl, rfl⟩
  go_wp2_with fail
  refine (HZ.out _).mono ?_
  rintro e _ ⟨rfl, rfl⟩
  go_wp2_with (first | (go_at_call_of 18 (Value.int .i64 a); refine (HA.out _).mono ?_; rintro e _ ⟨rfl, rfl⟩) | (go_at_call_of 18 (Value.int .i64 b); refine (HB.out _).mono ?_; rintro e _ ⟨rfl, rfl⟩))
  refine (works_any _).mono ?_
  rintro e w1 ⟨rfl, hb⟩
  go_wp2
  go_ret
  exact ⟨by first | rfl | exact ret_bool (by simp; omega), hb⟩

set_option maxRecDepth 100000 in
set_option maxHeartbeats 4000000 in
theorem zigs_10gt (a b n P Q Z : Int) (w : World) (a0 : -9223372036854775808 ≤ a) (a1 : a ≤ 9223372036854775807) (b0 : -9223372036854775808 ≤ b) (b1 : b ≤ 9223372036854775807)
    (p0 : 0 ≤ P) (p1 : P ≤ 18446744073709551615) (q0 : 0 ≤ Q) (q1 : Q ≤ 18446744073709551615)
    (HA : Hid (∀ W : World, Calls Try.prog 18 #[.int .i64 a] W fun e w' => e = .returned (.int .u64 P) ∧ W = w')) (HB : Hid (∀ W : World, Calls Try.prog 18 #[.int .i64 b] W fun e w' => e = .returned (.int .u64 Q) ∧ W = w'))
    (HP : Hid (∀ W : World, Calls Try.prog 20 #[.int .u64 P] W fun e w' => e = .returned (.int .i64 a) ∧ W = w')) (HN : Hid (∀ W : World, Calls Try.prog 20 #[.int .u64 n] W fun e w' => e = .returned (.int .i64 Z) ∧ W = w'))
    (HZ : Hid (∀ W : World, Calls Try.prog 18 #[.int .i64 Z] W fun e w' => e = .returned (.int .u64 n) ∧ W = w'))
    (hpa : 0 ≤ a) (e1 : P ≤ 2 * a) (e2 : 2 * a ≤ P) (hpb : b < 0) (e3 : Q ≤ -2 * b - 1) (e4 : -2 * b - 1 ≤ Q) (hlt : -(b + 1) < P / 2) :
    Calls Try.prog 9 #[.int .i64 a, .int .i64 b, .int .u64 n] w fun e w' => e = .returned (.bool true) ∧ Below w.heap.size w w' := by
  have hm : (P % 2 == 1) = false := by simp; omega
  have ha : decide (a < 0) = false := by simp; omega
  have hx : (P / 2 != -(b + 1)) = true := by simp; omega
  go_enter Try.func9, Try.ntmps9
  go_wp2_with fail
  refine (HA.out _).mono ?_
  rintro e _ ⟨rfl, rfl⟩
  go_wp2_with fail
  refine (HP.out _).mono ?_
  rintro e _ ⟨rfl, rfl⟩
  go_wp2_with fail
  refine (HN.out _).mono ?_
  rintro e _ ⟨rfl, rfl⟩
  go_wp2_with fail
  refine (HZ.out _).mono ?_
  rintro e _ ⟨rfl, rfl⟩
  go_wp2_with (first | (go_at_call_of 18 (Value.int .i64 a); refine (HA.out _).mono ?_; rintro e _ ⟨rfl, rfl⟩) | (go_at_call_of 18 (Value.int .i64 b); refine (HB.out _).mono ?_; rintro e _ ⟨rfl, rfl⟩))
  refine (works_any _).mono ?_
  rintro e w1 ⟨rfl, hb⟩
  go_wp2
  go_ret
  exact ⟨by first | rfl | exact ret_bool (by simp; omega), hb⟩

set_option maxRecDepth 100000 in
set_option maxHeartbeats 4000000 in
theorem zigs_01lt (a b n P Q Z : Int) (w : World) (a0 : -9223372036854775808 ≤ a) (a1 : a ≤ 9223372036854775807) (b0 : -9223372036854775808 ≤ b) (b1 : b ≤ 9223372036854775807)
    (p0 : 0 ≤ P) (p1 : P ≤ 18446744073709551615) (q0 : 0 ≤ Q) (q1 : Q ≤ 18446744073709551615)
    (HA : Hid (∀ W : World, Calls Try.prog 18 #[.int .i64 a] W fun e w' => e = .returned (.int .u64 P) ∧ W = w')) (HB : Hid (∀ W : World, Calls Try.prog 18 #[.int .i64 b] W fun e w' => e = .returned (.int .u64 Q) ∧ W = w'))
    (HP : Hid (∀ W : World, Calls Try.prog 20 #[.int .u64 P] W fun e w' => e = .returned (.int .i64 a) ∧ W = w')) (HN : Hid (∀ W : World, Calls Try.prog 20 #[.int .u64 n] W fun e w' => e = .returned (.int .i64 Z) ∧ W = w'))
    (HZ : Hid (∀ W : World, Calls Try.prog 18 #[.int .i64 Z] W fun e w' => e = .returned (.int .u64 n) ∧ W = w'))
    (hpa : a < 0) (e1 : P ≤ -2 * a - 1) (e2 : -2 * a - 1 ≤ P) (hpb : 0 ≤ b) (e3 : Q ≤ 2 * b) (e4 : 2 * b ≤ Q) (hlt : -(a + 1) < Q / 2) :
    Calls Try.prog 9 #[.int .i64 a, .int .i64 b, .int .u64 n] w fun e w' => e = .returned (.bool true) ∧ Below w.heap.size w w' := by
  have hm : (P % 2 == 1) = true := by simp; omega
  have ha : decide (a < 0) = true := by simp; omega
  have hx : (-(a + 1) != Q / 2) = true := by simp; omega
  go_enter Try.func9, Try.ntmps9
  go_wp2_with fail
  refine (HA.out _).mono ?_
  rintro e _ ⟨rfl, rfl⟩
  go_wp2_with fail
  refine (HP.out _).mono ?_
  rintro e _ ⟨rfl, rfl⟩
  go_wp2_with fail
  refine (HN.out _).mono ?_
  rintro e _ ⟨rfl, rfl⟩
  go_wp2_with fail
  refine (HZ.out _).mono ?_
  rintro e _ ⟨rfl, rfl⟩
  go_wp2_with (first | (go_at_call_of 18 (Value.int .i64 a); refine (HA.out _).mono ?_; rintro e _ ⟨rfl, rfl⟩) | (go_at_call_of 18 (Value.int .i64 b); refine (HB.out _).mono ?_; rintro e _ ⟨rfl, rfl⟩))
  refine (works_any _).mono ?_
  rintro e w1 ⟨rfl, hb⟩
  go_wp2
  go_ret
  exact ⟨by first | rfl | exact ret_bool (by simp; omega), hb⟩

set_option maxRecDepth 100000 in
set_option maxHeartbeats 4000000 in
theorem zigs_01eq (a b n P Q Z : Int) (w : World) (a0 : -9223372036854775808 ≤ a) (a1 : a ≤ 9223372036854775807) (b0 : -9223372036854775808 ≤ b) (b1 : b ≤ 9223372036854775807)
    (p0 : 0 ≤ P) (p1 : P ≤ 18446744073709551615) (q0 : 0 ≤ Q) (q1 : Q ≤ 18446744073709551615)
    (HA : Hid (∀ W : World, Calls Try.prog 18 #[.int .i64 a] W fun e w' => e = .returned (.int .u64 P) ∧ W = w')) (HB : Hid (∀ W : World, Calls Try.prog 18 #[.int .i64 b] W fun e w' => e = .returned (.int .u64 Q) ∧ W = w'))
    (HP : Hid (∀ W : World, Calls Try.prog 20 #[.int .u64 P] W fun e w' => e = .returned (.int .i64 a) ∧ W = w')) (HN : Hid (∀ W : World, Calls Try.prog 20 #[.int .u64 n] W fun e w' => e = .returned (.int .i64 Z) ∧ W = w'))
    (HZ : Hid (∀ W : World, Calls Try.prog 18 #[.int .i64 Z] W fun e w' => e = .returned (.int .u64 n) ∧ W = w'))
    (hpa : a < 0) (e1 : P ≤ -2 * a - 1) (e2 : -2 * a - 1 ≤ P) (hpb : 0 ≤ b) (e3 : Q ≤ 2 * b) (e4 : 2 * b ≤ Q) (hle : -(a + 1) ≤ Q / 2) (hge : Q / 2 ≤ -(a + 1)) :
    Calls Try.prog 9 #[.int .i64 a, .int .i64 b, .int .u64 n] w fun e w' => e = .returned (.bool true) ∧ Below w.heap.size w w' := by
  have hm : (P % 2 == 1) = true := by simp; omega
  have ha : decide (a < 0) = true := by simp; omega
  have hx : (-(a + 1) != Q / 2) = false := by simp; omega
  go_enter Try.func9, Try.ntmps9
  go_wp2_with fail
  refine (HA.out _).mono ?_
  rintro e _ ⟨rfl, rfl⟩
  go_wp2_with fail
  refine (HP.out _).mono ?_
  rintro e _ ⟨rfl, rfl⟩
  go_wp2_with fail
  refine (HN.out _).mono ?_
  rintro e _ ⟨rfl, rfl⟩
  go_wp2_with fail
  refine (HZ.out _).mono ?_
  rintro e _ ⟨rfl, rfl⟩
  go_wp2_with (first | (go_at_call_of 18 (Value.int .i64 a); refine (HA.out _).mono ?_; rintro e _ ⟨rfl, rfl⟩) | (go_at_call_of 18 (Value.int .i64 b); refine (HB.out _).mono ?_; rintro e _ ⟨rfl, rfl⟩))
  refine (works_any _).mono ?_
  rintro e w1 ⟨rfl, hb⟩
  go_wp2
  go_ret
  exact ⟨by first | rfl | exact ret_bool (by simp; omega), hb⟩

set_option maxRecDepth 100000 in
set_option maxHeartbeats 4000000 in
theorem zigs_01gt (a b n P Q Z : Int) (w : World) (a0 : -9223372036854775808 ≤ a) (a1 : a ≤ 9223372036854775807) (b0 : -9223372036854775808 ≤ b) (b1 : b ≤ 9223372036854775807)
    (p0 : 0 ≤ P) (p1 : P ≤ 18446744073709551615) (q0 : 0 ≤ Q) (q1 : Q ≤ 18446744073709551615)
    (HA : Hid (∀ W : World, Calls Try.prog 18 #[.int .i64 a] W fun e w' => e = .returned (.int .u64 P) ∧ W = w')) (HB : Hid (∀ W : World, Calls Try.prog 18 #[.int .i64 b] W fun e w' => e = .returned (.int .u64 Q) ∧ W = w'))
    (HP : Hid (∀ W : World, Calls Try.prog 20 #[.int .u64 P] W fun e w' => e = .returned (.int .i64 a) ∧ W = w')) (HN : Hid (∀ W : World, Calls Try.prog 20 #[.int .u64 n] W fun e w' => e = .returned (.int .i64 Z) ∧ W = w'))
    (HZ : Hid (∀ W : World, Calls Try.prog 18 #[.int .i64 Z] W fun e w' => e = .returned (.int .u64 n) ∧ W = w'))
    (hpa : a < 0) (e1 : P ≤ -2 * a - 1) (e2 : -2 * a - 1 ≤ P) (hpb : 0 ≤ b) (e3 : Q ≤ 2 * b) (e4 : 2 * b ≤ Q) (hlt : Q / 2 < -(a + 1)) :
    Calls Try.prog 9 #[.int .i64 a, .int .i64 b, .int .u64 n] w fun e w' => e = .returned (.bool true) ∧ Below w.heap.size w w' := by
  have hm : (P % 2 == 1) = true := by simp; omega
  have ha : decide (a < 0) = true := by simp; omega
  have hx : (-(a + 1) != Q / 2) = true := by simp; omega
  go_enter Try.func9, Try.ntmps9
  go_wp2_with fail
  refine (HA.out _).mono ?_
  rintro e _ ⟨rfl, rfl⟩
  go_wp2_with fail
  refine (HP.out _).mono ?_
  rintro e _ ⟨rfl, rfl⟩
  go_wp2_with fail
  refine (HN.out _).mono ?_
  rintro e _ ⟨rfl, rfl⟩
  go_wp2_with fail
  refine (HZ.out _).mono ?_
  rintro e _ ⟨rfl, rfl⟩
  go_wp2_with (first | (go_at_call_of 18 (Value.int .i64 a); refine (HA.out _).mono ?_; rintro e _ ⟨rfl, rfl⟩) | (go_at_call_of 18 (Value.int .i64 b); refine (HB.out _).mono ?_; rintro e _ ⟨rfl, rfl⟩))
  refine (works_any _).mono ?_
  rintro e w1 ⟨rfl, hb⟩
  go_wp2
  go_ret
  exact ⟨by first | rfl | exact ret_bool (by simp; omega), hb⟩

set_option maxRecDepth 100000 in
set_option maxHeartbeats 4000000 in
theorem zigs_00lt (a b n P Q Z : Int) (w : World) (a0 : -9223372036854775808 ≤ a) (a1 : a ≤ 9223372036854775807) (b0 : -9223372036854775808 ≤ b) (b1 : b ≤ 9223372036854775807)
    (p0 : 0 ≤ P) (p1 : P ≤ 18446744073709551615) (q0 : 0 ≤ Q) (q1 : Q ≤ 18446744073709551615)
    (HA : Hid (∀ W : World, Calls Try.prog 18 #[.int .i64 a] W fun e w' => e = .returned (.int .u64 P) ∧ W = w')) (HB : Hid (∀ W : World, Calls Try.prog 18 #[.int .i64 b] W fun e w' => e = .returned (.int .u64 Q) ∧ W = w'))
    (HP : Hid (∀ W : World, Calls Try.prog 20 #[.int .u64 P] W fun e w' => e = .returned (.int .i64 a) ∧ W = w')) (HN : Hid (∀ W : World, Calls Try.prog 20 #[.int .u64 n] W fun e w' => e = .returned (.int .i64 Z) ∧ W = w'))
    (HZ : Hid (∀ W : World, Calls Try.prog 18 #[.int .i64 Z] W fun e w' => e = .returned (.int .u64 n) ∧ W = w'))
    (hpa : a < 0) (e1 : P ≤ -2 * a - 1) (e2 : -2 * a - 1 ≤ P) (hpb : b < 0) (e3 : Q ≤ -2 * b - 1) (e4 : -2 * b - 1 ≤ Q) (hlt : -(a + 1) < -(b + 1)) :
    Calls Try.prog 9 #[.int .i64 a, .int .i64 b, .int .u64 n] w fun e w' => e = .returned (.bool true) ∧ Below w.heap.size w w' := by
  have hm : (P % 2 == 1) = true := by simp; omega
  have ha : decide (a < 0) = true := by simp; omega
  have hx : (-(a + 1) != -(b + 1)) = true := by simp; omega
  go_enter Try.func9, Try.ntmps9
  go_wp2_with fail
  refine (HA.out _).mono ?_
  rintro e _ ⟨rfl, rfl⟩
  go_wp2_with fail
  refine (HP.out _).mono ?_
  rintro e _ ⟨rfl, rfl⟩
  go_wp2_with fail
  refine (HN.out _).mono ?_
  rintro e _ ⟨rfl, rfl⟩
  go_wp2_with fail
  refine (HZ.out _).mono ?_
  rintro e _ ⟨rfl, rfl⟩
  go_wp2_with (first | (go_at_call_of 18 (Value.int .i64 a); refine (HA.out _).mono ?_; rintro e _ ⟨rfl, rfl⟩) | (go_at_call_of 18 (Value.int .i64 b); refine (HB.out _).mono ?_; rintro e _ ⟨rfl, rfl⟩))
  refine (works_any _).mono ?_
  rintro e w1 ⟨rfl, hb⟩
  go_wp2
  go_ret
  exact ⟨by first | rfl | exact ret_bool (by simp; omega), hb⟩

set_option maxRecDepth 100000 in
set_option maxHeartbeats 4000000 in
theorem zigs_00eq (a b n P Q Z : Int) (w : World) (a0 : -9223372036854775808 ≤ a) (a1 : a ≤ 9223372036854775807) (b0 : -9223372036854775808 ≤ b) (b1 : b ≤ 9223372036854775807)
    (p0 : 0 ≤ P) (p1 : P ≤ 18446744073709551615) (q0 : 0 ≤ Q) (q1 : Q ≤ 18446744073709551615)
    (HA : Hid (∀ W : World, Calls Try.prog 18 #[.int .i64 a] W fun e w' => e = .returned (.int .u64 P) ∧ W = w')) (HB : Hid (∀ W : World, Calls Try.prog 18 #[.int .i64 b] W fun e w' => e = .returned (.int .u64 Q) ∧ W = w'))
    (HP : Hid (∀ W : World, Calls Try.prog 20 #[.int .u64 P] W fun e w' => e = .returned (.int .i64 a) ∧ W = w')) (HN : Hid (∀ W : World, Calls Try.prog 20 #[.int .u64 n] W fun e w' => e = .returned (.int .i64 Z) ∧ W = w'))
    (HZ : Hid (∀ W : World, Calls Try.prog 18 #[.int .i64 Z] W fun e w' => e = .returned (.int .u64 n) ∧ W = w'))
    (hpa : a < 0) (e1 : P ≤ -2 * a - 1) (e2 : -2 * a - 1 ≤ P) (hpb : b < 0) (e3 : Q ≤ -2 * b - 1) (e4 : -2 * b - 1 ≤ Q) (hle : -(a + 1) ≤ -(b + 1)) (hge : -(b + 1) ≤ -(a + 1)) :
    Calls Try.prog 9 #[.int .i64 a, .int .i64 b, .int .u64 n] w fun e w' => e = .returned (.bool true) ∧ Below w.heap.size w w' := by
  have hm : (P % 2 == 1) = true := by simp; omega
  have ha : decide (a < 0) = true := by simp; omega
  have hx : (-(a + 1) != -(b + 1)) = false := by simp; omega
  go_enter Try.func9, Try.ntmps9
  go_wp2_with fail
  refine (HA.out _).mono ?_
  rintro e _ ⟨rfl, rfl⟩
  go_wp2_with fail
  refine (HP.out _).mono ?_
  rintro e _ ⟨rfl, rfl⟩
  go_wp2_with fail
  refine (HN.out _).mono ?_
  rintro e _ ⟨rfl, rfl⟩
  go_wp2_with fail
  refine (HZ.out _).mono ?_
  rintro e _ ⟨rfl, rfl⟩
  go_wp2_with (first | (go_at_call_of 18 (Value.int .i64 a); refine (HA.out _).mono ?_; rintro e _ ⟨rfl, rfl⟩) | (go_at_call_of 18 (Value.int .i64 b); refine (HB.out _).mono ?_; rintro e _ ⟨rfl, rfl⟩))
  refine (works_any _).mono ?_
  rintro e w1 ⟨rfl, hb⟩
  go_wp2
  go_ret
  exact ⟨by first | rfl | exact ret_bool (by simp; omega), hb⟩

set_option maxRecDepth 100000 in
set_option maxHeartbeats 4000000 in
theorem zigs_00gt (a b n P Q Z : Int) (w : World) (a0 : -9223372036854775808 ≤ a) (a1 : a ≤ 9223372036854775807) (b0 : -9223372036854775808 ≤ b) (b1 : b ≤ 9223372036854775807)
    (p0 : 0 ≤ P) (p1 : P ≤ 18446744073709551615) (q0 : 0 ≤ Q) (q1 : Q ≤ 18446744073709551615)
    (HA : Hid (∀ W : World, Calls Try.prog 18 #[.int .i64 a] W fun e w' => e = .returned (.int .u64 P) ∧ W = w')) (HB : Hid (∀ W : World, Calls Try.prog 18 #[.int .i64 b] W fun e w' => e = .returned (.int .u64 Q) ∧ W = w'))
    (HP : Hid (∀ W : World, Calls Try.prog 20 #[.int .u64 P] W fun e w' => e = .returned (.int .i64 a) ∧ W = w')) (HN : Hid (∀ W : World, Calls Try.prog 20 #[.int .u64 n] W fun e w' => e = .returned (.int .i64 Z) ∧ W = w'))
    (HZ : Hid (∀ W : World, Calls Try.prog 18 #[.int .i64 Z] W fun e w' => e = .returned (.int .u64 n) ∧ W = w'))
    (hpa : a < 0) (e1 : P ≤ -2 * a - 1) (e2 : -2 * a - 1 ≤ P) (hpb : b < 0) (e3 : Q ≤ -2 * b - 1) (e4 : -2 * b - 1 ≤ Q) (hlt : -(b + 1) < -(a + 1)) :
    Calls Try.prog 9 #[.int .i64 a, .int .i64 b, .int .u64 n] w fun e w' => e = .returned (.bool true) ∧ Below w.heap.size w w' := by
  have hm : (P % 2 == 1) = true := by simp; omega
  have ha : decide (a < 0) = true := by simp; omega
  have hx : (-(a + 1) != -(b + 1)) = true := by simp; omega
  go_enter Try.func9, Try.ntmps9
  go_wp2_with fail
  refine (HA.out _).mono ?_
  rintro e _ ⟨rfl, rfl⟩
  go_wp2_with fail
  refine (HP.out _).mono ?_
  rintro e _ ⟨rfl, rfl⟩
  go_wp2_with fail
  refine (HN.out _).mono ?_
  rintro e _ ⟨rfl, rfl⟩
  go_wp2_with fail
  refine (HZ.out _).mono ?_
  rintro e _ ⟨rfl, rfl⟩
  go_wp2_with (first | (go_at_call_of 18 (Value.int .i64 a); refine (HA.out _).mono ?_; rintro e _ ⟨rfl, rfl⟩) | (go_at_call_of 18 (Value.int .i64 b); refine (HB.out _).mono ?_; rintro e _ ⟨rfl, rfl⟩))
  refine (works_any _).mono ?_
  rintro e w1 ⟨rfl, hb⟩
  go_wp2
  go_ret
  exact ⟨by first | rfl | exact ret_bool (by simp; omega), hb⟩

theorem zigs_any (a b n : Int) (w : World) (a0 : -9223372036854775808 ≤ a) (a1 : a ≤ 9223372036854775807) (b0 : -9223372036854775808 ≤ b) (b1 : b ≤ 9223372036854775807) (n0 : 0 ≤ n) (n1 : n ≤ 18446744073709551615) :
    Calls Try.prog 9 #[.int .i64 a, .int .i64 b, .int .u64 n] w fun e w' => e = .returned (.bool true) ∧ Below w.heap.size w w' := by
  have va := zig_val a
  have vb := zig_val b
  have ha := Lib.zigzag_lt a0 a1
  have hb := Lib.zigzag_lt b0 b1
  have HA := Lib.hid (fun W => zig_any a W a0 a1)
  have HB := Lib.hid (fun W => zig_any b W b0 b1)
  have HP := Lib.hid (fun W => zag_any (Lib.zigzag a) W (by omega) (by omega))
  rw [zag_zig] at HP
  have HN := Lib.hid (fun W => zag_any n W n0 n1)
  have hz : -9223372036854775808 ≤ zagF n ∧ zagF n ≤ 9223372036854775807 := by unfold zagF; split <;> omega
  have HZ := Lib.hid (fun W => zig_any (zagF n) W hz.1 hz.2)
  rw [zig_zag n n0] at HZ
  generalize (Lib.zigzag a : Int) = P at *
  generalize (Lib.zigzag b : Int) = Q at *
  generalize zagF n = Z at *
  by_cases sa : 0 ≤ a
  · rw [if_pos sa] at va
    by_cases sb : 0 ≤ b
    · rw [if_pos sb] at vb
      rcases (show P / 2 < Q / 2 ∨ (P / 2 ≤ Q / 2 ∧ Q / 2 ≤ P / 2) ∨ Q / 2 < P / 2 by omega) with h | h | h
      · exact zigs_11lt a b n P Q Z w a0 a1 b0 b1 (by omega) (by omega) (by omega) (by omega) HA HB HP HN HZ sa (by omega) (by omega) sb (by omega) (by omega) h
      · exact zigs_11eq a b n P Q Z w a0 a1 b0 b1 (by omega) (by omega) (by omega) (by omega) HA HB HP HN HZ sa (by omega) (by omega) sb (by omega) (by omega) h.1 h.2
      · exact zigs_11gt a b n P Q Z w a0 a1 b0 b1 (by omega) (by omega) (by omega) (by omega) HA HB HP HN HZ sa (by omega) (by omega) sb (by omega) (by omega) h
    · rw [if_neg sb] at vb
      rcases (show P / 2 < -(b + 1) ∨ (P / 2 ≤ -(b + 1) ∧ -(b + 1) ≤ P / 2) ∨ -(b + 1) < P / 2 by omega) with h | h | h
      · exact zigs_10lt a b n P Q Z w a0 a1 b0 b1 (by omega) (by omega) (by omega) (by omega) HA HB HP HN HZ sa (by omega) (by omega) (by omega) (by omega) (by omega) h
      · exact zigs_10eq a b n P Q Z w a0 a1 b0 b1 (by omega) (by omega) (by omega) (by omega) HA HB HP HN HZ sa (by omega) (by omega) (by omega) (by omega) (by omega) h.1 h.2
      · exact zigs_10gt a b n P Q Z w a0 a1 b0 b1 (by omega) (by omega) (by omega) (by omega) HA HB HP HN HZ sa (by omega) (by omega) (by omega) (by omega) (by omega) h
  · rw [if_neg sa] at va
    by_cases sb : 0 ≤ b
    · rw [if_pos sb] at vb
      rcases (show -(a + 1) < Q / 2 ∨ (-(a + 1) ≤ Q / 2 ∧ Q / 2 ≤ -(a + 1)) ∨ Q / 2 < -(a + 1) by omega) with h | h | h
      · exact zigs_01lt a b n P Q Z w a0 a1 b0 b1 (by omega) (by omega) (by omega) (by omega) HA HB HP HN HZ (by omega) (by omega) (by omega) sb (by omega) (by omega) h
      · exact zigs_01eq a b n P Q Z w a0 a1 b0 b1 (by omega) (by omega) (by omega) (by omega) HA HB HP HN HZ (by omega) (by omega) (by omega) sb (by omega) (by omega) h.1 h.2
      · exact zigs_01gt a b n P Q Z w a0 a1 b0 b1 (by omega) (by omega) (by omega) (by omega) HA HB HP HN HZ (by omega) (by omega) (by omega) sb (by omega) (by omega) h
    · rw [if_neg sb] at vb
      rcases (show -(a + 1) < -(b + 1) ∨ (-(a + 1) ≤ -(b + 1) ∧ -(b + 1) ≤ -(a + 1)) ∨ -(b + 1) < -(a + 1) by omega) with h | h | h
      · exact zigs_00lt a b n P Q Z w a0 a1 b0 b1 (by omega) (by omega) (by omega) (by omega) HA HB HP HN HZ (by omega) (by omega) (by omega) (by omega) (by omega) (by omega) h
      · exact zigs_00eq a b n P Q Z w a0 a1 b0 b1 (by omega) (by omega) (by omega) (by omega) HA HB HP HN HZ (by omega) (by omega) (by omega) (by omega) (by omega) (by omega) h.1 h.2
      · exact zigs_00gt a b n P Q Z w a0 a1 b0 b1 (by omega) (by omega) (by omega) (by omega) HA HB HP HN HZ (by omega) (by omega) (by omega) (by omega) (by omega) (by omega) h
end Go.Proofs.Ytlckppmggklinaa
