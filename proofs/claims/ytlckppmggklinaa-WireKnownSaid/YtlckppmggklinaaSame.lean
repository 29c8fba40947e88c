/-
  Records held against each other: Same, of the program and of the document's answer.
-/
import Derived.Test.YtlckppmggklinaaRec3
namespace Go.Proofs.Ytlckppmggklinaa
open Go.RowKit
set_option linter.unusedVariables false


theorem ret_bool {a b : Bool} (h : a = b) : Ending.returned (.bool a) = .returned (.bool b) := by rw [h]
def rcEq (r s : Rc) : Bool := decide (r.num = s.num) && decide (r.wire = s.wire) && decide (r.n = s.n) && (r.b == s.b) && (r.raw == s.raw)

set_option maxRecDepth 100000 in
set_option maxHeartbeats 1000000 in
theorem same_any {w : World} {lo hi lo2 hi2 n c n' c' m d m' d' : Nat} {A A' C C' : Option Addr} {r s : Rc} (hb : Bs w lo hi A n c r.b) (hw : Bs w lo hi A' n' c' r.raw) (hb2 : Bs w lo2 hi2 C m d s.b) (hw2 : Bs w lo2 hi2 C' m' d' s.raw) (h1 : hi ≤ w.heap.size) (h2 : hi2 ≤ w.heap.size) :
    Calls Try.prog 28 #[.agg #[.int .i64 r.num, .int .i64 r.wire, .int .u64 r.n, .slice A n c, .slice A' n' c'], .agg #[.int .i64 s.num, .int .i64 s.wire, .int .u64 s.n, .slice C m d, .slice C' m' d']] w
      fun e w' => e = .returned (.bool (rcEq r s)) ∧ Below w.heap.size w w' := by
  have hq : rcEq r s = (decide (r.num = s.num) && decide (r.wire = s.wire) && decide (r.n = s.n) && (r.b == s.b) && (r.raw == s.raw)) := rfl
  generalize rcEq r s = R at *
  obtain ⟨num, wire, nn, rb, rr⟩ := r
  obtain ⟨num2, wire2, nn2, sb, sr⟩ := s
  simp only at *
  by_cases q1 : num = num2
  · subst q1
    by_cases q2 : wire = wire2
    · subst q2
      by_cases q3 : nn = nn2
      · subst q3
        by_cases q4 : (rb == sb) = true
        · rw [q4] at hq
          have HQ : Hid (R = (rr == sr)) := Lib.hid (by simpa using hq)
          clear hq
          go_enter Try.func28, Try.ntmps28
          go_wp2_with fail
          refine (bequal_any ((hb.alloc h1 _).alloc (by simp; omega) _) ((hb2.alloc h2 _).alloc (by simp; omega) _)).mono ?_
          rintro e w1 ⟨rfl, rfl⟩
          go_wp2_with fail
          refine (bequal_any ((hw.alloc h1 _).alloc (by simp; omega) _) ((hw2.alloc h2 _).alloc (by simp; omega) _)).mono ?_
          rintro e w1 ⟨rfl, rfl⟩
          go_wp2
          go_ret
          exact ⟨ret_bool HQ.out.symm, ((Below.refl _ _).alloc (Nat.le_refl _) _).alloc (by simp) _⟩
        · have q4' : (rb == sb) = false := by simpa using q4
          rw [q4'] at hq
          have HQ : Hid (R = false) := Lib.hid (by simpa using hq)
          clear hq q4
          go_enter Try.func28, Try.ntmps28
          go_wp2_with fail
          refine (bequal_any ((hb.alloc h1 _).alloc (by simp; omega) _) ((hb2.alloc h2 _).alloc (by simp; omega) _)).mono ?_
          rintro e w1 ⟨rfl, rfl⟩
          go_wp2
          go_ret
          exact ⟨ret_bool HQ.out.symm, ((Below.refl _ _).alloc (Nat.le_refl _) _).alloc (by simp) _⟩
      · have q3' : ((nn : Int) == (nn2 : Int)) = false := by simp; omega
        have HQ : Hid (R = false) := Lib.hid (by simp [hq, q3])
        clear hq q3
        go_enter Try.func28, Try.ntmps28
        go_wp2
        go_ret
        exact ⟨ret_bool HQ.out.symm, ((Below.refl _ _).alloc (Nat.le_refl _) _).alloc (by simp) _⟩
    · have q2' : (wire == wire2) = false := by simp [q2]
      have HQ : Hid (R = false) := Lib.hid (by simp [hq, q2])
      clear hq q2
      go_enter Try.func28, Try.ntmps28
      go_wp2
      go_ret
      exact ⟨ret_bool HQ.out.symm, ((Below.refl _ _).alloc (Nat.le_refl _) _).alloc (by simp) _⟩
  · have q1' : (num == num2) = false := by simp [q1]
    have HQ : Hid (R = false) := Lib.hid (by simp [hq, q1])
    clear hq q1
    go_enter Try.func28, Try.ntmps28
    go_wp2
    go_ret
    exact ⟨ret_bool HQ.out.symm, ((Below.refl _ _).alloc (Nat.le_refl _) _).alloc (by simp) _⟩

set_option maxRecDepth 100000 in
set_option maxHeartbeats 1000000 in
theorem rsame_any {w : World} {lo hi lo2 hi2 n c n' c' m d m' d' : Nat} {A A' C C' : Option Addr} {r s : Rc} (hb : Bs w lo hi A n c r.b) (hw : Bs w lo hi A' n' c' r.raw) (hb2 : Bs w lo2 hi2 C m d s.b) (hw2 : Bs w lo2 hi2 C' m' d' s.raw) (h1 : hi ≤ w.heap.size) (h2 : hi2 ≤ w.heap.size) :
    Calls Try.prog 26 #[.agg #[.int .i64 r.num, .int .i64 r.wire, .int .u64 r.n, .slice A n c, .slice A' n' c'], .agg #[.int .i64 s.num, .int .i64 s.wire, .int .u64 s.n, .slice C m d, .slice C' m' d']] w
      fun e w' => e = .returned (.bool (rcEq r s)) ∧ Below w.heap.size w w' := by
  have hq : rcEq r s = (decide (r.num = s.num) && decide (r.wire = s.wire) && decide (r.n = s.n) && (r.b == s.b) && (r.raw == s.raw)) := rfl
  generalize rcEq r s = R at *
  obtain ⟨num, wire, nn, rb, rr⟩ := r
  obtain ⟨num2, wire2, nn2, sb, sr⟩ := s
  simp only at *
  by_cases q1 : num = num2
  · subst q1
    by_cases q2 : wire = wire2
    · subst q2
      by_cases q3 : nn = nn2
      · subst q3
        by_cases q4 : (rb == sb) = true
        · rw [q4] at hq
          have HQ : Hid (R = (rr == sr)) := Lib.hid (by simpa using hq)
          clear hq
          go_enter Try.func26, Try.ntmps26
          go_wp2_with fail
          refine (eqb_any ((hb.alloc h1 _).alloc (by simp; omega) _) ((hb2.alloc h2 _).alloc (by simp; omega) _)).mono ?_
          rintro e w1 ⟨rfl, rfl⟩
          go_wp2_with fail
          refine (eqb_any ((hw.alloc h1 _).alloc (by simp; omega) _) ((hw2.alloc h2 _).alloc (by simp; omega) _)).mono ?_
          rintro e w1 ⟨rfl, rfl⟩
          go_wp2
          go_ret
          exact ⟨ret_bool HQ.out.symm, ((Below.refl _ _).alloc (Nat.le_refl _) _).alloc (by simp) _⟩
        · have q4' : (rb == sb) = false := by simpa using q4
          rw [q4'] at hq
          have HQ : Hid (R = false) := Lib.hid (by simpa using hq)
          clear hq q4
          go_enter Try.func26, Try.ntmps26
          go_wp2_with fail
          refine (eqb_any ((hb.alloc h1 _).alloc (by simp; omega) _) ((hb2.alloc h2 _).alloc (by simp; omega) _)).mono ?_
          rintro e w1 ⟨rfl, rfl⟩
          go_wp2
          go_ret
          exact ⟨ret_bool HQ.out.symm, ((Below.refl _ _).alloc (Nat.le_refl _) _).alloc (by simp) _⟩
      · have q3' : ((nn : Int) == (nn2 : Int)) = false := by simp; omega
        have HQ : Hid (R = false) := Lib.hid (by simp [hq, q3])
        clear hq q3
        go_enter Try.func26, Try.ntmps26
        go_wp2
        go_ret
        exact ⟨ret_bool HQ.out.symm, ((Below.refl _ _).alloc (Nat.le_refl _) _).alloc (by simp) _⟩
    · have q2' : (wire == wire2) = false := by simp [q2]
      have HQ : Hid (R = false) := Lib.hid (by simp [hq, q2])
      clear hq q2
      go_enter Try.func26, Try.ntmps26
      go_wp2
      go_ret
      exact ⟨ret_bool HQ.out.symm, ((Below.refl _ _).alloc (Nat.le_refl _) _).alloc (by simp) _⟩
  · have q1' : (num == num2) = false := by simp [q1]
    have HQ : Hid (R = false) := Lib.hid (by simp [hq, q1])
    clear hq q1
    go_enter Try.func26, Try.ntmps26
    go_wp2
    go_ret
    exact ⟨ret_bool HQ.out.symm, ((Below.refl _ _).alloc (Nat.le_refl _) _).alloc (by simp) _⟩
end Go.Proofs.Ytlckppmggklinaa
