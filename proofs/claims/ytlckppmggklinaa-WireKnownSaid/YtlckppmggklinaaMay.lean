/-
  mayBe; the document's Size, Zig, Zag.
-/
import Derived.Test.YtlckppmggklinaaApp2
namespace Go.Proofs.Ytlckppmggklinaa
open Go.RowKit
set_option linter.unusedVariables false

/-- Which records may be made: 0, or the error. -/
def mayE (num wire n size : Int) : Int :=
  if num < 1 then 9 else if 536870911 < num then 9 else if wire = 0 then 0 else if wire = 1 then 0 else if wire = 5 then (if 4294967296 ≤ n then 9 else 0)
  else if wire = 2 then (if 1048576 < size then 5 else 0) else 10

theorem ret_int_of {k : IntKind} {a b : Int} {w w' : World} (h : a = b) (hw : w = w') : (fun e w' => e = Ending.returned (.int k b) ∧ w = w') (Ending.returned (.int k a)) w' := ⟨by rw [h], hw⟩

set_option maxHeartbeats 1000000 in
theorem mayBe_any (num wire n size : Int) (w : World) :
    Calls Try.prog 44 #[.int .i64 num, .int .i64 wire, .int .u64 n, .int .i64 size] w fun e w' => e = .returned (.int .i64 (mayE num wire n size)) ∧ w = w' := by
  by_cases h1 : num < 1
  · have e : mayE num wire n size = 9 := by simp [mayE, h1]
    rw [e]; clear e
    go_enter Try.func44, Try.ntmps44
    go_wp2
    go_ret
    exact ⟨rfl, rfl⟩
  by_cases h2 : 536870911 < num
  · have e : mayE num wire n size = 9 := by simp [mayE, h1, h2]
    rw [e]; clear e
    go_enter Try.func44, Try.ntmps44
    go_wp2
    go_ret
    exact ⟨rfl, rfl⟩
  by_cases h3 : wire = 0
  · have e : mayE num wire n size = 0 := by simp [mayE, h1, h2, h3]
    rw [e]; clear e; subst h3
    go_enter Try.func44, Try.ntmps44
    go_wp2
    go_ret
    exact ⟨rfl, rfl⟩
  have b3 : (wire == 0) = false := by simp [h3]
  by_cases h4 : wire = 1
  · have e : mayE num wire n size = 0 := by simp [mayE, h1, h2, h4]
    rw [e]; clear e b3; subst h4
    go_enter Try.func44, Try.ntmps44
    go_wp2
    go_ret
    exact ⟨rfl, rfl⟩
  have b4 : (wire == 1) = false := by simp [h4]
  by_cases h5 : wire = 5
  · by_cases h6 : 4294967296 ≤ n
    · have e : mayE num wire n size = 9 := by simp [mayE, h1, h2, h5, h6]
      rw [e]; clear e b3 b4 h3 h4; subst h5
      go_enter Try.func44, Try.ntmps44
      go_wp2
      go_ret
      exact ⟨rfl, rfl⟩
    · have e : mayE num wire n size = 0 := by simp [mayE, h1, h2, h5, h6]
      rw [e]; clear e b3 b4 h3 h4; subst h5
      go_enter Try.func44, Try.ntmps44
      go_wp2
      go_ret
      exact ⟨rfl, rfl⟩
  have b5 : (wire == 5) = false := by simp [h5]
  by_cases h7 : wire = 2
  · by_cases h6 : 1048576 < size
    · have e : mayE num wire n size = 5 := by simp [mayE, h1, h2, h7, h6]
      rw [e]; clear e b3 b4 b5 h3 h4 h5; subst h7
      go_enter Try.func44, Try.ntmps44
      go_wp2
      go_ret
      exact ⟨rfl, rfl⟩
    · have e : mayE num wire n size = 0 := by simp [mayE, h1, h2, h7, h6]
      rw [e]; clear e b3 b4 b5 h3 h4 h5; subst h7
      go_enter Try.func44, Try.ntmps44
      go_wp2
      go_ret
      exact ⟨rfl, rfl⟩
  have b7 : (wire == 2) = false := by simp [h7]
  have e : mayE num wire n size = 10 := by simp [mayE, h1, h2, h3, h4, h5, h7]
  rw [e]; clear e
  go_enter Try.func44, Try.ntmps44
  go_wp2
  go_ret
  exact ⟨rfl, rfl⟩

set_option maxHeartbeats 400000 in
theorem rzig_any (n : Int) (w : World) (h0 : -9223372036854775808 ≤ n) (h1 : n ≤ 9223372036854775807) :
    Calls Try.prog 19 #[.int .i64 n] w fun e w' => e = .returned (.int .u64 (Lib.zigzag n)) ∧ w = w' := by
  by_cases hn : 0 ≤ n
  · have e : (Lib.zigzag n : Int) = 2 * n := by unfold Lib.zigzag; rw [if_pos hn]; omega
    rw [e]; clear e
    go_enter Try.func19, Try.ntmps19
    go_wp2
    go_ret
    refine ⟨ret_int ?_, rfl⟩
    omega
  · have e : (Lib.zigzag n : Int) = 2 * (-(n + 1)) + 1 := by unfold Lib.zigzag; rw [if_neg hn]; omega
    rw [e]; clear e
    go_enter Try.func19, Try.ntmps19
    go_wp2
    go_ret
    refine ⟨ret_int ?_, rfl⟩
    omega

set_option maxHeartbeats 400000 in
theorem rzag_any (n : Int) (w : World) (h0 : 0 ≤ n) (h1 : n ≤ 18446744073709551615) :
    Calls Try.prog 21 #[.int .u64 n] w fun e w' => e = .returned (.int .i64 (zagF n)) ∧ w = w' := by
  by_cases hn : n % 2 = 0
  · have e : zagF n = n / 2 := by simp [zagF, hn]
    rw [e]; clear e
    have hb : (n % 2 == 0) = true := by simp [hn]
    clear hn
    go_enter Try.func21, Try.ntmps21
    go_wp2
    go_ret
    exact ⟨rfl, rfl⟩
  · have e : zagF n = -(n / 2) - 1 := by simp [zagF, hn]
    rw [e]; clear e
    have hb : (n % 2 == 0) = false := by simp [hn]
    clear hn
    go_enter Try.func21, Try.ntmps21
    go_wp2
    go_ret
    exact ⟨rfl, rfl⟩

set_option maxHeartbeats 400000 in
theorem rsize_any (n : Int) (w : World) (h0 : 0 ≤ n) (h1 : n ≤ 18446744073709551615) :
    Calls Try.prog 17 #[.int .u64 n] w fun e w' => e = .returned (.int .i64 ((Lib.uvarint n.toNat).length : Int)) ∧ Below w.heap.size w w' := by
  go_enter Try.func17, Try.ntmps17
  go_wp2_with fail
  refine (rvar_any (lo := 0) (hi := 0) (l := []) n h0 h1 (Bs.none_ _ _ _ _ (by unfold maxLen; omega)) (by simp)).mono ?_
  rintro e w1 ⟨v1, rfl, hown, hb⟩
  obtain ⟨A, c, rfl, hbs⟩ := hown.bs
  simp only [List.nil_append] at *
  have HB := Lib.hid hbs.1; clear hbs hown
  go_wp2
  go_ret
  exact ⟨rfl, hb⟩
end Go.Proofs.Ytlckppmggklinaa
