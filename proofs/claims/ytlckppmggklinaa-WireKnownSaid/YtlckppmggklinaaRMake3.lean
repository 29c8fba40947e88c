/-
  The document's answer: Make, of whatever it is handed.
-/
import Derived.Test.YtlckppmggklinaaRMake2
namespace Go.Proofs.Ytlckppmggklinaa
open Go.RowKit
set_option linter.unusedVariables false
attribute [local go_sem ↓] Go.wp_at_zero Go.wp_at_succ

set_option maxRecDepth 100000 in
set_option maxHeartbeats 2000000 in
theorem rmake_wire {w : World} {lo hi m c n : Nat} {num wire : Int} {A : Option Addr} {b : List UInt8} (hB : Bs w lo hi A m c b) (h1 : 1 ≤ num) (h2 : num ≤ 536870911) (a0 : ¬ wire = 0) (a1 : ¬ wire = 1) (a2 : ¬ wire = 2) (a5 : ¬ wire = 5) :
    Calls Try.prog 25 #[.int .i64 num, .int .i64 wire, .int .u64 n, .slice A m c] w (MakeP w (mkR num wire n b)) := by
  have hl := hB.len
  have HE := Lib.hid (show mayE num wire n b.length = 10 by unfold mayE; rw [if_neg (by omega), if_neg (by omega), if_neg a0, if_neg a1, if_neg a5, if_neg a2])
  have HT := Lib.hid (fun t h0 h1 W => rtag t h0 h1 W)
  have f0 : (wire == 0) = false := by simp [a0]
  have f1 : (wire == 1) = false := by simp [a1]
  have f2 : (wire == 2) = false := by simp [a2]
  have f5 : (wire == 5) = false := by simp [a5]
  clear a0 a1 a2 a5
  clear hl hB
  have g1 : ¬ num < 1 := by omega
  have g2 : ¬ 536870911 < num := by omega
  go_enter Try.func25, Try.ntmps25
  go_wp2_with fail
  refine (HT.out _ (by rw [IntKind.wrap_u64]; omega) (by rw [IntKind.wrap_u64]; omega) _).mono ?_
  rintro e w1 ⟨v1, rfl, ho1, hb1⟩
  obtain ⟨A1, k1, c1, rfl⟩ := ho1.val
  have hs := (RnS.start w num wire 0 (.slice none 0 0)).new hb1
  have hz : ((w.alloc (.cells #[.int .i64 0, .int .i64 0, .int .u64 0, .slice none 0 0, .slice none 0 0] 34)).alloc (.cells #[.int .i64 num, .int .i64 wire, .int .u64 0, .slice none 0 0, .slice none 0 0] 34)).heap.size = w.heap.size + 2 := by simp
  rw [hz] at ho1
  obtain ⟨⟨d0, d1, d2, d3, d4⟩, ⟨e0, e1, e2, e3, e4⟩⟩ := hs.rec_.five
  obtain ⟨⟨r0, r1, r2, r3, r4⟩, ⟨q0, q1, q2, q3, q4⟩⟩ := hs.res.five
  have HS := Lib.hid hs
  clear hs hb1 ho1 hz
  go_wp2
  exact bodyPost_ret (results_rec Try.results25 _ _ w.heap.size _ _ _ _ _ rfl (HS.out.err HE.out (by decide)).1) rfl (HS.out.err HE.out (by decide)).2

theorem rmake_any {w : World} {lo hi m c n : Nat} {num wire : Int} {A : Option Addr} {b : List UInt8} (hB : Bs w lo hi A m c b) (hhi : hi ≤ w.heap.size) (hn : (n : Int) ≤ 18446744073709551615) :
    Calls Try.prog 25 #[.int .i64 num, .int .i64 wire, .int .u64 n, .slice A m c] w (MakeP w (mkR num wire n b)) := by
  by_cases h : num < 1 ∨ 536870911 < num
  · exact rmake_num hB h
  have h1 : 1 ≤ num := by omega
  have h2 : num ≤ 536870911 := by omega
  by_cases a0 : wire = 0
  · subst a0; exact rmake_0 hB h1 h2 hn
  by_cases a1 : wire = 1
  · subst a1; exact rmake_1 hB h1 h2 hn
  by_cases a2 : wire = 2
  · subst a2
    by_cases hm : m ≤ 1048576
    · exact rmake_2 hB hhi h1 h2 hm
    · exact rmake_long hB h1 h2 (by omega)
  by_cases a5 : wire = 5
  · subst a5
    by_cases h5 : (n : Int) < 4294967296
    · exact rmake_5 hB h1 h2 hn h5
    · exact rmake_big hB h1 h2 (by omega)
  exact rmake_wire hB h1 h2 a0 a1 a2 a5
end Go.Proofs.Ytlckppmggklinaa
