/-
  The statements' own same: two lists of the same records.
-/
import Derived.Test.YtlckppmggklinaaAgain
import Derived.Test.YtlckppmggklinaaRSplit
namespace Go.Proofs.Ytlckppmggklinaa
open Go.RowKit
set_option linter.unusedVariables false
attribute [local go_sem ↓] Go.wp_at_zero Go.wp_at_succ

set_option maxRecDepth 100000 in
set_option maxHeartbeats 2000000 in
theorem lsame_any {w : World} {lo hi lo2 hi2 n c c' : Nat} {A A' : Option Addr} {rs : List Rc} (hR : Rs w lo hi A n c rs) (hR2 : Rs w lo2 hi2 A' n c' rs) (h1 : hi ≤ w.heap.size) (h2 : hi2 ≤ w.heap.size) (hn : n ≤ 2147483648) :
    Calls Try.prog 35 #[.slice A n c, .slice A' n c'] w fun e w' => e = .returned (.bool true) ∧ Below w.heap.size w w' := by
  have hnn : ((n : Int) != (n : Int)) = false := by simp
  go_enter Try.func35, Try.ntmps35
  go_wp2_with fail
  go_loopw [5] (fun j wr => ∃ i : Nat, j = .int .i64 i ∧ i ≤ n ∧ Below w.heap.size w wr) (fun j _ => n - (intOf j).toNat)
  case atStart => exact ⟨0, rfl, by omega, Below.refl _ _⟩
  case round =>
    obtain ⟨i, rfl, hin, hbel⟩ := hrel
    have hsr := hbel.size
    by_cases hlt : i < n
    · obtain ⟨b, o, r, B, m, d, B', m', d', rfl, hbh, hr, hsb, hsw, g0, g1, g2, g3, g4⟩ := (hR.kept (.of_below hbel h1)).at_ hlt
      obtain ⟨b2, o2, r2, C, k, f, C', k', f', rfl, hbh2, hr2, htb, htw, n0, n1, n2, n3, n4⟩ := (hR2.kept (.of_below hbel h2)).at_ hlt
      have hrr : r2 = r := by rw [hr] at hr2; injection hr2 with h; exact h.symm
      subst hrr
      have hi0' : (0 : Int) ≤ (i : Int) := by omega
      have hi1' : (i : Int) < (n : Int) := by omega
      have hSm : ∀ W, Below wr.heap.size wr W → Calls Try.prog 26 #[.agg #[.int .i64 r2.num, .int .i64 r2.wire, .int .u64 r2.n, .slice B m d, .slice B' m' d'], .agg #[.int .i64 r2.num, .int .i64 r2.wire, .int .u64 r2.n, .slice C k f, .slice C' k' f']] W fun e w' => e = .returned (.bool true) ∧ Below W.heap.size W w' := fun W h => by
        have hs := h.size
        have := rsame_any (r := r2) (s := r2) (hsb.below h (by omega)) (hsw.below h (by omega)) (htb.below h (by omega)) (htw.below h (by omega)) (by omega) (by omega)
        rwa [rcEq_refl r2] at this
      have cSm := fun d os => Calls.regrown_of (hSm _ (below_regrown wr d os))
      replace g0 := cell_regrown g0
      replace g1 := cell_regrown g1
      replace g2 := cell_regrown g2
      replace g3 := cell_regrown g3
      replace g4 := cell_regrown g4
      replace n0 := cell_regrown n0
      replace n1 := cell_regrown n1
      replace n2 := cell_regrown n2
      replace n3 := cell_regrown n3
      replace n4 := cell_regrown n4
      clear hSm hr hr2 hsb hsw htb htw
      go_wp2_with fail
      refine wp_region_quiet_below (by kernel_rfl) (by kernel_rfl) ?_
      repeat (first | go_big_quiet_step (exact cSm _ _) | quiet_step (exact cSm _ _))
      refine wpQuiet_nil ?_
      intro _ hw'
      obtain ⟨⟨dq, osq⟩, hw''⟩ := hw'
      subst hw''
      have hbq := below_regrown wr dq osq
      clear cSm
      go_wp2
      go_roundw
      case rel => exact ⟨i + 1, by go_num, by omega, hbel.trans (hbq.mono hbel.size)⟩
      case measure => simp [intOf]; omega
    · go_wp2
      go_ret
      exact ⟨rfl, hbel⟩
end Go.Proofs.Ytlckppmggklinaa
