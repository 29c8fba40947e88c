/-
  works: the chapter's examples.
-/
import Derived.Test.YtlckppmggklinaaMake3
namespace Go.Proofs.Ytlckppmggklinaa
open Go.RowKit
set_option linter.unusedVariables false

def rA : Rc := ⟨1, 0, 150, [], [8, 150, 1]⟩
def rB : Rc := ⟨2, 2, 0, [116, 101], [18, 2, 116, 101]⟩
def rC : Rc := ⟨3, 5, 1, [], [29, 1, 0, 0, 0]⟩
def rD : Rc := ⟨2, 2, 0, [], [18, 0]⟩

theorem uv_small {x : Nat} (h : x < 128) : Lib.uvarint x = [x.toUInt8] := Lib.uvarint_small h
theorem uv_two {x : Nat} (h : 128 ≤ x) (h2 : x / 128 < 128) : Lib.uvarint x = [(x % 128 + 128).toUInt8, (x / 128).toUInt8] := by rw [Lib.uvarint_big h, Lib.uvarint_small h2]
theorem uv300 : Lib.uvarint 300 = [172, 2] := by rw [uv_two (by omega) (by omega)]; rfl
theorem uv150 : Lib.uvarint 150 = [150, 1] := by rw [uv_two (by omega) (by omega)]; rfl
theorem mkA : mkR 1 0 150 [] = (0, rA) := by
  unfold mkR
  rw [if_neg (by decide)]
  simp only [mkRaw, rA]
  rw [show (8 * (1 : Int) + 0).toNat = 8 by decide, uv_small (by omega), uv150]
  rfl
theorem mkB : mkR 2 2 0 [116, 101] = (0, rB) := by
  unfold mkR
  rw [if_neg (by decide)]
  simp only [mkRaw, rB]
  rw [show (8 * (2 : Int) + 2).toNat = 18 by decide, uv_small (by omega), show ([116, 101] : List UInt8).length = 2 from rfl, uv_small (x := 2) (by omega)]
  rfl
theorem mkC : mkR 3 5 1 [] = (0, rC) := by
  unfold mkR
  rw [if_neg (by decide)]
  simp only [mkRaw, rC]
  rw [show (8 * (3 : Int) + 5).toNat = 29 by decide, uv_small (by omega)]
  rfl
theorem mkD : mkR 4 3 0 [] = (10, .zero) := by unfold mkR; rw [if_pos (by decide)]; rfl
theorem mkE : mkR 0 0 0 [] = (9, .zero) := by unfold mkR; rw [if_pos (by decide)]; rfl
theorem ckA : chkE rA = 0 := by decide
theorem ckB : chkE rB = 0 := by decide
theorem ckC : chkE rC = 0 := by decide
theorem nx1 : nxR [8, 150, 1, 18, 0] = (0, rA, 3) := by rfl
theorem nx2 : nxR [18, 0] = (0, rD, 2) := by rfl
theorem spA : spR [8, 150, 1, 18, 0] = (0, [rA, rD]) := by
  unfold spR
  rw [if_neg (by decide), spL_ok _ (by simp) (by rw [nx1]), nx1]
  simp only [List.drop_succ_cons, List.drop_zero]
  rw [spL_ok [18, 0] (by simp) (by rw [nx2]), nx2]
  simp only [List.drop_succ_cons, List.drop_zero]
  rw [spL_nil]
  simp
theorem spB : spR [8, 150] = (3, []) := by unfold spR; rw [if_neg (by decide), spL_bad _ (by simp) (by decide)]; rfl
theorem spC : spR [11] = (10, []) := by unfold spR; rw [if_neg (by decide), spL_bad _ (by simp) (by decide)]; rfl
theorem spD : spR [0, 1] = (4, []) := by unfold spR; rw [if_neg (by decide), spL_bad _ (by simp) (by decide)]; rfl

/-- Bytes that are written out. -/
theorem Bs.lit (w : World) (l : List UInt8) (hl : l.length ≤ 1000) : Bs (w.alloc (.cells (Lib.byteCells l).toArray 5)) w.heap.size (w.heap.size + 1) (some ⟨w.heap.size, 0, none⟩) l.length l.length l := by
  refine ⟨rfl, Nat.le_refl _, by unfold maxLen; omega, fun _ => ⟨_, _, rfl, Nat.le_refl _, by omega, fun j hj => ?_⟩⟩
  rw [cell_of_row _ w.heap.size (0 + j) (Lib.byteCells l).toArray 5 (0, 0) (heap_alloc_new w _), Nat.zero_add]
  simp [Lib.byteCells, hj]

set_option maxRecDepth 100000 in
set_option maxHeartbeats 1000000 in
theorem raw_true {w : World} {lo hi lo' hi' n c n' c' m d : Nat} {A A' C : Option Addr} {r : Rc} {l : List UInt8} (hb : Bs w lo hi A n c r.b) (hw : Bs w lo hi A' n' c' r.raw) (h1 : hi ≤ w.heap.size) (hn : n' ≤ 2147483648)
    (hl : Bs w lo' hi' C m d l) (h2 : hi' ≤ w.heap.size) (he : r.raw = l) (hc : chkE r = 0) :
    Calls Try.prog 43 #[.agg #[.int .i64 r.num, .int .i64 r.wire, .int .u64 r.n, .slice A n c, .slice A' n' c'], .int .i64 0, .slice C m d] w fun e w' => e = .returned (.bool true) ∧ Below w.heap.size w w' := by
  have hE := eqb_any (hw.alloc h1 (.cells #[.int .i64 r.num, .int .i64 r.wire, .int .u64 r.n, .slice A n c, .slice A' n' c'] 34)) (hl.alloc h2 _)
  rw [he, show (l == l) = true by simp] at hE
  have hC := check_any (r := r) (hb.alloc h1 (.cells #[.int .i64 r.num, .int .i64 r.wire, .int .u64 r.n, .slice A n c, .slice A' n' c'] 34)) (hw.alloc h1 _) (by simp <;> omega) hn
  rw [hc] at hC
  have HE := Lib.hid hE
  have HC := Lib.hid hC
  clear hE hC he hc hb hw hl
  go_enter Try.func43, Try.ntmps43
  go_wp2_with fail
  refine HE.out.mono ?_
  rintro e w1 ⟨rfl, rfl⟩
  go_wp2_with fail
  refine HC.out.mono ?_
  rintro e w1 ⟨rfl, hb1⟩
  go_wp2
  go_ret
  exact ⟨rfl, ((Below.refl _ _).alloc (Nat.le_refl _) _).trans (hb1.mono (by simp <;> omega))⟩
end Go.Proofs.Ytlckppmggklinaa
