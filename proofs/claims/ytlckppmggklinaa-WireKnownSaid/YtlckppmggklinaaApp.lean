/-
  What appends: appendVar, appendFixed, own, Var; CopyBytes, Var, fixed of the document's answer.
-/
import Derived.Test.YtlckppmggklinaaNum
namespace Go.Proofs.Ytlckppmggklinaa
open Go.RowKit
set_option linter.unusedVariables false

theorem Try.info5 : (Try.prog.info? 5).map (fun i => (i.zero, i.size, i.bytes)) = some (some (.int .u8 0), 1, 1) := by kernel_rfl

def AppVar (w : World) (base : Nat) (v : Value) (l : List UInt8) (e : Ending) (w' : World) : Prop := ∃ v', e = .returned v' ∧ Own w' base v' l ∧ Grew w w' v v'

def AvRel (w : World) (base : Nat) (v0 : Value) (l : List UInt8) (v : Value) (m : Nat) (wr : World) : Prop :=
  ∃ xs, Own wr base v xs ∧ xs ++ Lib.uvarint m = l ∧ Grew w wr v0 v ∧ base ≤ wr.heap.size

theorem byte_or (m : Nat) : UInt8.ofNat ((m : Int) % 128 + 128).toNat = (m % 128 + 128).toUInt8 := by
  rw [show ((m : Int) % 128 + 128).toNat = m % 128 + 128 by omega]
theorem byte_lo (m : Nat) (h : m < 128) : UInt8.ofNat ((m : Int)).toNat = m.toUInt8 := by
  rw [Int.toNat_natCast]

theorem av_step {w wr w1 : World} {base : Nat} {v u0 v1 : Value} {xs L : List UInt8} {m : Nat} {o : Obj} (hown : Own w1 base v1 (xs ++ [UInt8.ofNat ((m : Int) % 128 + 128).toNat])) (HL : Hid (xs ++ Lib.uvarint m = L)) (hm : 128 ≤ m)
    (hG : Grew w wr v u0) (hg : Grew (wr.alloc o) w1 u0 v1) (hb : base ≤ wr.heap.size) : AvRel w base v L v1 (m / 128) w1 := by
  refine ⟨_, hown, ?_, (hG.alloc o).trans hg, ?_⟩
  · rw [← HL.out, Lib.uvarint_big hm, byte_or, List.append_assoc]; rfl
  · have := hg.size; simp at this; omega

theorem av_end {w wr w1 : World} {base : Nat} {v u0 v1 : Value} {xs L : List UInt8} {m : Nat} {o : Obj} (hown : Own w1 base v1 (xs ++ [UInt8.ofNat ((m : Int)).toNat])) (HL : Hid (xs ++ Lib.uvarint m = L)) (hm : m < 128)
    (hG : Grew w wr v u0) (hg : Grew (wr.alloc o) w1 u0 v1) : AppVar w base v L (.returned v1) w1 := by
  refine ⟨_, rfl, ?_, (hG.alloc o).trans hg⟩
  rw [← HL.out, Lib.uvarint_small hm, ← byte_lo m hm]; exact hown

set_option maxRecDepth 100000 in
set_option maxHeartbeats 400000 in
theorem appendVar_any (base : Nat) (v : Value) (xs : List UInt8) (n : Int) (w : World) (h0 : 0 ≤ n) (h1 : n ≤ 18446744073709551615) (hown : Own w base v xs) (hl : xs.length ≤ 1073741824) (hb : base ≤ w.heap.size) :
    Calls Try.prog 41 #[v, .int .u64 n] w (AppVar w base v (xs ++ Lib.uvarint n.toNat)) := by
  obtain ⟨m, rfl⟩ := Int.eq_ofNat_of_zero_le h0
  rw [Int.toNat_natCast]
  obtain ⟨i0, hi, hz0, hz1, hz2⟩ := info_parts Try.info5
  have hul := Lib.uvarint_length64 (x := m) (by omega)
  obtain ⟨L, hL⟩ : ∃ L, L = xs ++ Lib.uvarint m := ⟨_, rfl⟩
  have hLl : L.length ≤ 1073741834 := by rw [hL, List.length_append]; omega
  rw [← hL]
  have hst : AvRel w base v L v m w := ⟨xs, hown, hL.symm, Grew.refl _ _, hb⟩
  clear hL hown hul hl h0
  go_enter Try.func41, Try.ntmps41
  go_wp2
  go_loopw [0, 1] (fun v' n' wr => ∃ m : Nat, n' = .int .u64 m ∧ (m : Int) ≤ 18446744073709551615 ∧ AvRel w base v L v' m wr) (fun _ n' _ => (intOf n').toNat)
  case atStart => exact ⟨m, rfl, by omega, hst⟩
  case round =>
    obtain ⟨m, rfl, hm, xs, hown, hL, hG, hb⟩ := hrel
    clear hst
    have HL := Lib.hid hL; clear hL
    have hxl : xs.length + 1 ≤ 1073741834 := by
      have := HL.out; have h2 := Lib.uvarint_pos m
      rw [← this, List.length_append] at hLl; omega
    by_cases hlt : 128 ≤ m
    · have eor : bits .or .u8 ((m : Int) % 256) 128 = (m : Int) % 256 % 128 + 128 := Lib.u8_or128_any _ (by omega) (by omega)
      have hlt' : (128 : Int) ≤ (m : Int) := by omega
      go_wp2_with (at_builtin; refine wpList_append_bs _ rfl _ _ 22 rfl i0 Try.underlying22 hi hz0 hz1 hz2 base _ xs rfl (hown.alloc _) _ _ _ _ _ _ rfl (Bs.single _ _ (by omega) (by omega)) (by omega) (by simp; omega) ?_; intro v1 w1 hown1 hgrow1)
      go_roundw
      case rel => exact ⟨m / 128, by go_num, by omega, av_step hown1 HL hlt hG hgrow1 hb⟩
      case measure => simp [intOf]; omega
    · have hlt' : ¬ (128 : Int) ≤ (m : Int) := by omega
      go_wp2_with (at_builtin; refine wpList_append_bs _ rfl _ _ 22 rfl i0 Try.underlying22 hi hz0 hz1 hz2 base _ xs rfl (hown.alloc _) _ _ _ _ _ _ rfl (Bs.single _ _ (by omega) (by omega)) (by omega) (by simp; omega) ?_; intro v1 w1 hown1 hgrow1)
      go_ret
      exact av_end hown1 HL (by omega) hG hgrow1
end Go.Proofs.Ytlckppmggklinaa
