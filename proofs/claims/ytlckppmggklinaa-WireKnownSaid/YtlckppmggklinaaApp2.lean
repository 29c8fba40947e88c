/-
  own, CopyBytes, Var; appendFixed; the document's Var, Size, Zig, Zag, fixed; mayBe.
-/
import Derived.Test.YtlckppmggklinaaApp
namespace Go.Proofs.Ytlckppmggklinaa
open Go.RowKit
set_option linter.unusedVariables false

/-- New bytes, and nothing that was there has turned. -/
def Fresh (w : World) (l : List UInt8) (e : Ending) (w' : World) : Prop := ∃ v', e = .returned v' ∧ Own w' w.heap.size v' l ∧ Below w.heap.size w w'

theorem fresh_of_nil {w w1 : World} {v1 : Value} {l : List UInt8} (h : Own w1 w.heap.size v1 ([] ++ l)) (hg : Grew w w1 (.slice none 0 0) v1) : Fresh w l (.returned v1) w1 :=
  ⟨_, rfl, by simpa using h, hg.below (Nat.le_refl _) (fun g hg => by cases hg)⟩

set_option maxHeartbeats 400000 in
theorem own_any {w : World} {lo hi n c : Nat} {A : Option Addr} {l : List UInt8} (h : Bs w lo hi A n c l) (hl : l.length ≤ 2147483648) :
    Calls Try.prog 46 #[.slice A n c] w (Fresh w l) := by
  obtain ⟨i0, hi, hz0, hz1, hz2⟩ := info_parts Try.info5
  have hn := Lib.hid h.len
  have hln : 0 + n ≤ 140737488355328 := by have := h.len; omega
  go_enter Try.func46, Try.ntmps46
  go_wp2_with (at_builtin; refine wpList_append_bs _ rfl _ _ 22 rfl i0 Try.underlying22 hi hz0 hz1 hz2 w.heap.size _ [] rfl (Own.nil _ _) _ _ _ _ _ _ rfl h hln (Nat.le_refl _) ?_; intro v1 w1 hown1 hgrow1)
  go_ret
  exact fresh_of_nil hown1 hgrow1

set_option maxHeartbeats 400000 in
theorem copyBytes_any {w : World} {lo hi n c : Nat} {A : Option Addr} {l : List UInt8} (h : Bs w lo hi A n c l) (hl : l.length ≤ 2147483648) :
    Calls Try.prog 12 #[.slice A n c] w (Fresh w l) := by
  obtain ⟨i0, hi, hz0, hz1, hz2⟩ := info_parts Try.info5
  have hn := Lib.hid h.len
  have hln : 0 + n ≤ 140737488355328 := by have := h.len; omega
  go_enter Try.func12, Try.ntmps12
  go_wp2_with (at_builtin; refine wpList_append_bs _ rfl _ _ 22 rfl i0 Try.underlying22 hi hz0 hz1 hz2 w.heap.size _ [] rfl (Own.nil _ _) _ _ _ _ _ _ rfl h hln (Nat.le_refl _) ?_; intro v1 w1 hown1 hgrow1)
  go_ret
  exact fresh_of_nil hown1 hgrow1

theorem var_end {w w0 w1 w2 : World} {a : Nat} {v1 v2 : Value} {l : List UInt8} (h0 : w.grownBy w0 none) (h1 : Grew w0 w1 (.slice (some ⟨w.heap.size, 0, none⟩) 0 a) v1) (h2 : Grew w1 w2 v1 v2) (hown : Own w2 w.heap.size v2 l) : Fresh w l (.returned v2) w2 :=
  ⟨_, rfl, hown, (Below.grown (Below.refl _ _) h0 (Nat.le_refl _) (fun _ h => by cases h)).trans ((h1.trans h2).below h0.size (fun g hg => by
    have : w.heap.size = g := by simpa [Value.ownBlock] using hg
    omega))⟩

set_option maxHeartbeats 400000 in
theorem var_any {w : World} {lo hi n c : Nat} {A : Option Addr} {l : List UInt8} (m : Int) (h0 : 0 ≤ m) (h1 : m ≤ 18446744073709551615) (h : Bs w lo hi A n c l) (hhi : hi ≤ w.heap.size) (hl : l.length ≤ 1000000000) :
    Calls Try.prog 13 #[.slice A n c, .int .u64 m] w (Fresh w (l ++ Lib.uvarint m.toNat)) := by
  obtain ⟨i0, hi, hz0, hz1, hz2⟩ := info_parts Try.info5
  have hn : n ≤ 1000000000 := by have := h.len; omega
  have hln : 0 + n ≤ 140737488355328 := by omega
  have hu := Lib.uvarint_length64 (x := m.toNat) (by omega)
  obtain ⟨k, hk⟩ : ∃ k, k = (Lib.uvarint m.toNat).length := ⟨_, rfl⟩
  rw [← hk] at hu
  have hsz : ∀ W : World, Calls Try.prog 16 #[.int .u64 m] W fun e w' => e = .returned (.int .i64 (k : Int)) ∧ W = w' := fun W => by rw [hk]; exact size_any m W h0 h1
  have Hsz := Lib.hid hsz; clear hsz hk
  go_enter Try.func13, Try.ntmps13
  go_wp2_with fail
  refine (Hsz.out _).mono ?_
  rintro e w' ⟨rfl, rfl⟩
  go_wp2_with (first
    | (at_make; refine wpList_make_own _ rfl _ _ 22 rfl w.heap.size 5 i0 (.int .u8 0) 1 Try.underlying22 hi hz0 hz1 .i64 .i64 _ (n + k) rfl rfl (by omega) (by rw [hz2]; omega) (by unfold maxLen; omega) (Nat.le_refl _) ?_; intro w0 hown0 hgrow0)
    | (at_builtin; refine wpList_append_bs _ rfl _ _ 22 rfl i0 Try.underlying22 hi hz0 hz1 hz2 w.heap.size _ [] rfl hown0 _ _ _ _ _ _ rfl (h.kept (.of_grown hgrow0 hhi (fun g hg => by cases hg))) hln hgrow0.size ?_; intro v1 w1 hown1 hgrow1))
  refine (appendVar_any w.heap.size _ _ m _ h0 h1 hown1 (by simp; omega) (by have := hgrow1.size; have := hgrow0.size; omega)).mono ?_
  rintro e w2 ⟨v2, rfl, hown2, hgrow2⟩
  go_wp2
  go_ret
  simp only [List.nil_append] at hown2
  exact var_end hgrow0 hgrow1 hgrow2 hown2

/-- A number in k bytes, the lowest first. -/
def fixB : Nat → Nat → List UInt8
  | 0, _ => []
  | k + 1, n => (n % 256).toUInt8 :: fixB k (n / 256)
theorem fixB_length : ∀ k n, (fixB k n).length = k
  | 0, _ => rfl
  | k + 1, n => by simp [fixB, fixB_length k]

def AfRel (w : World) (base : Nat) (v0 : Value) (l : List UInt8) (v : Value) (m k : Nat) (wr : World) : Prop :=
  ∃ xs, Own wr base v xs ∧ xs ++ fixB k m = l ∧ Grew w wr v0 v ∧ base ≤ wr.heap.size

theorem byte_mod (m : Nat) : UInt8.ofNat ((m : Int) % 256).toNat = (m % 256).toUInt8 := by
  rw [show ((m : Int) % 256).toNat = m % 256 by omega]

theorem af_step {w wr w1 : World} {base : Nat} {v u0 v1 : Value} {xs L : List UInt8} {m k i : Nat} {o : Obj} (hown : Own w1 base v1 (xs ++ [UInt8.ofNat ((m : Int) % 256).toNat])) (HL : Hid (xs ++ fixB (k - i) m = L)) (hk : i < k)
    (hG : Grew w wr v u0) (hg : Grew (wr.alloc o) w1 u0 v1) (hb : base ≤ wr.heap.size) : AfRel w base v L v1 (m / 256) (k - (i + 1)) w1 := by
  refine ⟨_, hown, ?_, (hG.alloc o).trans hg, ?_⟩
  · rw [← HL.out, byte_mod, List.append_assoc, show k - i = (k - (i + 1)) + 1 by omega]; rfl
  · have := hg.size; simp at this; omega

theorem af_end {w wr : World} {base : Nat} {v u0 : Value} {xs L : List UInt8} {m k i : Nat} (hown : Own wr base u0 xs) (HL : Hid (xs ++ fixB (k - i) m = L)) (hk : ¬ i < k)
    (hG : Grew w wr v u0) : AppVar w base v L (.returned u0) wr := by
  refine ⟨_, rfl, ?_, hG⟩
  rw [← HL.out, show k - i = 0 by omega]; simpa [fixB] using hown

set_option maxRecDepth 100000 in
set_option maxHeartbeats 400000 in
theorem appendFixed_any (base : Nat) (v : Value) (xs : List UInt8) (n : Int) (k : Nat) (w : World) (h0 : 0 ≤ n) (h1 : n ≤ 18446744073709551615) (hown : Own w base v xs) (hl : xs.length ≤ 1073741824) (hk : k ≤ 8) (hb : base ≤ w.heap.size) :
    Calls Try.prog 45 #[v, .int .u64 n, .int .i64 k] w (AppVar w base v (xs ++ fixB k n.toNat)) := by
  obtain ⟨m, rfl⟩ := Int.eq_ofNat_of_zero_le h0
  rw [Int.toNat_natCast]
  obtain ⟨i0, hi, hz0, hz1, hz2⟩ := info_parts Try.info5
  have hul := fixB_length k m
  obtain ⟨L, hL⟩ : ∃ L, L = xs ++ fixB k m := ⟨_, rfl⟩
  have hLl : L.length ≤ 1073741834 := by rw [hL, List.length_append]; omega
  rw [← hL]
  have hst : AfRel w base v L v m (k - 0) w := ⟨xs, hown, hL.symm, Grew.refl _ _, hb⟩
  clear hL hown hul hl h0
  go_enter Try.func45, Try.ntmps45
  go_wp2
  go_loopw [0, 1, 8] (fun v' n' j wr => ∃ m i : Nat, n' = .int .u64 m ∧ (m : Int) ≤ 18446744073709551615 ∧ j = .int .i64 i ∧ i ≤ k ∧ AfRel w base v L v' m (k - i) wr) (fun _ _ j _ => k - (intOf j).toNat)
  case atStart => exact ⟨m, 0, rfl, by omega, rfl, by omega, hst⟩
  case round =>
    obtain ⟨m, i, rfl, hm, rfl, hik, xs, hown, hL, hG, hb⟩ := hrel
    clear hst
    have HL := Lib.hid hL; clear hL
    by_cases hlt : i < k
    · have hxl : xs.length + 1 ≤ 1073741834 := by
        have := HL.out; have h2 := fixB_length (k - i) m
        rw [← this, List.length_append] at hLl; omega
      go_wp2_with (at_builtin; refine wpList_append_bs _ rfl _ _ 22 rfl i0 Try.underlying22 hi hz0 hz1 hz2 base _ xs rfl (hown.alloc _) _ _ _ _ _ _ rfl (Bs.single _ _ (by omega) (by omega)) (by omega) (by simp; omega) ?_; intro v1 w1 hown1 hgrow1)
      go_roundw
      case rel => exact ⟨m / 256, i + 1, by go_num, by omega, by go_num, by omega, af_step hown1 HL hlt hG hgrow1 hb⟩
      case measure => simp [intOf]; omega
    · go_wp2
      go_ret
      exact af_end hown HL hlt hG

theorem fresh_of_app {w w2 : World} {l : List UInt8} {e : Ending} (h : AppVar w w.heap.size (.slice none 0 0) l e w2) : Fresh w l e w2 := by
  obtain ⟨v, rfl, hown, hg⟩ := h
  exact ⟨v, rfl, hown, hg.below (Nat.le_refl _) (fun g hg => by cases hg)⟩

set_option maxRecDepth 100000 in
set_option maxHeartbeats 400000 in
theorem rfixed_any (n : Int) (k : Nat) (w : World) (h0 : 0 ≤ n) (h1 : n ≤ 18446744073709551615) (hk : k ≤ 8) :
    Calls Try.prog 47 #[.int .u64 n, .int .i64 k] w (Fresh w (fixB k n.toNat)) := by
  obtain ⟨m, rfl⟩ := Int.eq_ofNat_of_zero_le h0
  rw [Int.toNat_natCast]
  obtain ⟨i0, hi, hz0, hz1, hz2⟩ := info_parts Try.info5
  have hul := fixB_length k m
  obtain ⟨L, hL⟩ : ∃ L, L = fixB k m := ⟨_, rfl⟩
  have hLl : L.length ≤ 1073741834 := by rw [hL]; omega
  rw [← hL]
  have hst : AfRel w w.heap.size (.slice none 0 0) L (.slice none 0 0) m (k - 0) w := ⟨[], Own.nil _ _, hL.symm, Grew.refl _ _, Nat.le_refl _⟩
  clear hL hul h0
  go_enter Try.func47, Try.ntmps47
  go_wp2
  go_loopw [0, 5, 6] (fun n' v' j wr => ∃ m i : Nat, n' = .int .u64 m ∧ (m : Int) ≤ 18446744073709551615 ∧ j = .int .i64 i ∧ i ≤ k ∧ AfRel w w.heap.size (.slice none 0 0) L v' m (k - i) wr) (fun _ _ j _ => k - (intOf j).toNat)
  case atStart => exact ⟨m, 0, rfl, by omega, rfl, by omega, hst⟩
  case round =>
    obtain ⟨m, i, rfl, hm, rfl, hik, xs, hown, hL, hG, hb⟩ := hrel
    clear hst
    have HL := Lib.hid hL; clear hL
    by_cases hlt : i < k
    · have hxl : xs.length + 1 ≤ 1073741834 := by
        have := HL.out; have h2 := fixB_length (k - i) m
        rw [← this, List.length_append] at hLl; omega
      go_wp2_with (at_builtin; refine wpList_append_bs _ rfl _ _ 22 rfl i0 Try.underlying22 hi hz0 hz1 hz2 w.heap.size _ xs rfl (hown.alloc _) _ _ _ _ _ _ rfl (Bs.single _ _ (by omega) (by omega)) (by omega) (by simp; omega) ?_; intro v1 w1 hown1 hgrow1)
      go_roundw
      case rel => exact ⟨m / 256, i + 1, by go_num, by omega, by go_num, by omega, af_step hown1 HL hlt hG hgrow1 hb⟩
      case measure => simp [intOf]; omega
    · go_wp2
      go_ret
      exact fresh_of_app (af_end hown HL hlt hG)

theorem fresh_behind {w w1 w2 : World} {v1 : Value} {xs l : List UInt8} {e : Ending} (h1 : Own w1 w.heap.size v1 xs) (hb : Below w.heap.size w w1) (h : AppVar w1 w.heap.size v1 l e w2) : Fresh w l e w2 := by
  obtain ⟨v, rfl, hown, hg⟩ := h
  exact ⟨v, rfl, hown, hb.trans (hg.below hb.size (fun g hg => (h1.lt hg).1))⟩

set_option maxRecDepth 100000 in
set_option maxHeartbeats 400000 in
theorem rvar_any {w : World} {lo hi n c : Nat} {A : Option Addr} {l : List UInt8} (m : Int) (h0 : 0 ≤ m) (h1 : m ≤ 18446744073709551615) (h : Bs w lo hi A n c l) (hl : l.length ≤ 1000000000) :
    Calls Try.prog 15 #[.slice A n c, .int .u64 m] w (Fresh w (l ++ Lib.uvarint m.toNat)) := by
  obtain ⟨m, rfl⟩ := Int.eq_ofNat_of_zero_le h0
  rw [Int.toNat_natCast]
  obtain ⟨i0, hi, hz0, hz1, hz2⟩ := info_parts Try.info5
  have hul := Lib.uvarint_length64 (x := m) (by omega)
  obtain ⟨L, hL⟩ : ∃ L, L = l ++ Lib.uvarint m := ⟨_, rfl⟩
  have hLl : L.length ≤ 1073741834 := by rw [hL, List.length_append]; omega
  rw [← hL]
  have HL0 := Lib.hid hL.symm
  clear hL hul h0
  go_enter Try.func15, Try.ntmps15
  go_wp2_with fail
  refine (copyBytes_any h (by omega)).mono ?_
  rintro e w1 ⟨v1, rfl, hown1, hbel⟩
  have hst : AvRel w1 w.heap.size v1 L v1 m w1 := ⟨l, hown1, HL0.out, Grew.refl _ _, hbel.size⟩
  clear HL0
  go_wp2
  go_loopw [1, 5] (fun n' v' wr => ∃ m : Nat, n' = .int .u64 m ∧ (m : Int) ≤ 18446744073709551615 ∧ AvRel w1 w.heap.size v1 L v' m wr) (fun n' _ _ => (intOf n').toNat)
  case atStart => exact ⟨m, rfl, by omega, hst⟩
  case round =>
    obtain ⟨m, rfl, hm, xs, hown, hL, hG, hb⟩ := hrel
    clear hst
    have HL := Lib.hid hL; clear hL
    have hxl : xs.length + 1 ≤ 1073741834 := by
      have := HL.out; have h2 := Lib.uvarint_pos m
      rw [← this, List.length_append] at hLl; omega
    by_cases hlt : 128 ≤ m
    · have hlt' : (128 : Int) ≤ (m : Int) := by omega
      go_wp2_with (at_builtin; refine wpList_append_bs _ rfl _ _ 22 rfl i0 Try.underlying22 hi hz0 hz1 hz2 w.heap.size _ xs rfl (hown.alloc _) _ _ _ _ _ _ rfl (Bs.single _ _ (by omega) (by omega)) (by omega) (by simp; omega) ?_; intro v2 w2 hown2 hgrow2)
      go_roundw
      case rel => exact ⟨m / 128, by go_num, by omega, av_step hown2 HL hlt hG hgrow2 hb⟩
      case measure => simp [intOf]; omega
    · have hlt' : ¬ (128 : Int) ≤ (m : Int) := by omega
      go_wp2_with (at_builtin; refine wpList_append_bs _ rfl _ _ 22 rfl i0 Try.underlying22 hi hz0 hz1 hz2 w.heap.size _ xs rfl (hown.alloc _) _ _ _ _ _ _ rfl (Bs.single _ _ (by omega) (by omega)) (by omega) (by simp; omega) ?_; intro v2 w2 hown2 hgrow2)
      go_ret
      exact fresh_behind hown1 hbel (av_end hown2 HL (by omega) hG hgrow2)
end Go.Proofs.Ytlckppmggklinaa
