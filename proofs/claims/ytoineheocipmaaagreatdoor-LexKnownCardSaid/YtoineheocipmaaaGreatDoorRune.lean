/-
  CopyBytes, EqBytes; Rune, and the document's Rune.
-/
import Derived.Test.YtoineheocipmaaaGreatDoorKeys
namespace Go.Proofs.YtoineheocipmaaaGreatDoor
open Go.RowKit
open Go.Lib (byteCells byteCells_length byteCells_append)
set_option linter.unusedVariables false

set_option maxHeartbeats 400000 in
theorem copyBytes_any {w : World} {lo hi n c : Nat} {A : Option Addr} {l : List UInt8} (h : Bs w lo hi A n c l) (hl : l.length ≤ 2147483648) :
    Calls Tryz.prog 232 #[.slice A n c] w (Fresh w l) := by
  obtain ⟨i0, hi, hz0, hz1, hz2⟩ := info_parts Tryz.info5
  have hn := Lib.hid h.len
  have hln : 0 + n ≤ 140737488355328 := by have := h.len; omega
  go_enter Tryz.func232, Tryz.ntmps232
  go_wp2_with (at_builtin; refine wpList_append_bs _ rfl _ _ 42 rfl i0 Tryz.underlying42 hi hz0 hz1 hz2 w.heap.size _ [] rfl (Own.nil _ _) _ _ _ _ _ _ rfl h hln (Nat.le_refl _) ?_; intro v1 w1 hown1 hgrow1)
  go_ret
  exact fresh_of_nil hown1 hgrow1

/-- Is a number a rune? -/
def rnB (n : Int) : Bool := decide ((0 ≤ n ∧ n < 55296) ∨ (57343 < n ∧ n ≤ 1114111))
theorem isRune_any (n : Int) (w : World) : Calls Tryz.prog 228 #[.int .i64 n] w fun e w' => e = .returned (.bool (rnB n)) ∧ w = w' := by
  rcases (show n < 0 ∨ (0 ≤ n ∧ n < 55296) ∨ (55296 ≤ n ∧ n ≤ 57343) ∨ (57343 < n ∧ n ≤ 1114111) ∨ 1114111 < n by omega) with h | ⟨h, h'⟩ | ⟨h, h'⟩ | ⟨h, h'⟩ | h
  all_goals
    go_enter Tryz.func228, Tryz.ntmps228
    go_wp2
    go_ret
    exact ⟨ret_bool (by unfold rnB; first | (simp; omega) | (rw [Bool.eq_iff_iff]; simp; omega)), rfl⟩
theorem risRune_any (n : Int) (w : World) : Calls Tryz.prog 231 #[.int .i64 n] w fun e w' => e = .returned (.bool (rnB n)) ∧ w = w' := by
  rcases (show n < 0 ∨ (0 ≤ n ∧ n < 55296) ∨ (55296 ≤ n ∧ n ≤ 57343) ∨ (57343 < n ∧ n ≤ 1114111) ∨ 1114111 < n by omega) with h | ⟨h, h'⟩ | ⟨h, h'⟩ | ⟨h, h'⟩ | h
  all_goals
    go_enter Tryz.func231, Tryz.ntmps231
    go_wp2
    go_ret
    exact ⟨ret_bool (by unfold rnB; first | (simp; omega) | (rw [Bool.eq_iff_iff]; simp; omega)), rfl⟩

/-- An answer of bytes and an error. -/
def BytesP (w : World) (R : Nat × List UInt8) (e : Ending) (w' : World) : Prop := ∃ v, e = .returned (.tuple #[v, .int .i64 R.1]) ∧ Own w' w.heap.size v R.2 ∧ Below w.heap.size w w'
def ruR (l : List UInt8) (n : Int) : Nat × List UInt8 := if rnB n then (0, l ++ Lib.encodeRune n) else (20, [])

/-- utf8.AppendRune onto bytes of the call's own. -/
theorem appendRune_any {w : World} {base : Nat} {v : Value} {l : List UInt8} {r : Int} (h0 : -2147483648 ≤ r) (h1 : r ≤ 2147483647) (ho : Own w base v l) (hl : l.length + 4 ≤ 140737488355328) (hb : base ≤ w.heap.size) :
    Calls Tryz.prog 229 #[v, .int .i32 r] w fun e w' => ∃ v', e = .returned v' ∧ Own w' base v' (l ++ Lib.encodeRune r) ∧ Below base w w' := by
  refine (Tryz.utf8_AppendRune_plain base v l.length (byteCells l) r h0 h1 w ho hl hb).mono fun e w' hp => ?_
  obtain ⟨v', rfl, h2, o, hg⟩ := hp
  refine ⟨v', rfl, ?_, ?_⟩
  · unfold Own
    rw [List.length_append, byteCells_append, Lib.byteCells_encodeRune, ← Lib.runeCells_length]
    exact h2
  · exact Below.grown ((Below.refl _ _).alloc hb _) hg (by simp; omega) (fun g e => (ho.lt e).1)

/-- Numbers that are bytes, written out. -/
theorem Bs.ints (w : World) (zs : List Int) (h : ∀ z ∈ zs, 0 ≤ z ∧ z < 256) (hl : zs.length ≤ 1000) :
    Bs (w.alloc (.cells (zs.map (Value.int .u8)).toArray 5)) w.heap.size (w.heap.size + 1) (some ⟨w.heap.size, 0, none⟩) zs.length zs.length (zs.map fun z => UInt8.ofNat z.toNat) := by
  have := Bs.lit w (zs.map fun z => UInt8.ofNat z.toNat) (by simpa using hl)
  have e : byteCells (zs.map fun z => UInt8.ofNat z.toNat) = zs.map (Value.int .u8) := by
    simp only [byteCells, List.map_map]
    apply List.map_congr_left
    intro z hz
    have := h z hz
    simp only [Function.comp]
    rw [ofNat_toNat8 this.1 this.2]
  rw [e] at this
  simpa using this

/-- Bytes by their numbers. -/
theorem enc_bytes (r : Int) : Lib.encodeRune r = (Lib.encodeRuneZ r).map fun x => UInt8.ofNat x.toNat := rfl

set_option maxRecDepth 100000 in
set_option maxHeartbeats 2000000 in
theorem rrune_any {w : World} {lo hi n c : Nat} {A : Option Addr} {l : List UInt8} (r : Int) (hB : Bs w lo hi A n c l) (hn : n ≤ 1000000) :
    Calls Tryz.prog 204 #[.slice A n c, .int .i64 r] w (BytesP w (ruR l r)) := by
  obtain ⟨i0, hi0, hz0, hz1, hz2⟩ := info_parts Tryz.info5
  have hR : ruR l r = if rnB r then (0, l ++ Lib.encodeRune r) else (20, []) := rfl
  have hi := fun W => risRune_any r W
  have hrange : rnB r = true → (0 ≤ r ∧ r < 55296) ∨ (57343 < r ∧ r ≤ 1114111) := by unfold rnB; simp
  have hll := hB.len
  have hcp := copyBytes_any hB (by omega)
  generalize rnB r = b at *
  obtain ⟨R, hRR⟩ : ∃ R, R = ruR l r := ⟨_, rfl⟩
  rw [← hRR] at hR ⊢
  have HI := Lib.hid hi
  have HLL := Lib.hid hll
  have HCP := Lib.hid hcp
  clear hi hRR hll hcp hB
  cases b
  · have HR := Lib.hid hR
    clear hR
    go_enter Tryz.func204, Tryz.ntmps204
    go_wp2_with fail
    refine (HI.out _).mono ?_
    rintro e _ ⟨rfl, rfl⟩
    go_wp2
    go_ret2
    rw [HR.out]
    exact ⟨_, rfl, Own.nil _ _, Below.refl _ _⟩
  · have hrg := hrange rfl
    have HR := Lib.hid hR
    clear hR hrange
    have hr0 : 0 ≤ r := by omega
    have hr1 : r ≤ 1114111 := by omega
    rcases (show r < 128 ∨ (128 ≤ r ∧ r < 2048) ∨ (2048 ≤ r ∧ r < 65536) ∨ 65536 ≤ r by omega) with h | ⟨h, h'⟩ | ⟨h, h'⟩ | h
    · have he : Lib.encodeRune r = [UInt8.ofNat r.toNat] := by rw [enc_bytes, Lib.encodeRuneZ_one hr0 (by omega)]; rfl
      have HE := Lib.hid he
      have hm : r % 256 = r := by omega
      clear he hrg
      go_enter Tryz.func204, Tryz.ntmps204
      go_wp2_with fail
      refine (HI.out _).mono ?_
      rintro e _ ⟨rfl, rfl⟩
      go_wp2_with fail
      refine HCP.out.mono ?_
      rintro e w1 ⟨v1, rfl, ho1, hb1⟩
      have hs1 := hb1.size
      go_wp2_with (at_builtin; refine wpList_append_bs _ rfl _ _ 42 rfl i0 Tryz.underlying42 hi0 hz0 hz1 hz2 w.heap.size _ _ rfl (ho1.alloc _) _ _ _ _ _ _ rfl (Bs.single _ _ (by omega) (by omega)) (by have := HLL.out; omega) (by simp; omega) ?_; intro v2 w2 ho2 hg2)
      go_ret2
      rw [HR.out]
      refine ⟨_, rfl, ?_, (hb1.alloc hs1 _).trans (hg2.below (by simp; omega) (fun g e => (ho1.lt e).1))⟩
      simp only [if_true]
      rw [HE.out]; exact ho2
    · have he : Lib.encodeRune r = ([192 + r / 64, 128 + r % 64] : List Int).map fun z => UInt8.ofNat z.toNat := by rw [enc_bytes, Lib.encodeRuneZ_two h (by omega)]
      have HE := Lib.hid he
      have hbz : ∀ z ∈ ([192 + r / 64, 128 + r % 64] : List Int), 0 ≤ z ∧ z < 256 := by
        intro z hz
        simp only [List.mem_cons, List.mem_nil_iff, or_false] at hz
        omega
      have HBZ := Lib.hid hbz
      clear he hrg hbz
      go_enter Tryz.func204, Tryz.ntmps204
      go_wp2_with fail
      refine (HI.out _).mono ?_
      rintro e _ ⟨rfl, rfl⟩
      go_wp2_with fail
      refine HCP.out.mono ?_
      rintro e w1 ⟨v1, rfl, ho1, hb1⟩
      have hs1 := hb1.size
      go_wp2_with (at_builtin; refine wpList_append_bs _ rfl _ _ 42 rfl i0 Tryz.underlying42 hi0 hz0 hz1 hz2 w.heap.size _ _ rfl (ho1.alloc _) _ _ _ _ _ _ rfl (Bs.ints w1 [192 + r / 64, 128 + r % 64] HBZ.out (by simp)) (by have := HLL.out; simp; omega) (by simp; omega) ?_; intro v2 w2 ho2 hg2)
      go_ret2
      rw [HR.out]
      refine ⟨_, rfl, ?_, (hb1.alloc hs1 _).trans (hg2.below (by simp; omega) (fun g e => (ho1.lt e).1))⟩
      simp only [if_true]
      rw [HE.out]; exact ho2
    · have he : Lib.encodeRune r = ([224 + r / 4096, 128 + r / 64 % 64, 128 + r % 64] : List Int).map fun z => UInt8.ofNat z.toNat := by rw [enc_bytes, Lib.encodeRuneZ_three (by omega)]
      have HE := Lib.hid he
      have hbz : ∀ z ∈ ([224 + r / 4096, 128 + r / 64 % 64, 128 + r % 64] : List Int), 0 ≤ z ∧ z < 256 := by
        intro z hz
        simp only [List.mem_cons, List.mem_nil_iff, or_false] at hz
        omega
      have HBZ := Lib.hid hbz
      clear he hrg hbz
      go_enter Tryz.func204, Tryz.ntmps204
      go_wp2_with fail
      refine (HI.out _).mono ?_
      rintro e _ ⟨rfl, rfl⟩
      go_wp2_with fail
      refine HCP.out.mono ?_
      rintro e w1 ⟨v1, rfl, ho1, hb1⟩
      have hs1 := hb1.size
      go_wp2_with (at_builtin; refine wpList_append_bs _ rfl _ _ 42 rfl i0 Tryz.underlying42 hi0 hz0 hz1 hz2 w.heap.size _ _ rfl (ho1.alloc _) _ _ _ _ _ _ rfl (Bs.ints w1 [224 + r / 4096, 128 + r / 64 % 64, 128 + r % 64] HBZ.out (by simp)) (by have := HLL.out; simp; omega) (by simp; omega) ?_; intro v2 w2 ho2 hg2)
      go_ret2
      rw [HR.out]
      refine ⟨_, rfl, ?_, (hb1.alloc hs1 _).trans (hg2.below (by simp; omega) (fun g e => (ho1.lt e).1))⟩
      simp only [if_true]
      rw [HE.out]; exact ho2
    · have he : Lib.encodeRune r = ([240 + r / 262144, 128 + r / 4096 % 64, 128 + r / 64 % 64, 128 + r % 64] : List Int).map fun z => UInt8.ofNat z.toNat := by rw [enc_bytes, Lib.encodeRuneZ_four h hr1]
      have HE := Lib.hid he
      have hbz : ∀ z ∈ ([240 + r / 262144, 128 + r / 4096 % 64, 128 + r / 64 % 64, 128 + r % 64] : List Int), 0 ≤ z ∧ z < 256 := by
        intro z hz
        simp only [List.mem_cons, List.mem_nil_iff, or_false] at hz
        omega
      have HBZ := Lib.hid hbz
      clear he hrg hbz
      go_enter Tryz.func204, Tryz.ntmps204
      go_wp2_with fail
      refine (HI.out _).mono ?_
      rintro e _ ⟨rfl, rfl⟩
      go_wp2_with fail
      refine HCP.out.mono ?_
      rintro e w1 ⟨v1, rfl, ho1, hb1⟩
      have hs1 := hb1.size
      go_wp2_with (at_builtin; refine wpList_append_bs _ rfl _ _ 42 rfl i0 Tryz.underlying42 hi0 hz0 hz1 hz2 w.heap.size _ _ rfl (ho1.alloc _) _ _ _ _ _ _ rfl (Bs.ints w1 [240 + r / 262144, 128 + r / 4096 % 64, 128 + r / 64 % 64, 128 + r % 64] HBZ.out (by simp)) (by have := HLL.out; simp; omega) (by simp; omega) ?_; intro v2 w2 ho2 hg2)
      go_ret2
      rw [HR.out]
      refine ⟨_, rfl, ?_, (hb1.alloc hs1 _).trans (hg2.below (by simp; omega) (fun g e => (ho1.lt e).1))⟩
      simp only [if_true]
      rw [HE.out]; exact ho2
end Go.Proofs.YtoineheocipmaaaGreatDoor
