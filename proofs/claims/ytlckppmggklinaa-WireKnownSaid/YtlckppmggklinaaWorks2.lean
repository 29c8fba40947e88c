/-
  works: the chapter's examples, walked.
-/
import Derived.Test.YtlckppmggklinaaWorks
import Derived.Deep.RegionHeld3
namespace Go.Proofs.Ytlckppmggklinaa
open Go.RowKit
set_option linter.unusedVariables false
attribute [local go_sem ↓] Go.wp_at_zero Go.wp_at_succ

theorem Bs.lits (w : World) (zs : List Int) (l : List UInt8) (h : ∀ z ∈ zs, 0 ≤ z ∧ z < 256) (e : zs.map (fun z => UInt8.ofNat z.toNat) = l) (hl : zs.length ≤ 1000) :
    Bs (w.alloc (.cells (zs.map (Value.int .u8)).toArray 5)) w.heap.size (w.heap.size + 1) (some ⟨w.heap.size, 0, none⟩) zs.length zs.length l := by
  subst e
  have hm : (zs.map (Value.int .u8)) = Lib.byteCells (zs.map fun z => UInt8.ofNat z.toNat) := by
    unfold Lib.byteCells
    rw [List.map_map]
    apply List.map_congr_left
    intro z hz
    have := h z hz
    simp only [Function.comp]
    rw [ofNat_toNat8 this.1 this.2]
  have := Bs.lit w (zs.map fun z => UInt8.ofNat z.toNat) (by simpa using hl)
  rw [← hm, List.length_map] at this
  exact this

theorem varC (W : World) : Calls Try.prog 13 #[.slice none 0 0, .int .u64 300] W (Fresh W [172, 2]) := by
  have := var_any (w := W) (lo := 0) (hi := 0) (n := 0) (c := 0) (A := none) (l := []) 300 (by omega) (by omega) (Bs.none_ _ _ _ _ (by unfold maxLen; omega)) (by omega) (by simp)
  rwa [List.nil_append, show (300 : Int).toNat = 300 from rfl, uv300] at this
theorem sizeC (W : World) : Calls Try.prog 16 #[.int .u64 300] W fun e w' => e = .returned (.int .i64 2) ∧ W = w' := by
  have := size_any 300 W (by omega) (by omega)
  rwa [show (300 : Int).toNat = 300 from rfl, uv300] at this
theorem zigM (W : World) : Calls Try.prog 18 #[.int .i64 (-1)] W fun e w' => e = .returned (.int .u64 1) ∧ W = w' := zig_any (-1) W (by omega) (by omega)
theorem zigP (W : World) : Calls Try.prog 18 #[.int .i64 1] W fun e w' => e = .returned (.int .u64 2) ∧ W = w' := zig_any 1 W (by omega) (by omega)
theorem zagC (W : World) : Calls Try.prog 20 #[.int .u64 3] W fun e w' => e = .returned (.int .i64 (-2)) ∧ W = w' := zag_any 3 W (by omega) (by omega)
theorem makeA (W : World) : Calls Try.prog 24 #[.int .i64 1, .int .i64 0, .int .u64 150, .slice none 0 0] W (MakeP W (0, rA)) := by
  have := make_any (w := W) (lo := 0) (hi := 0) (m := 0) (c := 0) (n := 150) (num := 1) (wire := 0) (A := none) (b := []) (Bs.none_ _ _ _ _ (by unfold maxLen; omega)) (by omega) (by omega)
  rwa [mkA] at this
theorem makeC (W : World) : Calls Try.prog 24 #[.int .i64 3, .int .i64 5, .int .u64 1, .slice none 0 0] W (MakeP W (0, rC)) := by
  have := make_any (w := W) (lo := 0) (hi := 0) (m := 0) (c := 0) (n := 1) (num := 3) (wire := 5) (A := none) (b := []) (Bs.none_ _ _ _ _ (by unfold maxLen; omega)) (by omega) (by omega)
  rwa [mkC] at this
theorem makeD (W : World) : Calls Try.prog 24 #[.int .i64 4, .int .i64 3, .int .u64 0, .slice none 0 0] W (MakeP W (10, .zero)) := by
  have := make_any (w := W) (lo := 0) (hi := 0) (m := 0) (c := 0) (n := 0) (num := 4) (wire := 3) (A := none) (b := []) (Bs.none_ _ _ _ _ (by unfold maxLen; omega)) (by omega) (by omega)
  rwa [mkD] at this
theorem makeE (W : World) : Calls Try.prog 24 #[.int .i64 0, .int .i64 0, .int .u64 0, .slice none 0 0] W (MakeP W (9, .zero)) := by
  have := make_any (w := W) (lo := 0) (hi := 0) (m := 0) (c := 0) (n := 0) (num := 0) (wire := 0) (A := none) (b := []) (Bs.none_ _ _ _ _ (by unfold maxLen; omega)) (by omega) (by omega)
  rwa [mkE] at this
theorem makeB (W : World) (H : Nat) (hH : W.heap.size = H) : Calls Try.prog 24 #[.int .i64 2, .int .i64 2, .int .u64 0, .slice (some ⟨H, 0, none⟩) 2 2] (W.alloc (.cells #[.int .u8 116, .int .u8 101] 5)) (MakeP (W.alloc (.cells #[.int .u8 116, .int .u8 101] 5)) (0, rB)) := by
  subst hH
  have hb : Bs (W.alloc (.cells #[.int .u8 116, .int .u8 101] 5)) W.heap.size (W.heap.size + 1) (some ⟨W.heap.size, 0, none⟩) 2 2 [116, 101] := Bs.lits W [116, 101] [116, 101] (by decide) (by decide) (by decide)
  have := make_any (n := 0) (num := 2) (wire := 2) hb (by simp) (by omega)
  rwa [mkB] at this
theorem eqC (W : World) (A : Option Addr) (c : Nat) (h : Bs W 0 W.heap.size A 2 c [172, 2]) : Calls Try.prog 14 #[.slice A 2 c, .slice (some ⟨W.heap.size, 0, none⟩) 2 2] (W.alloc (.cells #[.int .u8 172, .int .u8 2] 5)) fun e w' => e = .returned (.bool true) ∧ W.alloc (.cells #[.int .u8 172, .int .u8 2] 5) = w' := by
  have hb : Bs (W.alloc (.cells #[.int .u8 172, .int .u8 2] 5)) W.heap.size (W.heap.size + 1) (some ⟨W.heap.size, 0, none⟩) 2 2 [172, 2] := Bs.lits W [172, 2] [172, 2] (by decide) (by decide) (by decide)
  have := eqb_any (h.alloc (Nat.le_refl _) (.cells #[.int .u8 172, .int .u8 2] 5)) hb
  exact this

/-- A record in a variable of its own. -/
def RecAt (W : World) (q : Nat) (r : Rc) (A : Option Addr) (k c : Nat) (A' : Option Addr) (k' c' : Nat) : Prop :=
  Blk W q 34 #[.int .i64 r.num, .int .i64 r.wire, .int .u64 r.n, .slice A k c, .slice A' k' c'] ∧ Bs W 0 W.heap.size A k c r.b ∧ Bs W 0 W.heap.size A' k' c' r.raw
theorem RecAt.below {W W' : World} {q k c k' c' : Nat} {r : Rc} {A A' : Option Addr} (h : RecAt W q r A k c A' k' c') (hb : Below W.heap.size W W') : RecAt W' q r A k c A' k' c' :=
  ⟨h.1.below hb h.1.lt, (h.2.1.below hb (Nat.le_refl _)).mono (Nat.le_refl _) hb.size, (h.2.2.below hb (Nat.le_refl _)).mono (Nat.le_refl _) hb.size⟩
theorem RecAt.alloc {W : World} {q k c k' c' : Nat} {r : Rc} {A A' : Option Addr} (h : RecAt W q r A k c A' k' c') (o : Obj) : RecAt (W.alloc o) q r A k c A' k' c' := h.below ((Below.refl _ _).alloc (Nat.le_refl _) o)
theorem RecAt.new {W : World} {base k c k' c' : Nat} {r : Rc} {A A' : Option Addr} (h1 : Own W base (.slice A k c) r.b) (h2 : Own W base (.slice A' k' c') r.raw) :
    RecAt (W.alloc (.cells #[.int .i64 r.num, .int .i64 r.wire, .int .u64 r.n, .slice A k c, .slice A' k' c'] 34)) W.heap.size r A k c A' k' c' := by
  refine ⟨Blk.new _ _ _, ?_, ?_⟩
  · obtain ⟨B, d, e, hb⟩ := h1.bs
    injection e with e1 e2 e3
    subst e1; subst e2; subst e3
    exact (hb.alloc (Nat.le_refl _) _).mono (Nat.zero_le _) (by simp)
  · obtain ⟨B, d, e, hb⟩ := h2.bs
    injection e with e1 e2 e3
    subst e1; subst e2; subst e3
    exact (hb.alloc (Nat.le_refl _) _).mono (Nat.zero_le _) (by simp)
/-- Make's answer, taken into a variable. -/
theorem made_at {W W' : World} {r : Rc} {v : Value} (h : OwnRec W' W.heap.size v r) : ∃ A k c A' k' c', v = .agg #[.int .i64 r.num, .int .i64 r.wire, .int .u64 r.n, .slice A k c, .slice A' k' c'] ∧
    RecAt (W'.alloc (.cells #[.int .i64 r.num, .int .i64 r.wire, .int .u64 r.n, .slice A k c, .slice A' k' c'] 34)) W'.heap.size r A k c A' k' c' := by
  obtain ⟨va, ra, rfl, oa, ora⟩ := h
  obtain ⟨A, k, c, rfl⟩ := oa.val
  obtain ⟨A', k', c', rfl⟩ := ora.val
  exact ⟨A, k, c, A', k', c', rfl, RecAt.new oa ora⟩

theorem rawAt {W : World} {q k c k' c' : Nat} {r : Rc} {A A' : Option Addr} (h : RecAt W q r A k c A' k' c') (zs : List Int) (hz : ∀ z ∈ zs, 0 ≤ z ∧ z < 256) (he : zs.map (fun z => UInt8.ofNat z.toNat) = r.raw) (hl : zs.length ≤ 1000) (hc : chkE r = 0) (H : Nat) (hH : W.heap.size = H) :
    Calls Try.prog 43 #[.agg #[.int .i64 r.num, .int .i64 r.wire, .int .u64 r.n, .slice A k c, .slice A' k' c'], .int .i64 0, .slice (some ⟨H, 0, none⟩) zs.length zs.length] (W.alloc (.cells (zs.map (Value.int .u8)).toArray 5))
      fun e w' => e = .returned (.bool true) ∧ Below W.heap.size W w' := by
  subst hH
  have hk : k' ≤ 2147483648 := by
    have := h.2.2.len
    rw [← he, List.length_map] at this; omega
  refine (raw_true (h.2.1.alloc (Nat.le_refl _) _) (h.2.2.alloc (Nat.le_refl _) _) (by simp) hk (Bs.lits W zs r.raw hz he hl) (by simp) rfl hc).mono ?_
  rintro e w' ⟨rfl, hb⟩
  exact ⟨rfl, ((Below.refl _ _).alloc (Nat.le_refl _) _).trans (hb.mono (by simp))⟩
theorem splitAt (W : World) (zs : List Int) (l : List UInt8) (hz : ∀ z ∈ zs, 0 ≤ z ∧ z < 256) (he : zs.map (fun z => UInt8.ofNat z.toNat) = l) (hl : zs.length ≤ 1000) (H : Nat) (hH : W.heap.size = H) (R : Nat × List Rc) (hR : spR l = R) :
    Calls Try.prog 33 #[.slice (some ⟨H, 0, none⟩) zs.length zs.length] (W.alloc (.cells (zs.map (Value.int .u8)).toArray 5))
      fun e w' => ∃ A c, e = .returned (.tuple #[.slice A R.2.length c, .int .i64 R.1]) ∧ Rs w' 0 w'.heap.size A R.2.length c R.2 ∧ Below W.heap.size W w' := by
  subst hH; subst hR
  refine (split_any (Bs.lits W zs l hz he hl) (by simp) (by omega)).mono ?_
  rintro e w' ⟨A, c, rfl, h, hb⟩
  exact ⟨A, c, rfl, h.mono (Nat.zero_le _) (Nat.le_refl _), ((Below.refl _ _).alloc (Nat.le_refl _) _).trans (hb.mono (by simp))⟩
theorem rawA {W : World} {q k c k' c' : Nat} {A A' : Option Addr} (h : RecAt W q rA A k c A' k' c') (H : Nat) (hH : W.heap.size = H) :
    Calls Try.prog 43 #[.agg #[.int .i64 rA.num, .int .i64 rA.wire, .int .u64 rA.n, .slice A k c, .slice A' k' c'], .int .i64 0, .slice (some ⟨H, 0, none⟩) 3 3] (W.alloc (.cells #[.int .u8 8, .int .u8 150, .int .u8 1] 5))
      fun e w' => e = .returned (.bool true) ∧ Below W.heap.size W w' := rawAt h [8, 150, 1] (by decide) (by decide) (by decide) ckA H hH
theorem rawB {W : World} {q k c k' c' : Nat} {A A' : Option Addr} (h : RecAt W q rB A k c A' k' c') (H : Nat) (hH : W.heap.size = H) :
    Calls Try.prog 43 #[.agg #[.int .i64 rB.num, .int .i64 rB.wire, .int .u64 rB.n, .slice A k c, .slice A' k' c'], .int .i64 0, .slice (some ⟨H, 0, none⟩) 4 4] (W.alloc (.cells #[.int .u8 18, .int .u8 2, .int .u8 116, .int .u8 101] 5))
      fun e w' => e = .returned (.bool true) ∧ Below W.heap.size W w' := rawAt h [18, 2, 116, 101] (by decide) (by decide) (by decide) ckB H hH
theorem rawC {W : World} {q k c k' c' : Nat} {A A' : Option Addr} (h : RecAt W q rC A k c A' k' c') (H : Nat) (hH : W.heap.size = H) :
    Calls Try.prog 43 #[.agg #[.int .i64 rC.num, .int .i64 rC.wire, .int .u64 rC.n, .slice A k c, .slice A' k' c'], .int .i64 0, .slice (some ⟨H, 0, none⟩) 5 5] (W.alloc (.cells #[.int .u8 29, .int .u8 1, .int .u8 0, .int .u8 0, .int .u8 0] 5))
      fun e w' => e = .returned (.bool true) ∧ Below W.heap.size W w' := rawAt h [29, 1, 0, 0, 0] (by decide) (by decide) (by decide) ckC H hH
theorem splitA (W : World) (H : Nat) (hH : W.heap.size = H) : Calls Try.prog 33 #[.slice (some ⟨H, 0, none⟩) 5 5] (W.alloc (.cells #[.int .u8 8, .int .u8 150, .int .u8 1, .int .u8 18, .int .u8 0] 5))
      fun e w' => ∃ A c, e = .returned (.tuple #[.slice A 2 c, .int .i64 0]) ∧ Rs w' 0 w'.heap.size A 2 c [rA, rD] ∧ Below W.heap.size W w' := splitAt W [8, 150, 1, 18, 0] _ (by decide) rfl (by decide) H hH _ spA
theorem splitB (W : World) (H : Nat) (hH : W.heap.size = H) : Calls Try.prog 33 #[.slice (some ⟨H, 0, none⟩) 2 2] (W.alloc (.cells #[.int .u8 8, .int .u8 150] 5))
      fun e w' => ∃ A c, e = .returned (.tuple #[.slice A 0 c, .int .i64 3]) ∧ Rs w' 0 w'.heap.size A 0 c [] ∧ Below W.heap.size W w' := splitAt W [8, 150] _ (by decide) rfl (by decide) H hH _ spB
theorem splitC (W : World) (H : Nat) (hH : W.heap.size = H) : Calls Try.prog 33 #[.slice (some ⟨H, 0, none⟩) 1 1] (W.alloc (.cells #[.int .u8 11] 5))
      fun e w' => ∃ A c, e = .returned (.tuple #[.slice A 0 c, .int .i64 10]) ∧ Rs w' 0 w'.heap.size A 0 c [] ∧ Below W.heap.size W w' := splitAt W [11] _ (by decide) rfl (by decide) H hH _ spC
theorem splitD (W : World) (H : Nat) (hH : W.heap.size = H) : Calls Try.prog 33 #[.slice (some ⟨H, 0, none⟩) 2 2] (W.alloc (.cells #[.int .u8 0, .int .u8 1] 5))
      fun e w' => ∃ A c, e = .returned (.tuple #[.slice A 0 c, .int .i64 4]) ∧ Rs w' 0 w'.heap.size A 0 c [] ∧ Below W.heap.size W w' := splitAt W [0, 1] _ (by decide) rfl (by decide) H hH _ spD

theorem cells12 {W W' : World} (hb : Below W.drew.heap.size W.drew W') {q b o : Nat} (hq : q < W.heap.size) (hbb : b < W.heap.size) {v0 v1 v2 v3 v4 u0 u1 u2 u3 u4 x y : Value}
    (h : W.cell? ⟨q, 0, none⟩ = some v0 ∧ W.cell? ⟨q, 1, none⟩ = some v1 ∧ W.cell? ⟨q, 2, none⟩ = some v2 ∧ W.cell? ⟨q, 3, none⟩ = some v3 ∧ W.cell? ⟨q, 4, none⟩ = some v4 ∧
      W.cell? ⟨b, o, none⟩ = some u0 ∧ W.cell? ⟨b, o + 1, none⟩ = some u1 ∧ W.cell? ⟨b, o + 2, none⟩ = some u2 ∧ W.cell? ⟨b, o + 3, none⟩ = some u3 ∧ W.cell? ⟨b, o + 4, none⟩ = some u4 ∧
      W.cell? ⟨b, o + 5, none⟩ = some x ∧ W.cell? ⟨b, o + 5 + 3, none⟩ = some y) :
    W'.cell? ⟨q, 0, none⟩ = some v0 ∧ W'.cell? ⟨q, 1, none⟩ = some v1 ∧ W'.cell? ⟨q, 2, none⟩ = some v2 ∧ W'.cell? ⟨q, 3, none⟩ = some v3 ∧ W'.cell? ⟨q, 4, none⟩ = some v4 ∧
      W'.cell? ⟨b, o, none⟩ = some u0 ∧ W'.cell? ⟨b, o + 1, none⟩ = some u1 ∧ W'.cell? ⟨b, o + 2, none⟩ = some u2 ∧ W'.cell? ⟨b, o + 3, none⟩ = some u3 ∧ W'.cell? ⟨b, o + 4, none⟩ = some u4 ∧
      W'.cell? ⟨b, o + 5, none⟩ = some x ∧ W'.cell? ⟨b, o + 5 + 3, none⟩ = some y := by
  have hc : ∀ g i, g < W.heap.size → W'.cell? ⟨g, i, none⟩ = W.cell? ⟨g, i, none⟩ := fun g i hg => hb.cell (p := ⟨g, i, none⟩) hg
  rw [hc _ _ hq, hc _ _ hq, hc _ _ hq, hc _ _ hq, hc _ _ hq, hc _ _ hbb, hc _ _ hbb, hc _ _ hbb, hc _ _ hbb, hc _ _ hbb, hc _ _ hbb, hc _ _ hbb]
  exact h

set_option maxRecDepth 100000 in
set_option maxHeartbeats 4000000 in
theorem works_any (w : World) : Calls Try.prog 22 #[] w fun e w' => e = .returned (.bool true) ∧ Below w.heap.size w w' := by
  go_enter Try.func22, Try.ntmps22
  go_wp2_with fail
  refine (varC _).mono ?_
  rintro e w1 ⟨v1, rfl, ho1, hb1⟩
  obtain ⟨A1, c1, rfl, hs1⟩ := ho1.bs
  have HQ := Lib.hid (eqC w1 A1 c1 (hs1.mono (Nat.zero_le _) (Nat.le_refl _)))
  clear ho1 hs1
  go_wp2_with fail
  refine HQ.out.mono ?_
  rintro e _ ⟨rfl, rfl⟩
  clear HQ
  go_wp2_with fail
  refine (sizeC _).mono ?_
  rintro e _ ⟨rfl, rfl⟩
  go_wp2_with fail
  refine (zigM _).mono ?_
  rintro e _ ⟨rfl, rfl⟩
  go_wp2_with fail
  refine (zigP _).mono ?_
  rintro e _ ⟨rfl, rfl⟩
  go_wp2_with fail
  refine (zagC _).mono ?_
  rintro e _ ⟨rfl, rfl⟩
  have hB : Below w.heap.size w (w1.alloc (.cells #[.int .u8 172, .int .u8 2] 5)) := hb1.alloc hb1.size _
  clear hb1
  go_wp2_with fail
  refine (makeA _).mono ?_
  rintro e w3 ⟨v, rfl, hor, hb⟩
  obtain ⟨A3, k3, c3, D3, j3, d3, rfl, R3⟩ := made_at hor
  replace hB := (hB.trans (hb.mono hB.size)).alloc (Nat.le_trans hB.size hb.size) (.cells #[.int .i64 rA.num, .int .i64 rA.wire, .int .u64 rA.n, .slice A3 k3 c3, .slice D3 j3 d3] 34)
  clear hor hb
  go_wp2_with fail
  refine (makeB _ _ (by simp)).mono ?_
  rintro e w4 ⟨v, rfl, hor, hb⟩
  obtain ⟨A4, k4, c4, D4, j4, d4, rfl, R4⟩ := made_at hor
  replace hB := ((hB.alloc hB.size (.cells #[.int .u8 116, .int .u8 101] 5)).trans (hb.mono (Nat.le_trans hB.size (by simp)))).alloc (Nat.le_trans hB.size (Nat.le_trans (by simp) hb.size)) (.cells #[.int .i64 rB.num, .int .i64 rB.wire, .int .u64 rB.n, .slice A4 k4 c4, .slice D4 j4 d4] 34)
  replace R3 := ((R3.alloc (.cells #[.int .u8 116, .int .u8 101] 5)).below hb).alloc (.cells #[.int .i64 rB.num, .int .i64 rB.wire, .int .u64 rB.n, .slice A4 k4 c4, .slice D4 j4 d4] 34)
  clear hor hb
  go_wp2_with fail
  refine (makeC _).mono ?_
  rintro e w5 ⟨v, rfl, hor, hb⟩
  obtain ⟨A5, k5, c5, D5, j5, d5, rfl, R5⟩ := made_at hor
  replace hB := (hB.trans (hb.mono hB.size)).alloc (Nat.le_trans hB.size hb.size) (.cells #[.int .i64 rC.num, .int .i64 rC.wire, .int .u64 rC.n, .slice A5 k5 c5, .slice D5 j5 d5] 34)
  replace R3 := (R3.below hb).alloc (.cells #[.int .i64 rC.num, .int .i64 rC.wire, .int .u64 rC.n, .slice A5 k5 c5, .slice D5 j5 d5] 34)
  replace R4 := (R4.below hb).alloc (.cells #[.int .i64 rC.num, .int .i64 rC.wire, .int .u64 rC.n, .slice A5 k5 c5, .slice D5 j5 d5] 34)
  clear hor hb
  go_wp2_with fail
  refine (makeD _).mono ?_
  rintro e w6 ⟨v, rfl, hor, hb⟩
  obtain ⟨A6, k6, c6, D6, j6, d6, rfl, R6⟩ := made_at hor
  replace hB := (hB.trans (hb.mono hB.size)).alloc (Nat.le_trans hB.size hb.size) (.cells #[.int .i64 Rc.zero.num, .int .i64 Rc.zero.wire, .int .u64 Rc.zero.n, .slice A6 k6 c6, .slice D6 j6 d6] 34)
  replace R3 := (R3.below hb).alloc (.cells #[.int .i64 Rc.zero.num, .int .i64 Rc.zero.wire, .int .u64 Rc.zero.n, .slice A6 k6 c6, .slice D6 j6 d6] 34)
  replace R4 := (R4.below hb).alloc (.cells #[.int .i64 Rc.zero.num, .int .i64 Rc.zero.wire, .int .u64 Rc.zero.n, .slice A6 k6 c6, .slice D6 j6 d6] 34)
  replace R5 := (R5.below hb).alloc (.cells #[.int .i64 Rc.zero.num, .int .i64 Rc.zero.wire, .int .u64 Rc.zero.n, .slice A6 k6 c6, .slice D6 j6 d6] 34)
  clear hor hb
  clear R6
  go_wp2_with fail
  refine (makeE _).mono ?_
  rintro e w7 ⟨v, rfl, hor, hb⟩
  obtain ⟨A7, k7, c7, D7, j7, d7, rfl, R7⟩ := made_at hor
  replace hB := (hB.trans (hb.mono hB.size)).alloc (Nat.le_trans hB.size hb.size) (.cells #[.int .i64 Rc.zero.num, .int .i64 Rc.zero.wire, .int .u64 Rc.zero.n, .slice A7 k7 c7, .slice D7 j7 d7] 34)
  replace R3 := (R3.below hb).alloc (.cells #[.int .i64 Rc.zero.num, .int .i64 Rc.zero.wire, .int .u64 Rc.zero.n, .slice A7 k7 c7, .slice D7 j7 d7] 34)
  replace R4 := (R4.below hb).alloc (.cells #[.int .i64 Rc.zero.num, .int .i64 Rc.zero.wire, .int .u64 Rc.zero.n, .slice A7 k7 c7, .slice D7 j7 d7] 34)
  replace R5 := (R5.below hb).alloc (.cells #[.int .i64 Rc.zero.num, .int .i64 Rc.zero.wire, .int .u64 Rc.zero.n, .slice A7 k7 c7, .slice D7 j7 d7] 34)
  clear hor hb
  clear R7
  obtain ⟨⟨f0, f1, f2, f3, f4⟩, _⟩ := R3.1.five
  go_wp2_with fail
  refine (rawA R3 _ (by simp)).mono ?_
  rintro e w8 ⟨rfl, hb⟩
  clear f0 f1 f2 f3 f4
  replace hB := hB.trans (hb.mono hB.size)
  replace R3 := R3.below hb
  replace R4 := R4.below hb
  replace R5 := R5.below hb
  clear hb
  obtain ⟨⟨f0, f1, f2, f3, f4⟩, _⟩ := R4.1.five
  go_wp2_with fail
  refine (rawB R4 _ (by simp)).mono ?_
  rintro e w9 ⟨rfl, hb⟩
  clear f0 f1 f2 f3 f4
  replace hB := hB.trans (hb.mono hB.size)
  replace R3 := R3.below hb
  replace R5 := R5.below hb
  clear hb R4
  obtain ⟨⟨f0, f1, f2, f3, f4⟩, _⟩ := R5.1.five
  go_wp2_with fail
  refine (rawC R5 _ (by simp)).mono ?_
  rintro e w10 ⟨rfl, hb⟩
  clear f0 f1 f2 f3 f4
  replace hB := hB.trans (hb.mono hB.size)
  replace R3 := R3.below hb
  clear hb R5
  go_wp2_with fail
  refine (splitA _ _ (by simp)).mono ?_
  rintro e w11 ⟨A11, c11, rfl, S, hb⟩
  replace hB := hB.trans (hb.mono hB.size)
  replace R3 := R3.below hb
  clear hb
  go_wp2_with fail
  refine (splitB _ _ (by simp)).mono ?_
  rintro e w12 ⟨A12, c12, rfl, _, hb⟩
  replace hB := hB.trans (hb.mono hB.size)
  replace R3 := R3.below hb
  replace S := (S.kept (.of_below hb (Nat.le_refl _))).mono (Nat.le_refl _) hb.size
  clear hb
  go_wp2_with fail
  refine (splitC _ _ (by simp)).mono ?_
  rintro e w13 ⟨A13, c13, rfl, _, hb⟩
  replace hB := hB.trans (hb.mono hB.size)
  replace R3 := R3.below hb
  replace S := (S.kept (.of_below hb (Nat.le_refl _))).mono (Nat.le_refl _) hb.size
  clear hb
  go_wp2_with fail
  refine (splitD _ _ (by simp)).mono ?_
  rintro e w14 ⟨A14, c14, rfl, _, hb⟩
  replace hB := hB.trans (hb.mono hB.size)
  replace R3 := R3.below hb
  replace S := (S.kept (.of_below hb (Nat.le_refl _))).mono (Nat.le_refl _) hb.size
  clear hb
  go_wp2_with fail
  obtain ⟨b, o, r0, B, m, d, B', m', d', e0, hbh, er, hsb, hsw, g0, g1, g2, g3, g4⟩ := S.at_ (i := 0) (by omega)
  obtain ⟨b2, o2, r2, X, mx, dx, X', mx', dx', e2, _, er2, hxb, hxw, x0, _, _, x3, _⟩ := S.at_ (i := 1) (by omega)
  subst e0
  injection e2 with e2
  injection e2 with e3 e4
  subst e3; subst e4
  have er' : rA = r0 := by simpa using er
  subst er'
  have er2' : rD = r2 := by simpa using er2
  subst er2'
  have hmx : mx = 0 := by have := hxb.len; exact this.symm
  subst hmx
  have hSm := same_any (r := rA) (s := rA) (hsb.drew) (hsw.drew) (R3.2.1.drew) (R3.2.2.drew) (Nat.le_refl _) (Nat.le_refl _)
  rw [show rcEq rA rA = true by decide] at hSm
  have HS := Lib.hid hSm
  obtain ⟨⟨f0, f1, f2, f3, f4⟩, _⟩ := R3.1.five
  simp only [Nat.zero_mul, Nat.one_mul, Nat.add_zero] at g0 g1 g2 g3 g4 x0 x3
  have hq := R3.1.lt
  have HC := Lib.hid (show _ ∧ _ ∧ _ ∧ _ ∧ _ ∧ _ ∧ _ ∧ _ ∧ _ ∧ _ ∧ _ ∧ _ from ⟨f0, f1, f2, f3, f4, g0, g1, g2, g3, g4, x0, x3⟩)
  have hrD : (rD.num == 2) = true := rfl
  clear hSm S R3 hsb hsw hxb hxw er er2
  go_region_held3 (fun W => W.cell? ⟨w3.heap.size, 0, none⟩ = some (.int .i64 rA.num) ∧ W.cell? ⟨w3.heap.size, 1, none⟩ = some (.int .i64 rA.wire) ∧ W.cell? ⟨w3.heap.size, 2, none⟩ = some (.int .u64 rA.n) ∧ W.cell? ⟨w3.heap.size, 3, none⟩ = some (.slice A3 k3 c3) ∧ W.cell? ⟨w3.heap.size, 4, none⟩ = some (.slice D3 j3 d3) ∧
      W.cell? ⟨b, o, none⟩ = some (.int .i64 rA.num) ∧ W.cell? ⟨b, o + 1, none⟩ = some (.int .i64 rA.wire) ∧ W.cell? ⟨b, o + 2, none⟩ = some (.int .u64 rA.n) ∧ W.cell? ⟨b, o + 3, none⟩ = some (.slice B m d) ∧ W.cell? ⟨b, o + 4, none⟩ = some (.slice B' m' d') ∧
      W.cell? ⟨b, o + 5, none⟩ = some (.int .i64 rD.num) ∧ W.cell? ⟨b, o + 5 + 3, none⟩ = some (.slice X 0 dx))
    (first | go_keep | exact cells12 hbk hq hbh HC.out)
    (first | (go_at_call 28; refine HS.out.mono ?_; rintro e w15 ⟨rfl, hbk⟩))
  go_wp2
  go_ret
  exact ⟨rfl, hB.drew.trans (hbk.mono hB.size)⟩
end Go.Proofs.Ytlckppmggklinaa
