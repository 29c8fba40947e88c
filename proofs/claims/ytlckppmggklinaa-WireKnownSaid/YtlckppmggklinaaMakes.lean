/-
  WireMakes, walked.
-/
import Derived.Test.YtlckppmggklinaaMakesWords
import Derived.Deep.DeepCutAuto
namespace Go.Proofs.Ytlckppmggklinaa
open Go.RowKit
set_option linter.unusedVariables false
attribute [local go_sem ↓] Go.wp_at_zero Go.wp_at_succ

set_option maxRecDepth 100000 in
set_option maxHeartbeats 4000000 in
theorem makes_core {w : World} {k c : Nat} {n nn : Nat} {a0 a1 : Int} {A : Option Addr} {L : List UInt8} (hB : Bs w 0 w.heap.size A k c L) (hk : k ≤ 400) (hcut : ∀ W : World, Calls Try.prog 23 #[.slice A n c] W fun e w' => e = .returned (.slice A k c) ∧ W = w')
    (hn : (nn : Int) ≤ 18446744073709551615) :
    Calls Try.prog 4 #[.agg #[.int .i64 a0, .int .i64 a1], .int .u64 nn, .slice A n c] w fun e w' => e = .returned (.bool true) ∧ Below w.heap.size w w' := by
  have hll := hB.len
  have hrl := mkR_len (num := a0) (wire := a1) (n := nn) (b := L) (by omega) hn
  obtain ⟨e, s, hR⟩ : ∃ e s, mkR a0 a1 nn L = (e, s) := ⟨_, _, rfl⟩
  rw [hR] at hrl
  simp only at hrl
  have HC := Lib.hid hcut
  have HR := Lib.hid hR
  have HBb := Lib.hid (fun (W : World) (h : Below w.heap.size w W) => hB.below h (Nat.le_refl _))
  have HLk := Lib.hid hll
  clear hcut hR hB hll
  go_enter Try.func4, Try.ntmps4
  go_wp2_with fail
  refine (HC.out _).mono ?_
  rintro e _ ⟨rfl, rfl⟩
  go_wp2_with fail
  have hW0 : Below w.heap.size w (w.alloc (.cells #[.int .i64 a0, .int .i64 a1] 32)) := (Below.refl _ _).alloc (Nat.le_refl _) _
  have hA0 := Blk.new w 32 #[.int .i64 a0, .int .i64 a1]
  have hz0 : (w.alloc (.cells #[.int .i64 a0, .int .i64 a1] 32)).heap.size = w.heap.size + 1 := by simp
  generalize w.alloc (.cells #[.int .i64 a0, .int .i64 a1] 32) = W0 at *
  refine (copyBytes_any (HBb.out _ hW0) (by have := HLk.out; omega)).mono ?_
  rintro e w1 ⟨v1, rfl, ho1, hb1⟩
  obtain ⟨A1, k1, c1, rfl⟩ := ho1.val
  have hk1 : k1 ≤ 400 := by have := ho1.toBs.len; have := HLk.out; omega
  have hs1 := hb1.size
  have hW1 := hW0.trans (hb1.mono (by omega))
  have hA1 := hA0.below hb1 (by omega)
  have p0 := hA1.cell 0
  have p1 := hA1.cell 1
  simp only [List.getElem?_toArray, List.getElem?_cons_zero, List.getElem?_cons_succ] at p0 p1
  have HIn := Lib.hid (fun (W : World) (h : Below w1.heap.size w1 W) => ho1.toBs.below h (Nat.le_refl _))
  have hMk := make_any (num := a0) (wire := a1) (n := nn) ho1.toBs (Nat.le_refl _) hn
  rw [HR.out] at hMk
  have HMk := Lib.hid hMk
  clear hMk ho1 hA0 hW0
  go_wp2_with fail
  refine HMk.out.mono ?_
  rintro x w2 ⟨v2, rfl, ⟨vb, vr, rfl, ob, orr⟩, hb2⟩
  simp only at ob orr
  obtain ⟨B, m, d, rfl⟩ := ob.val
  obtain ⟨B', m', d', rfl⟩ := orr.val
  have hs2 := hb2.size
  have hxb := ob.toBs.alloc (Nat.le_refl _) (.cells #[.int .i64 s.num, .int .i64 s.wire, .int .u64 s.n, .slice B m d, .slice B' m' d'] 34)
  have hxr := orr.toBs.alloc (Nat.le_refl _) (.cells #[.int .i64 s.num, .int .i64 s.wire, .int .u64 s.n, .slice B m d, .slice B' m' d'] 34)
  have hbx := Blk.new w2 34 #[.int .i64 s.num, .int .i64 s.wire, .int .u64 s.n, .slice B m d, .slice B' m' d']
  have hI2 := hb2.alloc hs2 (.cells #[.int .i64 s.num, .int .i64 s.wire, .int .u64 s.n, .slice B m d, .slice B' m' d'] 34)
  have hW2 := hW1.trans (hI2.mono (by omega))
  have hA2 := hA1.below hI2 (by omega)
  have hz2 : (w2.alloc (.cells #[.int .i64 s.num, .int .i64 s.wire, .int .u64 s.n, .slice B m d, .slice B' m' d'] 34)).heap.size = w2.heap.size + 1 := by simp
  clear ob orr HMk hb2 p0 p1
  have p0 := hA2.cell 0
  have p1 := hA2.cell 1
  simp only [List.getElem?_toArray, List.getElem?_cons_zero, List.getElem?_cons_succ] at p0 p1
  go_wp2_with fail
  generalize w2.alloc (.cells #[.int .i64 s.num, .int .i64 s.wire, .int .u64 s.n, .slice B m d, .slice B' m' d'] 34) = W2 at *
  have hMk := rmake_any (num := a0) (wire := a1) (n := nn) (HBb.out _ hW2) hW2.size hn
  rw [HR.out] at hMk
  refine hMk.mono ?_
  clear hMk
  rintro x w3 ⟨v3, rfl, ⟨vb, vr, rfl, ob, orr⟩, hb3⟩
  simp only at ob orr
  obtain ⟨C, m3, d3, rfl⟩ := ob.val
  obtain ⟨C', m3', d3', rfl⟩ := orr.val
  have hs3 := hb3.size
  have hyb := ob.toBs.alloc (Nat.le_refl _) (.cells #[.int .i64 s.num, .int .i64 s.wire, .int .u64 s.n, .slice C m3 d3, .slice C' m3' d3'] 34)
  have hyr := orr.toBs.alloc (Nat.le_refl _) (.cells #[.int .i64 s.num, .int .i64 s.wire, .int .u64 s.n, .slice C m3 d3, .slice C' m3' d3'] 34)
  have hby := Blk.new w3 34 #[.int .i64 s.num, .int .i64 s.wire, .int .u64 s.n, .slice C m3 d3, .slice C' m3' d3']
  have hW3' := hb3.alloc hs3 (.cells #[.int .i64 s.num, .int .i64 s.wire, .int .u64 s.n, .slice C m3 d3, .slice C' m3' d3'] 34)
  have hz3 : (w3.alloc (.cells #[.int .i64 s.num, .int .i64 s.wire, .int .u64 s.n, .slice C m3 d3, .slice C' m3' d3'] 34)).heap.size = w3.heap.size + 1 := by simp
  have hbx3 := hbx.below hW3' (by omega)
  have hA3 := hA2.below hW3' (by omega)
  have hI3 := hI2.trans (hW3'.mono (by omega))
  have hW3 := hW2.trans (hW3'.mono (by omega))
  have hS : MkW w1.heap.size (w3.heap.size + 1) (w3.alloc (.cells #[.int .i64 s.num, .int .i64 s.wire, .int .u64 s.n, .slice C m3 d3, .slice C' m3' d3'] 34)) w2.heap.size w3.heap.size s B B' C C' m d m' d' m3 d3 m3' d3' :=
    ⟨hbx3, hby, ⟨by omega, by omega⟩, ⟨by omega, by omega⟩, (hxb.below hW3' (by omega)).mono (by omega) (by omega), (hxr.below hW3' (by omega)).mono (by omega) (by omega), hyb.mono (by omega) (by omega), hyr.mono (by omega) (by omega)⟩
  clear ob orr hb3 p0 p1 hxb hxr hbx hyb hyr hby hbx3 hA2 hI2 hW2 hW1 hA1
  obtain ⟨⟨d0, d1, d2, d3_, d4⟩, _⟩ := hS.bx.five
  obtain ⟨⟨e0, e1, e2, e3, e4⟩, _⟩ := hS.by_.five
  go_wp2_with fail
  generalize w3.alloc (.cells #[.int .i64 s.num, .int .i64 s.wire, .int .u64 s.n, .slice C m3 d3, .slice C' m3' d3'] 34) = W3 at *
  refine (hS.rsame (by omega)).mono ?_
  rintro x w4 ⟨rfl, hb4⟩
  have hs4 := hb4.size
  have hS4 := hS.kept (.of_below hb4 (by omega))
  have hW4 := hW3.trans (hb4.mono (by omega))
  have hI4 := hI3.trans (hb4.mono (by omega))
  have hA4 := hA3.below hb4 (by omega)
  clear d0 d1 d2 d3_ d4 e0 e1 e2 e3 e4 hS hW3 hI3 hA3 hb4 hW3'
  have hE := eqb_any (HIn.out _ hI4) (HBb.out _ hW4)
  rw [show (L == L) = true by simp] at hE
  have HE := Lib.hid hE
  clear hE
  go_wp2_with fail
  refine HE.out.mono ?_
  rintro x _ ⟨rfl, rfl⟩
  have hCp := copy_any hS4.b1 hS4.b2 (by omega) (by omega) (by omega)
  have HCp := Lib.hid hCp
  clear hCp
  obtain ⟨⟨d0, d1, d2, d3_, d4⟩, _⟩ := hS4.bx.five
  go_wp2_with fail
  refine HCp.out.mono ?_
  rintro x w5 ⟨v5, rfl, ⟨vb, vr, rfl, ob, orr⟩, hb5⟩
  try simp only at ob orr
  obtain ⟨D, m5, d5, rfl⟩ := ob.val
  obtain ⟨D', m5', d5', rfl⟩ := orr.val
  have hs5 := hb5.size
  have hA5 := (hA4.below hb5 (by omega)).alloc (.cells #[.int .i64 s.num, .int .i64 s.wire, .int .u64 s.n, .slice D m5 d5, .slice D' m5' d5'] 34)
  have p0 := hA5.cell 0
  have p1 := hA5.cell 1
  simp only [List.getElem?_toArray, List.getElem?_cons_zero, List.getElem?_cons_succ] at p0 p1
  have hb6 : Below w4.heap.size w4 ((w5.alloc (.cells #[.int .i64 s.num, .int .i64 s.wire, .int .u64 s.n, .slice D m5 d5, .slice D' m5' d5'] 34)).alloc (.cells #[.int .i64 a0, .int .i64 a1, .int .u64 nn, .slice A k c, .slice A k c] 34)) := (hb5.alloc hs5 _).alloc (by simp; omega) _
  have hz6 : ((w5.alloc (.cells #[.int .i64 s.num, .int .i64 s.wire, .int .u64 s.n, .slice D m5 d5, .slice D' m5' d5'] 34)).alloc (.cells #[.int .i64 a0, .int .i64 a1, .int .u64 nn, .slice A k c, .slice A k c] 34)).heap.size = w5.heap.size + 2 := by simp
  have hcB := ((ob.toBs.alloc (Nat.le_refl _) (.cells #[.int .i64 s.num, .int .i64 s.wire, .int .u64 s.n, .slice D m5 d5, .slice D' m5' d5'] 34)).alloc (by simp) (.cells #[.int .i64 a0, .int .i64 a1, .int .u64 nn, .slice A k c, .slice A k c] 34))
  have hcR := ((orr.toBs.alloc (Nat.le_refl _) (.cells #[.int .i64 s.num, .int .i64 s.wire, .int .u64 s.n, .slice D m5 d5, .slice D' m5' d5'] 34)).alloc (by simp) (.cells #[.int .i64 a0, .int .i64 a1, .int .u64 nn, .slice A k c, .slice A k c] 34))
  have hblC := (Blk.new w5 34 #[.int .i64 s.num, .int .i64 s.wire, .int .u64 s.n, .slice D m5 d5, .slice D' m5' d5']).alloc (.cells #[.int .i64 a0, .int .i64 a1, .int .u64 nn, .slice A k c, .slice A k c] 34)
  have hblZ := Blk.new2 w5 (.cells #[.int .i64 s.num, .int .i64 s.wire, .int .u64 s.n, .slice D m5 d5, .slice D' m5' d5'] 34) 34 #[.int .i64 a0, .int .i64 a1, .int .u64 nn, .slice A k c, .slice A k c]
  have hIB := Lib.hid ((InB.of ob).below (w' := ((w5.alloc (.cells #[.int .i64 s.num, .int .i64 s.wire, .int .u64 s.n, .slice D m5 d5, .slice D' m5' d5'] 34)).alloc (.cells #[.int .i64 a0, .int .i64 a1, .int .u64 nn, .slice A k c, .slice A k c] 34))) (((Below.refl _ _).alloc (Nat.le_refl _) _).alloc (by simp) _))
  have hIR := Lib.hid ((InB.of orr).below (w' := ((w5.alloc (.cells #[.int .i64 s.num, .int .i64 s.wire, .int .u64 s.n, .slice D m5 d5, .slice D' m5' d5'] 34)).alloc (.cells #[.int .i64 a0, .int .i64 a1, .int .u64 nn, .slice A k c, .slice A k c] 34))) (((Below.refl _ _).alloc (Nat.le_refl _) _).alloc (by simp) _))
  have hS6 := hS4.kept (W' := ((w5.alloc (.cells #[.int .i64 s.num, .int .i64 s.wire, .int .u64 s.n, .slice D m5 d5, .slice D' m5' d5'] 34)).alloc (.cells #[.int .i64 a0, .int .i64 a1, .int .u64 nn, .slice A k c, .slice A k c] 34))) (.of_below hb6 (by omega))
  have hW6 := hW4.trans (hb6.mono (by omega))
  have hzB := HBb.out _ hW6
  have hlB := HLk.out
  have hlr := hS6.b4.len
  have hlr2 := hcR.len
  obtain ⟨q, hQ⟩ : ∃ q, rcEq s ⟨a0, a1, nn, L, L⟩ = q := ⟨_, rfl⟩
  obtain ⟨E, hE1⟩ : ∃ E, chkE ⟨a0, a1, nn, L, L⟩ = E := ⟨_, rfl⟩
  obtain ⟨F, hE2⟩ : ∃ F, chkE s = F := ⟨_, rfl⟩
  have HQ := Lib.hid hQ
  have HE1 := Lib.hid hE1
  have HE2 := Lib.hid hE2
  have hqq : (q != q) = false := by simp
  have hee : ((E : Int) != (E : Int)) = false := by simp
  have hff : ((F : Int) != (F : Int)) = false := by simp
  have hw4 := hW4.size
  clear hQ hE1 hE2 ob orr hb5 hS4 hW4 hA4 hI4 hA5 d0 d1 d2 d3_ d4 HCp HE hs2 hb1
  go_wp2_with fail
  clear p0 p1
  generalize ((w5.alloc (.cells #[.int .i64 s.num, .int .i64 s.wire, .int .u64 s.n, .slice D m5 d5, .slice D' m5' d5'] 34)).alloc (.cells #[.int .i64 a0, .int .i64 a1, .int .u64 nn, .slice A k c, .slice A k c] 34)) = W6 at *
  go_upto_region 9 with fail
  go_cut [97] (fun s97 wx => s97 = .bool false ∧ Below W6.heap.size W6 wx)
  case first =>
    have hw6 := hW6.size
    have k1_ : ∀ W, Below W6.heap.size W6 W → Calls Try.prog 28 #[.agg #[.int .i64 s.num, .int .i64 s.wire, .int .u64 s.n, .slice B m d, .slice B' m' d'], .agg #[.int .i64 a0, .int .i64 a1, .int .u64 nn, .slice A k c, .slice A k c]] W fun e w' => e = .returned (.bool q) ∧ Below W.heap.size W w' := fun W h => by
      have hs := h.size
      have := same_any (r := s) (s := ⟨a0, a1, nn, L, L⟩) (hS6.b1.below h (by omega)) (hS6.b2.below h (by omega)) (hzB.below h (by omega)) (hzB.below h (by omega)) (by omega) (by omega)
      rwa [HQ.out] at this
    have k2_ : ∀ W, Below W6.heap.size W6 W → Calls Try.prog 26 #[.agg #[.int .i64 s.num, .int .i64 s.wire, .int .u64 s.n, .slice C m3 d3, .slice C' m3' d3'], .agg #[.int .i64 a0, .int .i64 a1, .int .u64 nn, .slice A k c, .slice A k c]] W fun e w' => e = .returned (.bool q) ∧ Below W.heap.size W w' := fun W h => by
      have hs := h.size
      have := rsame_any (r := s) (s := ⟨a0, a1, nn, L, L⟩) (hS6.b3.below h (by omega)) (hS6.b4.below h (by omega)) (hzB.below h (by omega)) (hzB.below h (by omega)) (by omega) (by omega)
      rwa [HQ.out] at this
    have k3_ : ∀ W, Below W6.heap.size W6 W → Calls Try.prog 28 #[.agg #[.int .i64 a0, .int .i64 a1, .int .u64 nn, .slice A k c, .slice A k c], .agg #[.int .i64 a0, .int .i64 a1, .int .u64 nn, .slice A k c, .slice A k c]] W fun e w' => e = .returned (.bool true) ∧ Below W.heap.size W w' := fun W h => by
      have hs := h.size
      have := same_any (r := ⟨a0, a1, nn, L, L⟩) (s := ⟨a0, a1, nn, L, L⟩) (hzB.below h (by omega)) (hzB.below h (by omega)) (hzB.below h (by omega)) (hzB.below h (by omega)) (by omega) (by omega)
      rwa [rcEq_refl] at this
    have k4_ : ∀ W, Below W6.heap.size W6 W → Calls Try.prog 29 #[.agg #[.int .i64 a0, .int .i64 a1, .int .u64 nn, .slice A k c, .slice A k c]] W fun e w' => e = .returned (.int .i64 E) ∧ Below W.heap.size W w' := fun W h => by
      have hs := h.size
      have := check_any (r := ⟨a0, a1, nn, L, L⟩) (hzB.below h (by omega)) (hzB.below h (by omega)) (by omega) (by omega)
      rwa [HE1.out] at this
    have k5_ : ∀ W, Below W6.heap.size W6 W → Calls Try.prog 30 #[.agg #[.int .i64 a0, .int .i64 a1, .int .u64 nn, .slice A k c, .slice A k c]] W fun e w' => e = .returned (.int .i64 E) ∧ Below W.heap.size W w' := fun W h => by
      have hs := h.size
      have := rcheck_any (r := ⟨a0, a1, nn, L, L⟩) (hzB.below h (by omega)) (hzB.below h (by omega)) (by omega) (by omega)
      rwa [HE1.out] at this
    have k6_ : ∀ W, Below W6.heap.size W6 W → Calls Try.prog 29 #[.agg #[.int .i64 s.num, .int .i64 s.wire, .int .u64 s.n, .slice D m5 d5, .slice D' m5' d5']] W fun e w' => e = .returned (.int .i64 F) ∧ Below W.heap.size W w' := fun W h => by
      have hs := h.size
      have := check_any (r := s) (hcB.below h (by omega)) (hcR.below h (by omega)) (by omega) (by omega)
      rwa [HE2.out] at this
    have k7_ : ∀ W, Below W6.heap.size W6 W → Calls Try.prog 30 #[.agg #[.int .i64 s.num, .int .i64 s.wire, .int .u64 s.n, .slice C m3 d3, .slice C' m3' d3']] W fun e w' => e = .returned (.int .i64 F) ∧ Below W.heap.size W w' := fun W h => by
      have hs := h.size
      have := rcheck_any (r := s) (hS6.b3.below h (by omega)) (hS6.b4.below h (by omega)) (by omega) (by omega)
      rwa [HE2.out] at this
    have k8_ : ∀ W, Below W6.heap.size W6 W → Calls Try.prog 28 #[.agg #[.int .i64 s.num, .int .i64 s.wire, .int .u64 s.n, .slice D m5 d5, .slice D' m5' d5'], .agg #[.int .i64 s.num, .int .i64 s.wire, .int .u64 s.n, .slice B m d, .slice B' m' d']] W fun e w' => e = .returned (.bool true) ∧ Below W.heap.size W w' := fun W h => by
      have hs := h.size
      have := same_any (r := s) (s := s) (hcB.below h (by omega)) (hcR.below h (by omega)) (hS6.b1.below h (by omega)) (hS6.b2.below h (by omega)) (by omega) (by omega)
      rwa [rcEq_refl] at this
    obtain ⟨⟨x0, x1, x2, x3, x4⟩, _⟩ := hS6.bx.five
    replace x0 := cell_regrown x0
    replace x1 := cell_regrown x1
    replace x2 := cell_regrown x2
    replace x3 := cell_regrown x3
    replace x4 := cell_regrown x4
    obtain ⟨⟨y0, y1, y2, y3, y4⟩, _⟩ := hS6.by_.five
    replace y0 := cell_regrown y0
    replace y1 := cell_regrown y1
    replace y2 := cell_regrown y2
    replace y3 := cell_regrown y3
    replace y4 := cell_regrown y4
    obtain ⟨⟨u0, u1, u2, u3, u4⟩, _⟩ := hblC.five
    replace u0 := cell_regrown u0
    replace u1 := cell_regrown u1
    replace u2 := cell_regrown u2
    replace u3 := cell_regrown u3
    replace u4 := cell_regrown u4
    obtain ⟨⟨z0, z1, z2, z3, z4⟩, _⟩ := hblZ.five
    replace z0 := cell_regrown z0
    replace z1 := cell_regrown z1
    replace z2 := cell_regrown z2
    replace z3 := cell_regrown z3
    replace z4 := cell_regrown z4
    have c1_ := fun d os => Calls.regrown_of (k1_ _ (below_regrown W6 d os))
    have c2_ := fun d os => Calls.regrown_of (k2_ _ (below_regrown W6 d os))
    have c3_ := fun d os => Calls.regrown_of (k3_ _ (below_regrown W6 d os))
    have c4_ := fun d os => Calls.regrown_of (k4_ _ (below_regrown W6 d os))
    have c5_ := fun d os => Calls.regrown_of (k5_ _ (below_regrown W6 d os))
    have c6_ := fun d os => Calls.regrown_of (k6_ _ (below_regrown W6 d os))
    have c7_ := fun d os => Calls.regrown_of (k7_ _ (below_regrown W6 d os))
    have c8_ := fun d os => Calls.regrown_of (k8_ _ (below_regrown W6 d os))
    clear k1_ k2_ k3_ k4_ k5_ k6_ k7_ k8_ hS6 hW6 hzB hcB hcR hblC hblZ hIB hIR hb6 HQ HE1 HE2 HBb HLk HC HR HIn hlB hlr hlr2 hs1 hs3 hs4 hs5 hz0 hz2 hz3 hz6 hw6 hrl hk hk1 hn
    refine wp_region_quiet_below (by kernel_rfl) (by kernel_rfl) ?_
    repeat (first | go_big_quiet_step (first | (with_reducible exact c1_ _ _) | (with_reducible exact c2_ _ _) | (with_reducible exact c3_ _ _) | (with_reducible exact c4_ _ _) | (with_reducible exact c5_ _ _) | (with_reducible exact c6_ _ _) | (with_reducible exact c7_ _ _) | (with_reducible exact c8_ _ _)) | quiet_step (first | (with_reducible exact c1_ _ _) | (with_reducible exact c2_ _ _) | (with_reducible exact c3_ _ _) | (with_reducible exact c4_ _ _) | (with_reducible exact c5_ _ _) | (with_reducible exact c6_ _ _) | (with_reducible exact c7_ _ _) | (with_reducible exact c8_ _ _)))
    refine wpQuiet_nil ?_
    intro _ hw'
    obtain ⟨⟨dq, osq⟩, hw''⟩ := hw'
    subst hw''
    have hbq := below_regrown W6 dq osq
    go_wp2_with fail
    go_meet
    case rel => exact ⟨rfl, hbq⟩
  case rest =>
    obtain ⟨rfl, hbq⟩ := hcut
    have hw6 := hW6.size
    have hsq := hbq.size
    have hm5 : m5 ≤ 400 := by have := hcB.len; omega
    have hSq := Lib.hid (hS6.kept (.of_below hbq (by omega)))
    have hWq := hW6.trans (hbq.mono (by omega))
    have hIq := Lib.hid (hIB.out.below (hbq.mono (by omega)))
    have hJq := Lib.hid (hIR.out.below (hbq.mono (by omega)))
    have hCq := hblC.below hbq (by omega)
    clear hS6 hW6 hIB hIR hblC hblZ hbq hcB hcR hzB HQ HE1 HE2 hqq hee hff hb6 HBb HLk HC HR HIn
    go_wp2_with fail
    go_loopw [14] (fun j wr => ∃ i : Nat, j = .int .i64 i ∧ i ≤ m5 ∧ Kept w1.heap.size w4.heap.size wc wr ∧ InB wr w4.heap.size w5.heap.size D m5 ∧ InB wr w4.heap.size w5.heap.size D' m5' ∧ Blk wr w5.heap.size 34 #[.int .i64 s.num, .int .i64 s.wire, .int .u64 s.n, .slice D m5 d5, .slice D' m5' d5'] ∧ Below w.heap.size w wr ∧ w5.heap.size + 2 ≤ wr.heap.size) (fun j _ => m5 - (intOf j).toNat)
    case atStart => exact ⟨0, rfl, by omega, Kept.refl _ _ _, hIq.out, hJq.out, hCq, hWq, by omega⟩
    case round =>
      obtain ⟨i, rfl, hin, hkp, hInr, hJnr, hCr, hWr, hsr⟩ := hrel
      clear hIq hJq hCq hWq
      obtain ⟨⟨u0, u1, u2, u3, u4⟩, _⟩ := hCr.five
      by_cases hlt : i < m5
      · rcases hInr with h0 | ⟨g, cur, rfl, hg1, hg2, hbl, hx⟩
        · omega
        obtain ⟨x, hx'⟩ := hx i hlt
        have hc := (hbl.cell i).trans hx'
        have hfr := hbl.frozen i
        have HI := Lib.hid (show InB wr w4.heap.size w5.heap.size (some ⟨g, 0, none⟩) m5 from .inr ⟨g, cur, rfl, hg1, hg2, hbl, hx⟩)
        have HJ := Lib.hid hJnr
        have HCr := Lib.hid hCr
        have hi0' : (0 : Int) ≤ (i : Int) := by omega
        have hi1' : (i : Int) < (m5 : Int) := by omega
        clear hx hx' hbl hJnr hCr
        go_wp2_with fail
        go_region
        all_goals
          go_wp2_with fail
          go_roundw
          case rel =>
            exact ⟨i + 1, by go_num, by omega, hkp.setCell (.inr hg1) _, HI.out.set g i _, HJ.out.set g i _, HCr.out.far (by simp; omega) _, (hWr.setCell (p := ⟨g, i, none⟩) (Nat.le_trans (by omega) hg1) _).drew, by simpa using hsr⟩
          case measure => simp [intOf]; omega
      · go_wp2_with fail
        go_loopw [15] (fun j wq => ∃ i : Nat, j = .int .i64 i ∧ i ≤ m5' ∧ Kept w1.heap.size w4.heap.size wc wq ∧ InB wq w4.heap.size w5.heap.size D' m5' ∧ Blk wq w5.heap.size 34 #[.int .i64 s.num, .int .i64 s.wire, .int .u64 s.n, .slice D m5 d5, .slice D' m5' d5'] ∧ Below w.heap.size w wq ∧ w5.heap.size + 2 ≤ wq.heap.size) (fun j _ => m5' - (intOf j).toNat)
        case atStart => exact ⟨0, rfl, by omega, hkp, hJnr, hCr, hWr, hsr⟩
        case round =>
          obtain ⟨i2, rfl, hin2, hkp2, hJ2, hC2, hW2_, hs2_⟩ := hrel
          clear u0 u1 u2 u3 u4 hkp hInr hJnr hCr hWr hsr
          obtain ⟨⟨u0, u1, u2, u3, u4⟩, _⟩ := hC2.five
          by_cases hlt2 : i2 < m5'
          · rcases hJ2 with h0 | ⟨g, cur, rfl, hg1, hg2, hbl, hx⟩
            · omega
            obtain ⟨x, hx'⟩ := hx i2 hlt2
            have hc := (hbl.cell i2).trans hx'
            have hfr := hbl.frozen i2
            have HJ := Lib.hid (show InB wr w4.heap.size w5.heap.size (some ⟨g, 0, none⟩) m5' from .inr ⟨g, cur, rfl, hg1, hg2, hbl, hx⟩)
            have HCr := Lib.hid hC2
            have hi0' : (0 : Int) ≤ (i2 : Int) := by omega
            have hi1' : (i2 : Int) < (m5' : Int) := by omega
            clear hx hx' hbl hC2
            go_wp2_with fail
            go_region
            all_goals
              go_wp2_with fail
              go_roundw
              case rel =>
                exact ⟨i2 + 1, by go_num, by omega, hkp2.setCell (.inr hg1) _, HJ.out.set g i2 _, HCr.out.far (by simp; omega) _, (hW2_.setCell (p := ⟨g, i2, none⟩) (Nat.le_trans (by omega) hg1) _).drew, by simpa using hs2_⟩
              case measure => simp [intOf]; omega
          · have hS8 := hSq.out.kept (hkp2.mono (Nat.le_refl _) (by omega))
            obtain ⟨⟨d0, d1, d2, d3_, d4⟩, _⟩ := hS8.bx.five
            obtain ⟨⟨e0, e1, e2, e3, e4⟩, _⟩ := hS8.by_.five
            go_wp2_with fail
            refine (hS8.rsame (by omega)).mono ?_
            rintro x w8 ⟨rfl, hb8⟩
            have hW8 := hW2_.trans (hb8.mono hW2_.size)
            clear d0 d1 d2 d3_ d4 e0 e1 e2 e3 e4 hS8
            go_wp2_with fail
            refine (works_any _).mono ?_
            rintro x w10 ⟨rfl, hb10⟩
            have hW10 := hW8.trans (hb10.mono hW8.size)
            go_wp2
            go_ret
            exact ⟨rfl, hW10⟩

theorem makes_any {w : World} {n c nn : Nat} {a0 a1 : Int} {A : Option Addr} {l : List UInt8} (hB : Bs w 0 w.heap.size A n c l) (hn : (nn : Int) ≤ 18446744073709551615) :
    Calls Try.prog 4 #[.agg #[.int .i64 a0, .int .i64 a1], .int .u64 nn, .slice A n c] w fun e w' => e = .returned (.bool true) ∧ Below w.heap.size w w' := by
  obtain ⟨k, L, hk, hL, hcut⟩ := cut_any hB
  exact makes_core hL hk hcut hn
end Go.Proofs.Ytlckppmggklinaa
