/-
  The document's answer: Make, of bytes; Make, of whatever it is handed.
-/
import Derived.Test.YtlckppmggklinaaRMake
namespace Go.Proofs.Ytlckppmggklinaa
open Go.RowKit
set_option linter.unusedVariables false
attribute [local go_sem ↓] Go.wp_at_zero Go.wp_at_succ

set_option maxRecDepth 100000 in
set_option maxHeartbeats 2000000 in
theorem rmake_2 {w : World} {lo hi m c n : Nat} {num : Int} {A : Option Addr} {b : List UInt8} (hB : Bs w lo hi A m c b) (hhi : hi ≤ w.heap.size) (h1 : 1 ≤ num) (h2 : num ≤ 536870911) (hn : m ≤ 1048576) :
    Calls Try.prog 25 #[.int .i64 num, .int .i64 2, .int .u64 n, .slice A m c] w (MakeP w (mkR num 2 n b)) := by
  have hl := hB.len
  have hE : mayE num 2 n m = 0 := by simp [mayE]; omega
  have hR : mkR num 2 n b = (0, ⟨num, 2, 0, b, Lib.uvarint (8 * num + 2).toNat ++ (Lib.uvarint m ++ b)⟩) := by
    unfold mkR; rw [hl, hE]; simp [mkRaw, hl]
  rw [hR]
  have htl := Lib.uvarint_length64 (x := (8 * num + 2).toNat) (by omega)
  have HT := Lib.hid (fun W => rtag (8 * num + 2) (by omega) (by omega) W)
  generalize Lib.uvarint (8 * num + 2).toNat = T at *
  have HTl := Lib.hid htl
  have hml := Lib.uvarint_length64 (x := m) (by omega)
  have HTm := Lib.hid (show (T ++ Lib.uvarint m).length ≤ 20 by simp; omega)
  have HBs := Lib.hid (fun (W : World) (h : Below w.heap.size w W) => hB.below h hhi)
  have HBl := Lib.hid hl
  clear hE hR hl hB htl hml
  obtain ⟨i0, hi0, hz0, hz1, hz2⟩ := info_parts Try.info5
  have g5 : ¬ (1048576 : Int) < (m : Int) := by omega
  have g1 : ¬ num < 1 := by omega
  have g2 : ¬ 536870911 < num := by omega
  go_enter Try.func25, Try.ntmps25
  go_wp2_with fail
  refine (HT.out _).mono ?_
  rintro e w1 ⟨v1, rfl, ho1, hb1⟩
  obtain ⟨A1, k1, c1, rfl⟩ := ho1.val
  have hs := (RnS.start w num 2 0 (.slice none 0 0)).new hb1
  have hz : ((w.alloc (.cells #[.int .i64 0, .int .i64 0, .int .u64 0, .slice none 0 0, .slice none 0 0] 34)).alloc (.cells #[.int .i64 num, .int .i64 2, .int .u64 0, .slice none 0 0, .slice none 0 0] 34)).heap.size = w.heap.size + 2 := by simp
  rw [hz] at ho1
  obtain ⟨⟨d0, d1, d2, d3, d4⟩, ⟨e0, e1, e2, e3, e4⟩⟩ := hs.rec_.five
  have hwm : IntKind.u64.wrap (m : Int) = (m : Int) := by rw [IntKind.wrap_u64]; omega
  clear hb1 hz
  go_wp2_with fail
  refine (copyBytes_any (HBs.out _ hs.bel) (by have := HBl.out; omega)).mono ?_
  rintro e w2 ⟨v2, rfl, ho2, hb2⟩
  obtain ⟨A2, k2, c2, rfl⟩ := ho2.val
  have hs2 := hs.new hb2
  have hz3 := hs.rec_.lt
  have hs2z := hb2.size
  have hob := (ho2.base_ (base' := w.heap.size + 2) (by omega)).setCell (p := ⟨w.heap.size + 1, 3, none⟩) (fun e => by have := (ho2.lt e).1; simp at this; omega) (.slice A2 k2 c2)
  have hot0 := ho1.kept fun g hg => hb2.block g (ho1.lt hg).2
  have hot := hot0.setCell (p := ⟨w.heap.size + 1, 3, none⟩) (fun e => by have := (hot0.lt e).1; simp at this) (.slice A2 k2 c2)
  have hs3 := hs2.setB (.slice A2 k2 c2)
  clear d0 d1 d2 d3 d4 e0 e1 e2 e3 e4
  obtain ⟨⟨d0, d1, d2, d3, d4⟩, ⟨e0, e1, e2, e3, e4⟩⟩ := hs2.rec_.five
  clear hs hs2 ho1 ho2 hb2 hot0
  go_wp2_with fail
  refine (rvar_nat m (by omega) hot.toBs (by have := HTl.out; omega)).mono ?_
  rintro e w3 ⟨v3, rfl, ho3, hb3⟩
  obtain ⟨A3, k3, c3, rfl⟩ := ho3.val
  have hs4 := hs3.new hb3
  have hob2 := hob.kept fun g hg => hb3.block g (hob.lt hg).2
  have hz5 := hs3.rec_.lt
  have hz6 := hb3.size
  have hz4 := hs4.rec_.lt
  have hot3 := ho3.base_ (base' := w.heap.size + 2) (by omega)
  have hnq : ∀ g, Value.ownBlock (.slice A2 k2 c2) = some g → Value.ownBlock (.slice A3 k3 c3) ≠ some g := fun g e e' => by have := (hob.lt e).2; have := (ho3.lt e').1; omega
  clear d0 d1 d2 d3 d4 e0 e1 e2 e3 e4 hs3 hob hot hb3 ho3
  go_wp2_with (at_builtin; refine wpList_append_bs _ rfl _ _ 22 rfl i0 Try.underlying22 hi0 hz0 hz1 hz2 (w.heap.size + 2) _ _ rfl hot3 _ _ _ _ _ _ rfl (HBs.out _ hs4.bel) (by have := HTm.out; omega) (by omega) ?_; intro v4 w4 ho4 hg4; obtain ⟨A4, k4, c4, rfl⟩ := ho4.val; have hs5 := hs4.app hot3 hg4; obtain ⟨⟨d0, d1, d2, d3, d4⟩, ⟨e0, e1, e2, e3, e4⟩⟩ := hs5.rec_.five; obtain ⟨⟨r0, r1, r2, r3, r4⟩, ⟨q0, q1, q2, q3, q4⟩⟩ := hs5.res.five; have HF := Lib.hid (hs5.fin2 (hob2.grown hg4.1 (fun g e e' => hnq g e' e)) ho4); rw [List.append_assoc] at HF; clear hs4 hs5 hot3 ho4 hg4 hob2 hnq)
  exact bodyPost_ret (results_rec Try.results25 _ _ w.heap.size _ _ _ _ _ rfl HF.out.end_.1) rfl HF.out.end_.2

set_option maxRecDepth 100000 in
set_option maxHeartbeats 2000000 in
theorem rmake_long {w : World} {lo hi m c n : Nat} {num : Int} {A : Option Addr} {b : List UInt8} (hB : Bs w lo hi A m c b) (h1 : 1 ≤ num) (h2 : num ≤ 536870911) (h5 : 1048576 < m) :
    Calls Try.prog 25 #[.int .i64 num, .int .i64 2, .int .u64 n, .slice A m c] w (MakeP w (mkR num 2 n b)) := by
  have hl := hB.len
  have HE := Lib.hid (show mayE num 2 n b.length = 5 by unfold mayE; rw [if_neg (by omega), if_neg (by omega)]; simp; omega)
  have HT := Lib.hid (fun W => rtag (8 * num + 2) (by omega) (by omega) W)
  have g5 : (1048576 : Int) < (m : Int) := by omega
  clear hl hB
  have g1 : ¬ num < 1 := by omega
  have g2 : ¬ 536870911 < num := by omega
  go_enter Try.func25, Try.ntmps25
  go_wp2_with fail
  refine (HT.out _).mono ?_
  rintro e w1 ⟨v1, rfl, ho1, hb1⟩
  obtain ⟨A1, k1, c1, rfl⟩ := ho1.val
  have hs := (RnS.start w num 2 0 (.slice none 0 0)).new hb1
  have hz : ((w.alloc (.cells #[.int .i64 0, .int .i64 0, .int .u64 0, .slice none 0 0, .slice none 0 0] 34)).alloc (.cells #[.int .i64 num, .int .i64 2, .int .u64 0, .slice none 0 0, .slice none 0 0] 34)).heap.size = w.heap.size + 2 := by simp
  rw [hz] at ho1
  obtain ⟨⟨d0, d1, d2, d3, d4⟩, ⟨e0, e1, e2, e3, e4⟩⟩ := hs.rec_.five
  obtain ⟨⟨r0, r1, r2, r3, r4⟩, ⟨q0, q1, q2, q3, q4⟩⟩ := hs.res.five
  have HS := Lib.hid hs
  clear hs hb1 ho1 hz
  go_wp2
  exact bodyPost_ret (results_rec Try.results25 _ _ w.heap.size _ _ _ _ _ rfl (HS.out.err HE.out (by decide)).1) rfl (HS.out.err HE.out (by decide)).2

set_option maxRecDepth 100000 in
set_option maxHeartbeats 2000000 in
theorem rmake_big {w : World} {lo hi m c n : Nat} {num : Int} {A : Option Addr} {b : List UInt8} (hB : Bs w lo hi A m c b) (h1 : 1 ≤ num) (h2 : num ≤ 536870911) (h5 : 4294967296 ≤ (n : Int)) :
    Calls Try.prog 25 #[.int .i64 num, .int .i64 5, .int .u64 n, .slice A m c] w (MakeP w (mkR num 5 n b)) := by
  have hl := hB.len
  have HE := Lib.hid (show mayE num 5 n b.length = 9 by unfold mayE; rw [if_neg (by omega), if_neg (by omega)]; simp; omega)
  have HT := Lib.hid (fun W => rtag (8 * num + 5) (by omega) (by omega) W)
  obtain ⟨z, hzn⟩ : ∃ z : Int, z = n := ⟨_, rfl⟩
  have g5 : 4294967296 ≤ z := by omega
  obtain ⟨R, hRR⟩ : ∃ R, R = mkR num 5 n b := ⟨_, rfl⟩
  have HZ := Lib.hid (show Value.int .u64 n = .int .u64 z by rw [hzn])
  rw [HZ.out]
  clear h5 hzn hRR
  clear hl hB
  have g1 : ¬ num < 1 := by omega
  have g2 : ¬ 536870911 < num := by omega
  go_enter Try.func25, Try.ntmps25
  go_wp2_with fail
  refine (HT.out _).mono ?_
  rintro e w1 ⟨v1, rfl, ho1, hb1⟩
  obtain ⟨A1, k1, c1, rfl⟩ := ho1.val
  have hs := (RnS.start w num 5 0 (.slice none 0 0)).new hb1
  have hz : ((w.alloc (.cells #[.int .i64 0, .int .i64 0, .int .u64 0, .slice none 0 0, .slice none 0 0] 34)).alloc (.cells #[.int .i64 num, .int .i64 5, .int .u64 0, .slice none 0 0, .slice none 0 0] 34)).heap.size = w.heap.size + 2 := by simp
  rw [hz] at ho1
  obtain ⟨⟨d0, d1, d2, d3, d4⟩, ⟨e0, e1, e2, e3, e4⟩⟩ := hs.rec_.five
  obtain ⟨⟨r0, r1, r2, r3, r4⟩, ⟨q0, q1, q2, q3, q4⟩⟩ := hs.res.five
  have HS := Lib.hid hs
  clear hs hb1 ho1 hz
  go_wp2
  exact bodyPost_ret (results_rec Try.results25 _ _ w.heap.size _ _ _ _ _ rfl (HS.out.err HE.out (by decide)).1) rfl (HS.out.err HE.out (by decide)).2
end Go.Proofs.Ytlckppmggklinaa
