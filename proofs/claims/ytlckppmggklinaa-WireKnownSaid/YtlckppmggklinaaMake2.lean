/-
  Make, of numbers in eight and four bytes.
-/
import Derived.Test.YtlckppmggklinaaMake
namespace Go.Proofs.Ytlckppmggklinaa
open Go.RowKit
set_option linter.unusedVariables false

theorem appendFixed8 (base : Nat) (v : Value) (xs : List UInt8) (n : Nat) (w : World) (h1 : (n : Int) ≤ 18446744073709551615) (hown : Own w base v xs) (hl : xs.length ≤ 1073741824) (hb : base ≤ w.heap.size) :
    Calls Try.prog 45 #[v, .int .u64 n, .int .i64 8] w (AppVar w base v (xs ++ fixB 8 n)) := appendFixed_nat base v xs n 8 w h1 hown hl (by omega) hb
theorem appendFixed4 (base : Nat) (v : Value) (xs : List UInt8) (n : Nat) (w : World) (h1 : (n : Int) ≤ 18446744073709551615) (hown : Own w base v xs) (hl : xs.length ≤ 1073741824) (hb : base ≤ w.heap.size) :
    Calls Try.prog 45 #[v, .int .u64 n, .int .i64 4] w (AppVar w base v (xs ++ fixB 4 n)) := appendFixed_nat base v xs n 4 w h1 hown hl (by omega) hb

set_option maxRecDepth 100000 in
set_option maxHeartbeats 1000000 in
theorem make_1 {w : World} {lo hi m c n : Nat} {num : Int} {A : Option Addr} {b : List UInt8} (hB : Bs w lo hi A m c b) (h1 : 1 ≤ num) (h2 : num ≤ 536870911) (hn : (n : Int) ≤ 18446744073709551615) :
    Calls Try.prog 24 #[.int .i64 num, .int .i64 1, .int .u64 n, .slice A m c] w (MakeP w (mkR num 1 n b)) := by
  have hl := hB.len
  have hm := fun W => mayBe_any num 1 n m W
  have hE : mayE num 1 n m = 0 := by simp [mayE]; omega
  have hR : mkR num 1 n b = (0, ⟨num, 1, n, [], Lib.uvarint (8 * num + 1).toNat ++ fixB 8 n⟩) := by
    unfold mkR; rw [hl, hE]; simp [mkRaw]
  rw [hE] at hm
  rw [hR]
  have ho := tag_or num 1 h1 h2 (by omega)
  have ho' : bits .or .u64 (num * 8) 1 = 8 * num + 1 := by simpa using ho
  have HM := Lib.hid hm
  have htl := Lib.uvarint_length64 (x := (8 * num + 1).toNat) (by omega)
  have hT := tagC (8 * num + 1) (by omega) (by omega)
  generalize Lib.uvarint (8 * num + 1).toNat = T at *
  have HT := Lib.hid hT
  clear hm hE hR ho hT hl hB
  go_enter Try.func24, Try.ntmps24
  go_wp2_with fail
  refine (HM.out _).mono ?_
  rintro e w1 ⟨rfl, rfl⟩
  go_wp2_with fail
  refine (HT.out _ (w.heap.size + 1) (by simp)).mono ?_
  rintro e w1 ⟨v1, rfl, hown1, hgrow1⟩
  obtain ⟨A1, k1, c1, rfl⟩ := hown1.val
  go_wp2_with fail
  refine (appendFixed8 (w.heap.size + 1) _ T n _ hn (hown1.alloc _) (by omega) (by have := (mk_first hgrow1).1; simp; omega)).mono ?_
  rintro e w2 ⟨v2, rfl, hown2, hgrow2⟩
  obtain ⟨A2, k2, c2, rfl⟩ := hown2.val
  obtain ⟨hq, hh⟩ := mk_blks hown1 (mk_first hgrow1).1 (mk_first hgrow1).2.1 hgrow2
  obtain ⟨⟨a0, a1, a2, a3, a4⟩, ⟨b0, b1, b2, b3, b4⟩⟩ := hq.five
  obtain ⟨⟨d0, d1, d2, d3, d4⟩, ⟨f0, f1, f2, f3, f4⟩⟩ := hh.five
  have hlt := (mk_first hgrow1).1
  have HF := Lib.hid (mk_fin_n (n := n) hown1 hgrow1 hgrow2 hown2)
  clear hq hh hown1 hown2 hgrow1 hgrow2
  go_wp2
  exact bodyPost_ret (results_rec Try.results24 _ _ w.heap.size _ _ _ _ _ rfl HF.out.end_.1) rfl HF.out.end_.2

set_option maxRecDepth 100000 in
set_option maxHeartbeats 1000000 in
theorem make_5 {w : World} {lo hi m c n : Nat} {num : Int} {A : Option Addr} {b : List UInt8} (hB : Bs w lo hi A m c b) (h1 : 1 ≤ num) (h2 : num ≤ 536870911) (hn : (n : Int) < 4294967296) :
    Calls Try.prog 24 #[.int .i64 num, .int .i64 5, .int .u64 n, .slice A m c] w (MakeP w (mkR num 5 n b)) := by
  have hl := hB.len
  have hm := fun W => mayBe_any num 5 n m W
  have hE : mayE num 5 n m = 0 := by simp [mayE]; omega
  have hR : mkR num 5 n b = (0, ⟨num, 5, n, [], Lib.uvarint (8 * num + 5).toNat ++ fixB 4 n⟩) := by
    unfold mkR; rw [hl, hE]; simp [mkRaw]
  rw [hE] at hm
  rw [hR]
  have ho := tag_or num 5 h1 h2 (by omega)
  have ho' : bits .or .u64 (num * 8) 5 = 8 * num + 5 := by simpa using ho
  have HM := Lib.hid hm
  have htl := Lib.uvarint_length64 (x := (8 * num + 5).toNat) (by omega)
  have hT := tagC (8 * num + 5) (by omega) (by omega)
  generalize Lib.uvarint (8 * num + 5).toNat = T at *
  have HT := Lib.hid hT
  clear hm hE hR ho hT hl hB
  go_enter Try.func24, Try.ntmps24
  go_wp2_with fail
  refine (HM.out _).mono ?_
  rintro e w1 ⟨rfl, rfl⟩
  go_wp2_with fail
  refine (HT.out _ (w.heap.size + 1) (by simp)).mono ?_
  rintro e w1 ⟨v1, rfl, hown1, hgrow1⟩
  obtain ⟨A1, k1, c1, rfl⟩ := hown1.val
  go_wp2_with fail
  refine (appendFixed4 (w.heap.size + 1) _ T n _ (by omega) (hown1.alloc _) (by omega) (by have := (mk_first hgrow1).1; simp; omega)).mono ?_
  rintro e w2 ⟨v2, rfl, hown2, hgrow2⟩
  obtain ⟨A2, k2, c2, rfl⟩ := hown2.val
  obtain ⟨hq, hh⟩ := mk_blks hown1 (mk_first hgrow1).1 (mk_first hgrow1).2.1 hgrow2
  obtain ⟨⟨a0, a1, a2, a3, a4⟩, ⟨b0, b1, b2, b3, b4⟩⟩ := hq.five
  obtain ⟨⟨d0, d1, d2, d3, d4⟩, ⟨f0, f1, f2, f3, f4⟩⟩ := hh.five
  have hlt := (mk_first hgrow1).1
  have HF := Lib.hid (mk_fin_n (n := n) hown1 hgrow1 hgrow2 hown2)
  clear hq hh hown1 hown2 hgrow1 hgrow2
  go_wp2
  exact bodyPost_ret (results_rec Try.results24 _ _ w.heap.size _ _ _ _ _ rfl HF.out.end_.1) rfl HF.out.end_.2
end Go.Proofs.Ytlckppmggklinaa
