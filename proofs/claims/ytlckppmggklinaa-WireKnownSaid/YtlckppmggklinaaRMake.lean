/-
  The document's answer: Make.
-/
import Derived.Test.YtlckppmggklinaaRCheck
namespace Go.Proofs.Ytlckppmggklinaa
open Go.RowKit
set_option linter.unusedVariables false
attribute [local go_sem ↓] Go.wp_at_zero Go.wp_at_succ

theorem RnS.app {w W W' : World} {num wire : Int} {N : Nat} {vb vt v' : Value} {T : List UInt8} (h : RnS w W num wire N vb) (ot : Own W (w.heap.size + 2) vt T) (hg : Grew W W' vt v') : RnS w W' num wire N vb :=
  ⟨h.res.grown hg.1 (fun e => by have := (ot.lt e.symm).1; omega), h.rec_.grown hg.1 (fun e => by have := (ot.lt e.symm).1; omega), h.bel.trans (hg.below h.bel.size (fun g e => by have := (ot.lt e).1; omega))⟩
theorem RnS.fin2 {w W : World} {num wire : Int} {N : Nat} {vb v2 : Value} {bb raw : List UInt8} (h : RnS w W num wire N vb) (ob : Own W (w.heap.size + 2) vb bb) (o2 : Own W (w.heap.size + 2) v2 raw) :
    MkFin w (W.setCell ⟨w.heap.size + 1, 4, none⟩ v2) (w.heap.size + 1) ⟨num, wire, N, bb, raw⟩ vb v2 := by
  have n1 : vb.ownBlock ≠ some (w.heap.size + 1) := fun e => by have := (ob.lt e).1; omega
  have n2 : v2.ownBlock ≠ some (w.heap.size + 1) := fun e => by have := (o2.lt e).1; omega
  refine ⟨?_, h.res.far (by simp) _, (ob.base_ (by omega)).setCell (p := ⟨w.heap.size + 1, 4, none⟩) n1 _, (o2.base_ (by omega)).setCell (p := ⟨w.heap.size + 1, 4, none⟩) n2 _, h.bel.setCell (by simp) _, by omega⟩
  have := h.rec_.set_ 4 v2
  exact this
theorem RnS.err {w W : World} {num wire : Int} {N : Nat} {vb : Value} {nn : Nat} {e : Int} {b : List UInt8} (h : RnS w W num wire N vb) (he : mayE num wire nn b.length = e) (h0 : e ≠ 0) :
    Blk (set5 W w.heap.size (.int .i64 0) (.int .i64 0) (.int .u64 0) (.slice none 0 0) (.slice none 0 0)) w.heap.size 34 #[.int .i64 0, .int .i64 0, .int .u64 0, .slice none 0 0, .slice none 0 0] ∧
    MakeP w (mkR num wire nn b) (.returned (.tuple #[.agg #[.int .i64 0, .int .i64 0, .int .u64 0, .slice none 0 0, .slice none 0 0], .int .i64 e])) (set5 W w.heap.size (.int .i64 0) (.int .i64 0) (.int .u64 0) (.slice none 0 0) (.slice none 0 0)) := by
  have hm : mkR num wire nn b = (e, .zero) := by unfold mkR; rw [he, if_pos h0]
  rw [hm]
  refine ⟨h.res.set5 _ _ _ _ _, _, rfl, ⟨_, _, rfl, Own.nil _ _, Own.nil _ _⟩, ?_⟩
  unfold set5
  exact ((((h.bel.setCell (by simp) _).setCell (by simp) _).setCell (by simp) _).setCell (by simp) _).setCell (by simp) _

theorem rtag (t : Int) (h0 : 0 ≤ t) (h1 : t ≤ 18446744073709551615) (W : World) : Calls Try.prog 15 #[.slice none 0 0, .int .u64 t] W (Fresh W (Lib.uvarint t.toNat)) := by
  have := rvar_any (w := W) (lo := 0) (hi := 0) (A := none) (n := 0) (c := 0) (l := []) t h0 h1 (Bs.none_ _ _ _ _ (by unfold maxLen; omega)) (by simp)
  simpa using this
theorem rvar_nat {w : World} {lo hi n c : Nat} {A : Option Addr} {l : List UInt8} (m : Nat) (h1 : (m : Int) ≤ 18446744073709551615) (h : Bs w lo hi A n c l) (hl : l.length ≤ 1000000000) :
    Calls Try.prog 15 #[.slice A n c, .int .u64 m] w (Fresh w (l ++ Lib.uvarint m)) := by
  have := rvar_any (m : Int) (by omega) h1 h hl
  rwa [Int.toNat_natCast] at this
theorem rfixed_nat (n k : Nat) (w : World) (h1 : (n : Int) ≤ 18446744073709551615) (hk : k ≤ 8) : Calls Try.prog 47 #[.int .u64 n, .int .i64 k] w (Fresh w (fixB k n)) := by
  have := rfixed_any (n : Int) k w (by omega) h1 hk
  rwa [Int.toNat_natCast] at this

set_option maxRecDepth 100000 in
set_option maxHeartbeats 1000000 in
theorem rmake_num {w : World} {lo hi m c n : Nat} {num wire : Int} {A : Option Addr} {b : List UInt8} (hB : Bs w lo hi A m c b) (h : num < 1 ∨ 536870911 < num) :
    Calls Try.prog 25 #[.int .i64 num, .int .i64 wire, .int .u64 n, .slice A m c] w (MakeP w (mkR num wire n b)) := by
  have HE := Lib.hid (show mayE num wire n b.length = 9 by unfold mayE; rcases h with h | h <;> simp [h])
  clear hB
  by_cases h1 : num < 1
  · go_enter Try.func25, Try.ntmps25
    go_wp2
    exact bodyPost_ret (results_rec Try.results25 _ _ w.heap.size _ _ _ _ _ rfl (Blk.new _ _ _)) rfl (make_err_end HE.out (by decide))
  · have h2 : 536870911 < num := by omega
    go_enter Try.func25, Try.ntmps25
    go_wp2
    exact bodyPost_ret (results_rec Try.results25 _ _ w.heap.size _ _ _ _ _ rfl (Blk.new _ _ _)) rfl (make_err_end HE.out (by decide))


set_option maxRecDepth 100000 in
set_option maxHeartbeats 1000000 in
theorem rmake_0 {w : World} {lo hi m c n : Nat} {num : Int} {A : Option Addr} {b : List UInt8} (hB : Bs w lo hi A m c b) (h1 : 1 ≤ num) (h2 : num ≤ 536870911) (hn : (n : Int) ≤ 18446744073709551615) :
    Calls Try.prog 25 #[.int .i64 num, .int .i64 0, .int .u64 n, .slice A m c] w (MakeP w (mkR num 0 n b)) := by
  have hl := hB.len
  have hE : mayE num 0 n m = 0 := by simp [mayE]; omega
  have hR : mkR num 0 n b = (0, ⟨num, 0, n, [], Lib.uvarint (8 * num).toNat ++ Lib.uvarint n⟩) := by
    unfold mkR; rw [hl, hE]; simp [mkRaw]
  rw [hR]
  have htl := Lib.uvarint_length64 (x := (8 * num).toNat) (by omega)
  have HT := Lib.hid (fun W => rtag (8 * num) (by omega) (by omega) W)
  generalize Lib.uvarint (8 * num).toNat = T at *
  have HTl := Lib.hid htl
  clear hE hR hl hB htl
  have g1 : ¬ num < 1 := by omega
  have g2 : ¬ 536870911 < num := by omega
  go_enter Try.func25, Try.ntmps25
  go_wp2_with fail
  refine (HT.out _).mono ?_
  rintro e w1 ⟨v1, rfl, ho1, hb1⟩
  obtain ⟨A1, k1, c1, rfl⟩ := ho1.val
  have hs := (RnS.start w num 0 0 (.slice none 0 0)).new hb1
  have hz : ((w.alloc (.cells #[.int .i64 0, .int .i64 0, .int .u64 0, .slice none 0 0, .slice none 0 0] 34)).alloc (.cells #[.int .i64 num, .int .i64 0, .int .u64 0, .slice none 0 0, .slice none 0 0] 34)).heap.size = w.heap.size + 2 := by simp
  rw [hz] at ho1
  obtain ⟨⟨d0, d1, d2, d3, d4⟩, ⟨e0, e1, e2, e3, e4⟩⟩ := hs.rec_.five
  have hs2 := hs.setN n rfl
  have hbt := ho1.toBs.setCell (p := ⟨w.heap.size + 1, 2, none⟩) (.inl (by simp)) (.int .u64 n)
  clear hs ho1 hb1 hz
  go_wp2_with fail
  refine (rvar_nat n hn hbt (by have := HTl.out; omega)).mono ?_
  rintro e w2 ⟨v2, rfl, ho2, hb2⟩
  obtain ⟨A2, k2, c2, rfl⟩ := ho2.val
  have HF := Lib.hid (hs2.fin (Own.nil _ _) (by simp [Value.ownBlock]) hb2 ho2)
  have hs3 := hs2.new hb2
  clear d0 d1 d2 d3 d4 e0 e1 e2 e3 e4
  obtain ⟨⟨d0, d1, d2, d3, d4⟩, ⟨e0, e1, e2, e3, e4⟩⟩ := hs3.rec_.five
  obtain ⟨⟨r0, r1, r2, r3, r4⟩, ⟨q0, q1, q2, q3, q4⟩⟩ := hs3.res.five
  clear hs2 hs3 hb2 ho2 hbt
  go_wp2
  exact bodyPost_ret (results_rec Try.results25 _ _ w.heap.size _ _ _ _ _ rfl HF.out.end_.1) rfl HF.out.end_.2

set_option maxRecDepth 100000 in
set_option maxHeartbeats 1000000 in
theorem rmake_1 {w : World} {lo hi m c n : Nat} {num : Int} {A : Option Addr} {b : List UInt8} (hB : Bs w lo hi A m c b) (h1 : 1 ≤ num) (h2 : num ≤ 536870911) (hn : (n : Int) ≤ 18446744073709551615) :
    Calls Try.prog 25 #[.int .i64 num, .int .i64 1, .int .u64 n, .slice A m c] w (MakeP w (mkR num 1 n b)) := by
  have hl := hB.len
  have hE : mayE num 1 n m = 0 := by simp [mayE]; omega
  have hR : mkR num 1 n b = (0, ⟨num, 1, n, [], Lib.uvarint (8 * num + 1).toNat ++ fixB 8 n⟩) := by
    unfold mkR; rw [hl, hE]; simp [mkRaw]
  rw [hR]
  have htl := Lib.uvarint_length64 (x := (8 * num + 1).toNat) (by omega)
  have HT := Lib.hid (fun W => rtag (8 * num + 1) (by omega) (by omega) W)
  generalize Lib.uvarint (8 * num + 1).toNat = T at *
  have HTl := Lib.hid htl
  clear hE hR hl hB htl
  obtain ⟨i0, hi0, hz0, hz1, hz2⟩ := info_parts Try.info5
  have g1 : ¬ num < 1 := by omega
  have g2 : ¬ 536870911 < num := by omega
  go_enter Try.func25, Try.ntmps25
  go_wp2_with fail
  refine (HT.out _).mono ?_
  rintro e w1 ⟨v1, rfl, ho1, hb1⟩
  obtain ⟨A1, k1, c1, rfl⟩ := ho1.val
  have hs := (RnS.start w num 1 0 (.slice none 0 0)).new hb1
  have hz : ((w.alloc (.cells #[.int .i64 0, .int .i64 0, .int .u64 0, .slice none 0 0, .slice none 0 0] 34)).alloc (.cells #[.int .i64 num, .int .i64 1, .int .u64 0, .slice none 0 0, .slice none 0 0] 34)).heap.size = w.heap.size + 2 := by simp
  rw [hz] at ho1
  obtain ⟨⟨d0, d1, d2, d3, d4⟩, ⟨e0, e1, e2, e3, e4⟩⟩ := hs.rec_.five
  have hs2 := hs.setN n rfl
  have hot := ho1.setCell (p := ⟨w.heap.size + 1, 2, none⟩) (fun e => by have := (ho1.lt e).1; simp at this) (.int .u64 n)
  clear hs ho1 hb1 hz
  go_wp2_with fail
  refine (rfixed_nat n 8 _ hn (by omega)).mono ?_
  rintro e w2 ⟨v2, rfl, ho2, hb2⟩
  obtain ⟨A2, k2, c2, rfl⟩ := ho2.val
  have hs3 := hs2.new hb2
  have hot2 := hot.kept fun g hg => hb2.block g (hot.lt hg).2
  have hk2 : k2 ≤ 8 := by have := ho2.toBs.len; rw [fixB_length] at this; omega
  have hzz := hs3.rec_.lt
  clear d0 d1 d2 d3 d4 e0 e1 e2 e3 e4 hs2
  obtain ⟨⟨d0, d1, d2, d3, d4⟩, ⟨e0, e1, e2, e3, e4⟩⟩ := hs3.rec_.five
  clear d0 d1 d2 d3 d4 e0 e1 e2 e3 e4
  go_wp2_with (at_builtin; refine wpList_append_bs _ rfl _ _ 22 rfl i0 Try.underlying22 hi0 hz0 hz1 hz2 (w.heap.size + 2) _ T rfl hot2 _ _ _ _ _ _ rfl ho2.toBs (by have := HTl.out; omega) (by omega) ?_; intro v3 w3 ho3 hg3; obtain ⟨A3, k3, c3, rfl⟩ := ho3.val; have hs4 := hs3.app hot2 hg3; obtain ⟨⟨d0, d1, d2, d3, d4⟩, ⟨e0, e1, e2, e3, e4⟩⟩ := hs4.rec_.five; obtain ⟨⟨r0, r1, r2, r3, r4⟩, ⟨q0, q1, q2, q3, q4⟩⟩ := hs4.res.five; have HF := Lib.hid (hs4.fin2 (Own.nil _ _) ho3); clear hs3 hs4 hot hot2 ho2 ho3 hg3 hb2)
  exact bodyPost_ret (results_rec Try.results25 _ _ w.heap.size _ _ _ _ _ rfl HF.out.end_.1) rfl HF.out.end_.2

set_option maxRecDepth 100000 in
set_option maxHeartbeats 1000000 in
theorem rmake_5 {w : World} {lo hi m c n : Nat} {num : Int} {A : Option Addr} {b : List UInt8} (hB : Bs w lo hi A m c b) (h1 : 1 ≤ num) (h2 : num ≤ 536870911) (hn : (n : Int) ≤ 18446744073709551615) (h5 : (n : Int) < 4294967296) :
    Calls Try.prog 25 #[.int .i64 num, .int .i64 5, .int .u64 n, .slice A m c] w (MakeP w (mkR num 5 n b)) := by
  have hl := hB.len
  have hE : mayE num 5 n m = 0 := by simp [mayE]; omega
  have hR : mkR num 5 n b = (0, ⟨num, 5, n, [], Lib.uvarint (8 * num + 5).toNat ++ fixB 4 n⟩) := by
    unfold mkR; rw [hl, hE]; simp [mkRaw]
  rw [hR]
  have htl := Lib.uvarint_length64 (x := (8 * num + 5).toNat) (by omega)
  have HT := Lib.hid (fun W => rtag (8 * num + 5) (by omega) (by omega) W)
  generalize Lib.uvarint (8 * num + 5).toNat = T at *
  have HTl := Lib.hid htl
  clear hE hR hl hB htl
  obtain ⟨i0, hi0, hz0, hz1, hz2⟩ := info_parts Try.info5
  obtain ⟨z, hzn⟩ : ∃ z : Int, z = n := ⟨_, rfl⟩
  rw [← hzn]
  have g5 : z < 4294967296 := by omega
  have HF5 := Lib.hid (fun W => rfixed_any z 4 W (by omega) (by omega) (by omega))
  rw [show z.toNat = n by omega] at HF5
  have HZ := Lib.hid (show Value.int .u64 z = .int .u64 n by rw [hzn])
  clear hzn h5 hn
  have g1 : ¬ num < 1 := by omega
  have g2 : ¬ 536870911 < num := by omega
  go_enter Try.func25, Try.ntmps25
  go_wp2_with fail
  refine (HT.out _).mono ?_
  rintro e w1 ⟨v1, rfl, ho1, hb1⟩
  obtain ⟨A1, k1, c1, rfl⟩ := ho1.val
  have hs := (RnS.start w num 5 0 (.slice none 0 0)).new hb1
  have hz : ((w.alloc (.cells #[.int .i64 0, .int .i64 0, .int .u64 0, .slice none 0 0, .slice none 0 0] 34)).alloc (.cells #[.int .i64 num, .int .i64 5, .int .u64 0, .slice none 0 0, .slice none 0 0] 34)).heap.size = w.heap.size + 2 := by simp
  rw [hz] at ho1
  obtain ⟨⟨d0, d1, d2, d3, d4⟩, ⟨e0, e1, e2, e3, e4⟩⟩ := hs.rec_.five
  have hs2 := hs.setN n HZ.out
  have hot := ho1.setCell (p := ⟨w.heap.size + 1, 2, none⟩) (fun e => by have := (ho1.lt e).1; simp at this) (.int .u64 z)
  clear hs ho1 hb1 hz
  go_wp2_with fail
  refine (HF5.out _).mono ?_
  rintro e w2 ⟨v2, rfl, ho2, hb2⟩
  obtain ⟨A2, k2, c2, rfl⟩ := ho2.val
  have hs3 := hs2.new hb2
  have hot2 := hot.kept fun g hg => hb2.block g (hot.lt hg).2
  have hk2 : k2 ≤ 8 := by have := ho2.toBs.len; rw [fixB_length] at this; omega
  have hzz := hs3.rec_.lt
  clear d0 d1 d2 d3 d4 e0 e1 e2 e3 e4 hs2
  obtain ⟨⟨d0, d1, d2, d3, d4⟩, ⟨e0, e1, e2, e3, e4⟩⟩ := hs3.rec_.five
  clear d0 d1 d2 d3 d4 e0 e1 e2 e3 e4
  go_wp2_with (at_builtin; refine wpList_append_bs _ rfl _ _ 22 rfl i0 Try.underlying22 hi0 hz0 hz1 hz2 (w.heap.size + 2) _ T rfl hot2 _ _ _ _ _ _ rfl ho2.toBs (by have := HTl.out; omega) (by omega) ?_; intro v3 w3 ho3 hg3; obtain ⟨A3, k3, c3, rfl⟩ := ho3.val; have hs4 := hs3.app hot2 hg3; obtain ⟨⟨d0, d1, d2, d3, d4⟩, ⟨e0, e1, e2, e3, e4⟩⟩ := hs4.rec_.five; obtain ⟨⟨r0, r1, r2, r3, r4⟩, ⟨q0, q1, q2, q3, q4⟩⟩ := hs4.res.five; have HF := Lib.hid (hs4.fin2 (Own.nil _ _) ho3); clear hs3 hs4 hot hot2 ho2 ho3 hg3 hb2)
  exact bodyPost_ret (results_rec Try.results25 _ _ w.heap.size _ _ _ _ _ rfl HF.out.end_.1) rfl HF.out.end_.2
end Go.Proofs.Ytlckppmggklinaa
