/-
  Make, of bytes; Make, of whatever it is handed.
-/
import Derived.Test.YtlckppmggklinaaMake2
import Derived.Deep.RegionLaw
namespace Go.Proofs.Ytlckppmggklinaa
open Go.RowKit
set_option linter.unusedVariables false
attribute [local go_sem ↓] Go.wp_at_zero Go.wp_at_succ

theorem step_append_bs {P : Program} (w : World) {ops : Array Oper} {o : Oper} {a : Act} {K : Act → World → Prop} {Q : Exit → Act → World → Prop} {E : Prop} (hgd : o.guard = none) (s x : Operand) (t : TypeId)
    (ho : o.op = .call { callee := .builtin .append, args := #[s, x], argTypes := #[t, t] }) (i : TypeInfo)
    (ht : P.underlying t = some (.slice 5)) (hi5 : P.info? 5 = some i) (hz : i.zero = some (.int .u8 0)) (hsize : i.size = 1) (hby : i.bytes = 1)
    (base : Nat) (v : Value) (xs : List UInt8) (hs : a.eval s = v) (hown : Own w base v xs) (lo hi n c : Nat) (A : Option Addr) (l : List UInt8) (hx : a.eval x = .slice A n c) (hr : Bs w lo hi A n c l)
    (hlen : xs.length + n ≤ 140737488355328) (hbase : base ≤ w.heap.size)
    (h : ∀ v' w', Own w' base v' (xs ++ l) → Grew w w' v v' → K (a.put o.dst v') w') : if Region.wanted o (yielded ops a.tmps) = true then Oper.wp P o a w K Q else E := by
  have hw : Region.wanted o (yielded ops a.tmps) = true := by simp [Region.wanted, hgd]
  rw [if_pos hw]
  exact wp_append_bs w s x t ho i ht hi5 hz hsize hby base v xs hs hown lo hi n c A l hx hr hlen hbase h

structure MkS (w W : World) (q : Nat) (a0 a1 a2 a3 a4 : Value) (vr : Value) (L : List UInt8) : Prop where
  res : Blk W w.heap.size 34 #[.int .i64 0, .int .i64 0, .int .u64 0, .slice none 0 0, .slice none 0 0]
  rec_ : Blk W q 34 #[a0, a1, a2, a3, a4]
  bel : Below w.heap.size w W
  lt : w.heap.size < q
  own : Own W (w.heap.size + 1) vr L
  nq : vr.ownBlock ≠ some q
structure MkB (w W : World) (q : Nat) (vr vb : Value) (b : List UInt8) : Prop where
  ob : Own W (w.heap.size + 1) vb b
  nq : vb.ownBlock ≠ some q
  nr : ∀ g, vb.ownBlock = some g → vr.ownBlock ≠ some g

section
variable {w W W' : World} {q : Nat} {a0 a1 a2 a3 a4 vr vr' vb : Value} {L L' b : List UInt8}
theorem MkS.drew (h : MkS w W q a0 a1 a2 a3 a4 vr L) : MkS w W.drew q a0 a1 a2 a3 a4 vr L := ⟨h.res, h.rec_, h.bel.drew, h.lt, h.own, h.nq⟩
theorem MkS.sz (h : MkS w W q a0 a1 a2 a3 a4 vr L) : w.heap.size + 1 ≤ W.heap.size := h.res.lt
theorem MkS.new (h : MkS w W q a0 a1 a2 a3 a4 vr L) (hb : Below W.heap.size W W') : MkS w W' q a0 a1 a2 a3 a4 vr L :=
  ⟨h.res.below hb h.res.lt, h.rec_.below hb h.rec_.lt, h.bel.trans (hb.mono h.bel.size), h.lt, h.own.kept fun g hg => hb.block g (h.own.lt hg).2, h.nq⟩
theorem MkB.new (h : MkS w W q a0 a1 a2 a3 a4 vr L) (ho : Own W' W.heap.size vb b) : MkB w W' q vr vb b :=
  ⟨ho.base_ h.res.lt, fun e => by have := (ho.lt e).1; have := h.rec_.lt; omega, fun g e e' => by have := (ho.lt e).1; have := (h.own.lt e').2; omega⟩
theorem MkS.app (h : MkS w W q a0 a1 a2 a3 a4 vr L) (hg : Grew W W' vr vr') (ho : Own W' (w.heap.size + 1) vr' L') : MkS w W' q a0 a1 a2 a3 a4 vr' L' :=
  ⟨h.res.grown hg.1 (fun e => by have := (h.own.lt e.symm).1; omega), h.rec_.grown hg.1 (Ne.symm h.nq), h.bel.trans (hg.below h.bel.size (fun g e => by have := (h.own.lt e).1; omega)), h.lt, ho, fun e => by
    rcases hg.2 with e' | ⟨g, e', hge⟩
    · rw [e'] at e; exact h.nq e
    · rw [e'] at e; injection e with e; have := h.rec_.lt; omega⟩
theorem MkB.app (k : MkB w W q vr vb b) (hg : Grew W W' vr vr') : MkB w W' q vr' vb b :=
  ⟨k.ob.grown hg.1 (fun g e => fun e' => k.nr g e' e), k.nq, fun g e e' => by
    rcases hg.2 with h | ⟨g', h, hge⟩
    · rw [h] at e'; exact k.nr g e e'
    · rw [h] at e'; injection e' with e'; have := (k.ob.lt e).2; omega⟩
theorem MkS.fin {num wire : Int} {n : Nat} (h : MkS w W q (.int .i64 num) (.int .i64 wire) (.int .u64 n) a3 a4 vr L) (k : MkB w W q vr vb b) :
    MkFin w ((W.setCell ⟨q, 3, none⟩ vb).setCell ⟨q, 4, none⟩ vr) q ⟨num, wire, n, b, L⟩ vb vr := by
  refine ⟨?_, (h.res.far (by simp; have := h.lt; omega) _).far (by simp; have := h.lt; omega) _, (k.ob.setCell (p := ⟨q, 3, none⟩) k.nq _).setCell (p := ⟨q, 4, none⟩) k.nq _, (h.own.setCell (p := ⟨q, 3, none⟩) h.nq _).setCell (p := ⟨q, 4, none⟩) h.nq _,
    (h.bel.setCell (by have := h.lt; simp; omega) _).setCell (by have := h.lt; simp; omega) _, h.lt⟩
  have := (h.rec_.set_ 3 vb).set_ 4 vr
  exact this
end

set_option maxRecDepth 100000 in
set_option maxHeartbeats 1000000 in
theorem make_2 {w : World} {lo hi m c n : Nat} {num : Int} {A : Option Addr} {b : List UInt8} (hB : Bs w lo hi A m c b) (hhi : hi ≤ w.heap.size) (h1 : 1 ≤ num) (h2 : num ≤ 536870911) (hn : m ≤ 1048576) :
    Calls Try.prog 24 #[.int .i64 num, .int .i64 2, .int .u64 n, .slice A m c] w (MakeP w (mkR num 2 n b)) := by
  have hl := hB.len
  have hm := fun W => mayBe_any num 2 n m W
  have hE : mayE num 2 n m = 0 := by simp [mayE]; omega
  have hR : mkR num 2 n b = (0, ⟨num, 2, 0, b, Lib.uvarint (8 * num + 2).toNat ++ (Lib.uvarint m ++ b)⟩) := by
    unfold mkR; rw [hl, hE]; simp [mkRaw, hl]
  rw [hE] at hm
  rw [hR]
  have ho := tag_or num 2 h1 h2 (by omega)
  have ho' : bits .or .u64 (num * 8) 2 = 8 * num + 2 := by simpa using ho
  have HM := Lib.hid hm
  have htl := Lib.uvarint_length64 (x := (8 * num + 2).toNat) (by omega)
  have hml := Lib.uvarint_length64 (x := m) (by omega)
  have hT := tagC (8 * num + 2) (by omega) (by omega)
  generalize Lib.uvarint (8 * num + 2).toNat = T at *
  have HT := Lib.hid hT
  have HB := Lib.hid (fun (W : World) (h : Below w.heap.size w W) => own_any (hB.below h hhi) (by omega))
  have HBs := Lib.hid (fun (W : World) (h : Below w.heap.size w W) => hB.below h hhi)
  have hTm : (T ++ Lib.uvarint m).length ≤ 20 := by simp; omega
  have HTm := Lib.hid hTm
  clear hm hE hR ho hT hl hB hTm
  obtain ⟨i0, hi0, hz0, hz1, hz2⟩ := info_parts Try.info5
  go_enter Try.func24, Try.ntmps24
  go_wp2_with fail
  refine (HM.out _).mono ?_
  rintro e w1 ⟨rfl, rfl⟩
  go_wp2_with fail
  refine (HT.out _ (w.heap.size + 1) (by simp)).mono ?_
  rintro e w1 ⟨v1, rfl, hown1, hgrow1⟩
  obtain ⟨A1, k1, c1, rfl⟩ := hown1.val
  have hf := mk_first hgrow1
  have hs : MkS w (w1.alloc (.cells #[.int .i64 num, .int .i64 2, .int .u64 0, .slice none 0 0, .slice A1 k1 c1] 34)) w1.heap.size (.int .i64 num) (.int .i64 2) (.int .u64 0) (.slice none 0 0) (.slice A1 k1 c1) (.slice A1 k1 c1) T :=
    ⟨hf.2.1.alloc _, Blk.new _ _ _, hf.2.2.alloc (by omega) _, by omega, hown1.alloc _, fun e => by have := (hown1.lt e).2; omega⟩
  have hlt := hf.1
  clear hf hown1 hgrow1
  go_wp2_with fail
  replace hs := hs.drew
  obtain ⟨⟨_, _, _, k3, k4⟩, ⟨_, _, _, f3, f4⟩⟩ := hs.rec_.five
  have hwm : IntKind.u64.wrap (m : Int) = (m : Int) := by rw [IntKind.wrap_u64]; omega
  go_region_law (first | ((go_simp); (go_at_call 46); (refine (HB.out _ hs.bel).mono ?_); (rintro e W1 ⟨vb, rfl, ho1, hb1⟩); (obtain ⟨Ab, kb, cb, rfl⟩ := ho1.val); (have hbb := MkB.new hs ho1); (replace hs := hs.new hb1); (obtain ⟨⟨_, _, _, k3, k4⟩, ⟨_, _, _, f3, f4⟩⟩ := hs.rec_.five)) | ((go_simp); (go_at_call 41); (refine (appendVar_nat (w.heap.size + 1) _ T m _ (by omega) hs.own (by omega) hs.sz).mono ?_); (rintro e W2 ⟨v2, rfl, ho2, hg2⟩); (obtain ⟨A2, k2, c2, rfl⟩ := ho2.val); (try replace hbb := hbb.app hg2); (replace hs := hs.app hg2 ho2); (obtain ⟨⟨_, _, _, k3, k4⟩, ⟨_, _, _, f3, f4⟩⟩ := hs.rec_.five)) | ((refine step_append_bs _ rfl _ _ 22 (by rfl) i0 Try.underlying22 hi0 hz0 hz1 hz2 (w.heap.size + 1) _ _ (by rfl) hs.own _ _ _ _ _ _ (by rfl) (HBs.out _ hs.bel) (by have := HTm.out; omega) hs.sz ?_); (intro v3 W3 ho3 hg3); (obtain ⟨A3, k3, c3, rfl⟩ := ho3.val); (try replace hbb := hbb.app hg3); (replace hs := hs.app hg3 ho3); (obtain ⟨⟨_, _, _, k3, k4⟩, ⟨_, _, _, f3, f4⟩⟩ := hs.rec_.five)))
  all_goals
    obtain ⟨⟨d0, d1, d2, d3, d4⟩, ⟨e0, e1, e2, e3, e4⟩⟩ := hs.rec_.five
    obtain ⟨⟨r0, r1, r2, r3, r4⟩, ⟨q0, q1, q2, q3, q4⟩⟩ := hs.res.five
    have HF := Lib.hid (hs.fin (num := num) (wire := 2) (n := 0) hbb)
    rw [List.append_assoc] at HF
    clear hs hbb hwm
    go_wp2
    exact bodyPost_ret (results_rec Try.results24 _ _ w.heap.size _ _ _ _ _ rfl HF.out.end_.1) rfl HF.out.end_.2

theorem make_any {w : World} {lo hi m c n : Nat} {num wire : Int} {A : Option Addr} {b : List UInt8} (hB : Bs w lo hi A m c b) (hhi : hi ≤ w.heap.size) (hn : (n : Int) ≤ 18446744073709551615) :
    Calls Try.prog 24 #[.int .i64 num, .int .i64 wire, .int .u64 n, .slice A m c] w (MakeP w (mkR num wire n b)) := by
  by_cases he : mayE num wire n b.length = 0
  · obtain ⟨h1, h2, h⟩ := mayE_cases he
    have hl := hB.len
    rcases h with rfl | rfl | ⟨rfl, h5⟩ | ⟨rfl, h5⟩
    · exact make_0 hB h1 h2 hn
    · exact make_1 hB h1 h2 hn
    · exact make_5 hB h1 h2 h5
    · exact make_2 hB hhi h1 h2 (by omega)
  · exact make_err hB he
end Go.Proofs.Ytlckppmggklinaa
