/-
  WireReads, walked.
-/
import Derived.Test.YtlckppmggklinaaRSame
namespace Go.Proofs.Ytlckppmggklinaa
open Go.RowKit
set_option linter.unusedVariables false
attribute [local go_sem ↓] Go.wp_at_zero Go.wp_at_succ

theorem spR_len (L : List UInt8) (h : L.length ≤ 400) : (spR L).2.length ≤ 400 := by
  unfold spR
  rw [if_neg (by omega)]
  by_cases he : (spL L).1 = 0
  · obtain ⟨hg, hcat⟩ := spL_good L.length L (Nat.le_refl _) he
    have := rawCat_len (spL L).2 (fun r hr => good_pos (hg r hr))
    rw [hcat] at this; omega
  · rw [spL_err L he]; simp

/-- What stands after the four calls: the two records, the two lists. -/
structure RdW (lo hi : Nat) (W : World) (qx qy : Nat) (s : Rc) (B B' C C' : Option Addr) (m d m' d' k f k' f' : Nat) (A1 A2 : Option Addr) (n c1 c2 : Nat) (rs : List Rc) : Prop where
  bx : Blk W qx 34 #[.int .i64 s.num, .int .i64 s.wire, .int .u64 s.n, .slice B m d, .slice B' m' d']
  by_ : Blk W qy 34 #[.int .i64 s.num, .int .i64 s.wire, .int .u64 s.n, .slice C k f, .slice C' k' f']
  lx : lo ≤ qx ∧ qx < hi
  ly : lo ≤ qy ∧ qy < hi
  b1 : Bs W lo hi B m d s.b
  b2 : Bs W lo hi B' m' d' s.raw
  b3 : Bs W lo hi C k f s.b
  b4 : Bs W lo hi C' k' f' s.raw
  ra : Rs W lo hi A1 n c1 rs
  rb : Rs W lo hi A2 n c2 rs
section
variable {lo hi : Nat} {W W' : World} {qx qy : Nat} {s : Rc} {B B' C C' : Option Addr} {m d m' d' k f k' f' : Nat} {A1 A2 : Option Addr} {n c1 c2 : Nat} {rs : List Rc}
theorem RdW.kept (h : RdW lo hi W qx qy s B B' C C' m d m' d' k f k' f' A1 A2 n c1 c2 rs) (q : Kept lo hi W W') : RdW lo hi W' qx qy s B B' C C' m d m' d' k f k' f' A1 A2 n c1 c2 rs :=
  ⟨h.bx.stays (q _ h.lx.1 h.lx.2), h.by_.stays (q _ h.ly.1 h.ly.2), h.lx, h.ly, h.b1.kept q, h.b2.kept q, h.b3.kept q, h.b4.kept q, h.ra.kept q, h.rb.kept q⟩
theorem RdW.rsame (h : RdW lo hi W qx qy s B B' C C' m d m' d' k f k' f' A1 A2 n c1 c2 rs) (hh : hi ≤ W.heap.size) :
    Calls Try.prog 26 #[.agg #[.int .i64 s.num, .int .i64 s.wire, .int .u64 s.n, .slice B m d, .slice B' m' d'], .agg #[.int .i64 s.num, .int .i64 s.wire, .int .u64 s.n, .slice C k f, .slice C' k' f']] W fun e w' => e = .returned (.bool true) ∧ Below W.heap.size W w' := by
  have := rsame_any h.b1 h.b2 h.b3 h.b4 hh hh
  rwa [rcEq_refl s] at this
theorem RdW.lsame (h : RdW lo hi W qx qy s B B' C C' m d m' d' k f k' f' A1 A2 n c1 c2 rs) (hh : hi ≤ W.heap.size) (hn : n ≤ 400) :
    Calls Try.prog 35 #[.slice A1 n c1, .slice A2 n c2] W fun e w' => e = .returned (.bool true) ∧ Below W.heap.size W w' :=
  lsame_any h.ra h.rb hh hh (by omega)
end

/-- Bytes that may be written: each cell is a number. -/
def InB (W : World) (lo hi : Nat) (A : Option Addr) (k : Nat) : Prop := k = 0 ∨ ∃ g cur, A = some ⟨g, 0, none⟩ ∧ lo ≤ g ∧ g < hi ∧ Blk W g 5 cur ∧ ∀ j, j < k → ∃ x : Int, cur[j]? = some (.int .u8 x)
theorem InB.of {w : World} {base k c : Nat} {A : Option Addr} {l : List UInt8} (h : Own w base (.slice A k c) l) : InB w base w.heap.size A k := by
  have hbs := h.toBs
  rcases h.2 with ⟨e, h0⟩ | ⟨g, cap, cur, e, hb, hh, hnc, hm, hsz, ht⟩
  · injection e with e1 e2 e3
    exact .inl e2
  · injection e with e1 e2 e3
    subst e1
    refine .inr ⟨g, cur, rfl, hb, Blk.lt (t := 5) (cs := cur) hh, hh, fun j hj => ?_⟩
    obtain ⟨b, o, e, _, _, hc⟩ := hbs.at_ (by omega)
    injection e with e; injection e with e1 e2 _; subst e1; subst e2
    have hl := hbs.len
    have := hc j (by omega)
    rw [Nat.zero_add, Blk.cell (t := 5) (cs := cur) hh j] at this
    exact ⟨_, this⟩
theorem InB.below {w w' : World} {lo hi k : Nat} {A : Option Addr} (h : InB w lo hi A k) (hb : Below hi w w') : InB w' lo hi A k := by
  rcases h with h | ⟨g, cur, e, h1, h2, h3, h4⟩
  · exact .inl h
  · exact .inr ⟨g, cur, e, h1, h2, h3.below hb h2, h4⟩
theorem in_set {w : World} {g i k : Nat} {cur : Array Value} (hb : Blk w g 5 cur) (h : ∀ j, j < k → ∃ x : Int, cur[j]? = some (.int .u8 x)) (y : Int) (hi : i < k) :
    ∃ cur', Blk (w.setCell ⟨g, i, none⟩ (.int .u8 y)) g 5 cur' ∧ ∀ j, j < k → ∃ x : Int, cur'[j]? = some (.int .u8 x) := by
  refine ⟨_, hb.set_ i _, fun j hj => ?_⟩
  obtain ⟨x, hx⟩ := h j hj
  by_cases e : i = j
  · subst e
    refine ⟨y, ?_⟩
    have : i < cur.size := by
      rcases Nat.lt_or_ge i cur.size with h | h
      · exact h
      · rw [Array.getElem?_eq_none h] at hx; cases hx
    simp [this]
  · exact ⟨x, by rw [Array.getElem?_setIfInBounds_ne e]; exact hx⟩

set_option maxRecDepth 100000 in
set_option maxHeartbeats 4000000 in
theorem reads_core {w : World} {k c : Nat} {n : Nat} {A : Option Addr} {L : List UInt8} (hB : Bs w 0 w.heap.size A k c L) (hk : k ≤ 400) (hcut : ∀ W : World, Calls Try.prog 23 #[.slice A n c] W fun e w' => e = .returned (.slice A k c) ∧ W = w') :
    Calls Try.prog 5 #[.slice A n c] w fun e w' => e = .returned (.bool true) ∧ Below w.heap.size w w' := by
  have hll := hB.len
  obtain ⟨e, s, p, hR⟩ : ∃ e s p, nxR L = (e, s, p) := ⟨_, _, _, rfl⟩
  obtain ⟨f, rs, hF⟩ : ∃ f rs, spR L = (f, rs) := ⟨_, _, rfl⟩
  have hrl := spR_len L (by omega)
  rw [hF] at hrl
  obtain ⟨N, hN⟩ : ∃ N, N = rs.length := ⟨_, rfl⟩
  simp only [← hN] at hrl
  have HC := Lib.hid hcut
  have HCp := Lib.hid (copyBytes_any hB (by omega))
  have HR := Lib.hid hR
  have HF := Lib.hid hF
  have HN := Lib.hid hN
  have HBb := Lib.hid (fun (W : World) (h : Below w.heap.size w W) => hB.below h (Nat.le_refl _))
  have HLk := Lib.hid hll
  clear hcut hR hF hN hB hll
  go_enter Try.func5, Try.ntmps5
  go_wp2_with fail
  refine (HC.out _).mono ?_
  rintro e _ ⟨rfl, rfl⟩
  go_wp2_with fail
  refine HCp.out.mono ?_
  rintro e w1 ⟨v1, rfl, ho1, hb1⟩
  obtain ⟨A1, k1, c1, rfl⟩ := ho1.val
  have hk1 : k1 = k := by have := ho1.toBs.len; have := HLk.out; omega
  subst hk1
  have hs1 := hb1.size
  have hNx := next_any ho1.toBs (Nat.le_refl _) (by omega)
  rw [HR.out] at hNx
  have HNX := Lib.hid hNx
  have HIn := Lib.hid (fun (W : World) (h : Below w1.heap.size w1 W) => ho1.toBs.below h (Nat.le_refl _))
  have HI := Lib.hid (InB.of ho1)
  clear hNx ho1
  go_wp2_with fail
  refine HNX.out.mono ?_
  rintro x w2 ⟨v2, rfl, ⟨vb, vr, rfl, ob, orr⟩, hb2⟩
  simp only at ob orr
  obtain ⟨B, m, d, rfl⟩ := ob.val
  obtain ⟨B', m', d', rfl⟩ := orr.val
  have hs2 := hb2.size
  have hw2 := hb1.trans (hb2.mono hs1)
  have hxb := ob.toBs.alloc (Nat.le_refl _) (.cells #[.int .i64 s.num, .int .i64 s.wire, .int .u64 s.n, .slice B m d, .slice B' m' d'] 34)
  have hxr := orr.toBs.alloc (Nat.le_refl _) (.cells #[.int .i64 s.num, .int .i64 s.wire, .int .u64 s.n, .slice B m d, .slice B' m' d'] 34)
  have hbx := Blk.new w2 34 #[.int .i64 s.num, .int .i64 s.wire, .int .u64 s.n, .slice B m d, .slice B' m' d']
  have hW2 := hw2.alloc (by omega) (.cells #[.int .i64 s.num, .int .i64 s.wire, .int .u64 s.n, .slice B m d, .slice B' m' d'] 34)
  have hI2 := hb2.alloc hs2 (.cells #[.int .i64 s.num, .int .i64 s.wire, .int .u64 s.n, .slice B m d, .slice B' m' d'] 34)
  have hz2 : (w2.alloc (.cells #[.int .i64 s.num, .int .i64 s.wire, .int .u64 s.n, .slice B m d, .slice B' m' d'] 34)).heap.size = w2.heap.size + 1 := by simp
  clear ob orr HNX hb2 hw2
  go_wp2_with fail
  generalize w2.alloc (.cells #[.int .i64 s.num, .int .i64 s.wire, .int .u64 s.n, .slice B m d, .slice B' m' d'] 34) = W2 at *
  have hRn := rnext_any (HBb.out _ hW2) hW2.size (by omega)
  rw [HR.out] at hRn
  refine hRn.mono ?_
  clear hRn
  rintro x w3 ⟨v3, rfl, ⟨vb, vr, rfl, ob, orr⟩, hb3⟩
  simp only at ob orr
  obtain ⟨C, m3, d3, rfl⟩ := ob.val
  obtain ⟨C', m3', d3', rfl⟩ := orr.val
  have hs3 := hb3.size
  have hyb := ob.toBs.alloc (Nat.le_refl _) (.cells #[.int .i64 s.num, .int .i64 s.wire, .int .u64 s.n, .slice C m3 d3, .slice C' m3' d3'] 34)
  have hyr := orr.toBs.alloc (Nat.le_refl _) (.cells #[.int .i64 s.num, .int .i64 s.wire, .int .u64 s.n, .slice C m3 d3, .slice C' m3' d3'] 34)
  have hby := Blk.new w3 34 #[.int .i64 s.num, .int .i64 s.wire, .int .u64 s.n, .slice C m3 d3, .slice C' m3' d3']
  have hW3' := hb3.alloc hs3 (.cells #[.int .i64 s.num, .int .i64 s.wire, .int .u64 s.n, .slice C m3 d3, .slice C' m3' d3'] 34)
  have hz3 : (w3.alloc (.cells #[.int .i64 s.num, .int .i64 s.wire, .int .u64 s.n, .slice C m3 d3, .slice C' m3' d3'] 34)).heap.size = w3.heap.size + 1 := by simp
  clear ob orr hb3
  go_wp2_with fail
  generalize w3.alloc (.cells #[.int .i64 s.num, .int .i64 s.wire, .int .u64 s.n, .slice C m3 d3, .slice C' m3' d3'] 34) = W3 at *
  have hI3 := hI2.trans (hW3'.mono (by omega))
  have hW3 := hW2.trans (hW3'.mono (by omega))
  have hSp := split_any (HIn.out _ hI3) (by omega) (by omega)
  rw [HF.out] at hSp
  refine hSp.mono ?_
  clear hSp
  rintro x w4 ⟨A4, c4, rfl, hr4, hb4⟩
  simp only [← HN.out] at hr4
  simp only [← HN.out]
  have hs4 := hb4.size
  have hW4 := hW3.trans (hb4.mono (by omega))
  have hI4 := hI3.trans (hb4.mono (by omega))
  go_wp2_with fail
  have hSq := rsplit_any (HBb.out _ hW4) (by omega) (by omega)
  rw [HF.out] at hSq
  refine hSq.mono ?_
  clear hSq
  rintro x w5 ⟨A5, c5, rfl, hr5, hb5⟩
  simp only [← HN.out] at hr5
  simp only [← HN.out]
  have hs5 := hb5.size
  have hW5 := hW4.trans (hb5.mono (by omega))
  have hI5 := hI4.trans (hb5.mono (by omega))
  have hS : RdW w1.heap.size w5.heap.size w5 w2.heap.size w3.heap.size s B B' C C' m d m' d' m3 d3 m3' d3' A4 A5 N c4 c5 rs := by
    have q1 : Below W2.heap.size W2 w5 := (hW3'.trans (hb4.mono (by omega))).trans (hb5.mono (by omega))
    have q2 : Below W3.heap.size W3 w5 := hb4.trans (hb5.mono (by omega))
    exact ⟨hbx.below q1 hbx.lt, hby.below q2 hby.lt, ⟨by omega, by omega⟩, ⟨by omega, by omega⟩, (hxb.below q1 (by omega)).mono (by omega) (by omega), (hxr.below q1 (by omega)).mono (by omega) (by omega), (hyb.below q2 (by omega)).mono (by omega) (by omega), (hyr.below q2 (by omega)).mono (by omega) (by omega),
      (hr4.kept (.of_below hb5 (Nat.le_refl _))).mono (by omega) (by omega), hr5.mono (by omega) (by omega)⟩
  have hIn5 := HI.out.below hI5
  clear hbx hby hxb hxr hyb hyr hr4 hr5 hb4 hb5 hI2 hI3 hI4 hW2 hW3 hW3' hW4 HIn HBb HR HF HC HCp HI hb1 hI5
  obtain ⟨⟨d0, d1, d2, d3_, d4⟩, _⟩ := hS.bx.five
  obtain ⟨⟨e0, e1, e2, e3, e4⟩, _⟩ := hS.by_.five
  go_wp2_with fail
  refine (hS.rsame (Nat.le_refl _)).mono ?_
  rintro x w6 ⟨rfl, hb6⟩
  have hs6 := hb6.size
  have hS6 := hS.kept (.of_below hb6 (Nat.le_refl _))
  have hW6 := hW5.trans (hb6.mono hW5.size)
  have hIn6 := hIn5.below (hb6.mono (by omega))
  clear d0 d1 d2 d3_ d4 e0 e1 e2 e3 e4 hS hW5 hIn5 hb6
  go_wp2_with fail
  refine (hS6.lsame (by omega) hrl).mono ?_
  rintro x w7 ⟨rfl, hb7⟩
  have hs7 := hb7.size
  have hS7 := Lib.hid (hS6.kept (.of_below hb7 hs6))
  have hW7 := hW6.trans (hb7.mono hW6.size)
  have hIn7 := hIn6.below (hb7.mono (by omega))
  clear hS6 hW6 hIn6 hb7
  go_wp2_with fail
  go_loopw [14] (fun j wr => ∃ i : Nat, j = .int .i64 i ∧ i ≤ k1 ∧ Kept w1.heap.size w5.heap.size w7 wr ∧ InB wr w.heap.size w1.heap.size A1 k1 ∧ Below w.heap.size w wr ∧ w5.heap.size ≤ wr.heap.size) (fun j _ => k1 - (intOf j).toNat)
  case atStart => exact ⟨0, rfl, by omega, Kept.refl _ _ _, hIn7, hW7, by omega⟩
  case round =>
    obtain ⟨i, rfl, hin, hkp, hInr, hWr, hsr⟩ := hrel
    clear hIn7 hW7
    by_cases hlt : i < k1
    · rcases hInr with h0 | ⟨g, cur, rfl, hg1, hg2, hbl, hx⟩
      · omega
      obtain ⟨x, hx'⟩ := hx i hlt
      have hc := (hbl.cell i).trans hx'
      have hfr := hbl.frozen i
      have HBl := Lib.hid hbl
      have HXx := Lib.hid hx
      have hi0' : (0 : Int) ≤ (i : Int) := by omega
      have hi1' : (i : Int) < (k1 : Int) := by omega
      clear hx hx' hbl
      go_wp2_with fail
      go_roundw
      case rel =>
        refine ⟨i + 1, by go_num, by omega, hkp.setCell (.inl hg2) _, ?_, hWr.setCell hg1 _, by simpa using hsr⟩
        obtain ⟨cur', h1, h2⟩ := in_set HBl.out HXx.out (bits .xor .u8 x 85) hlt
        exact .inr ⟨g, cur', rfl, hg1, hg2, h1, h2⟩
      case measure => simp [intOf]; omega
    · have hS8 := hS7.out.kept hkp
      obtain ⟨⟨d0, d1, d2, d3_, d4⟩, _⟩ := hS8.bx.five
      obtain ⟨⟨e0, e1, e2, e3, e4⟩, _⟩ := hS8.by_.five
      go_wp2_with fail
      refine (hS8.rsame hsr).mono ?_
      rintro x w8 ⟨rfl, hb8⟩
      have hs8 := hb8.size
      have hS9 := hS8.kept (.of_below hb8 hsr)
      have hW8 := hWr.trans (hb8.mono hWr.size)
      clear d0 d1 d2 d3_ d4 e0 e1 e2 e3 e4 hS8
      go_wp2_with fail
      refine (hS9.lsame (by omega) hrl).mono ?_
      rintro x w9 ⟨rfl, hb9⟩
      have hW9 := hW8.trans (hb9.mono hW8.size)
      clear hS9
      go_wp2_with fail
      refine (works_any _).mono ?_
      rintro x w10 ⟨rfl, hb10⟩
      have hW10 := hW9.trans (hb10.mono hW9.size)
      go_wp2
      go_ret
      exact ⟨rfl, hW10⟩

theorem reads_any {w : World} {n c : Nat} {A : Option Addr} {l : List UInt8} (hB : Bs w 0 w.heap.size A n c l) :
    Calls Try.prog 5 #[.slice A n c] w fun e w' => e = .returned (.bool true) ∧ Below w.heap.size w w' := by
  obtain ⟨k, L, hk, hL, hcut⟩ := cut_any hB
  exact reads_core hL hk hcut
end Go.Proofs.Ytlckppmggklinaa
