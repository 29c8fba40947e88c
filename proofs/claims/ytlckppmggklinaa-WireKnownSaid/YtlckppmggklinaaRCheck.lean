/-
  The document's answer: Check, Copy.
-/
import Derived.Test.YtlckppmggklinaaReads
namespace Go.Proofs.Ytlckppmggklinaa
open Go.RowKit
set_option linter.unusedVariables false
attribute [local go_sem ↓] Go.wp_at_zero Go.wp_at_succ

/-- A record that does not end where its bytes end is not what its bytes say. -/
theorem chk_end {l : List UInt8} {s r : Rc} {p : Nat} (h : nxR l = (0, s, p)) (hr : r.raw = l) (hp : p ≠ l.length) : rcEq s r = false := by
  have h0 : (nxR l).1 = 0 := by rw [h]
  have h1 := nxR_pos l h0
  rw [h] at h1
  simp only at h1
  cases hq : rcEq s r with
  | false => rfl
  | true =>
    exfalso
    have e := rcEq_eq hq
    rw [e, hr] at h1
    have := congrArg List.length h1.2.2
    simp at this
    omega

set_option maxRecDepth 100000 in
set_option maxHeartbeats 1000000 in
theorem rcheck_any {w : World} {lo hi n c n' c' : Nat} {A A' : Option Addr} {r : Rc} (hb : Bs w lo hi A n c r.b) (hw : Bs w lo hi A' n' c' r.raw) (h1 : hi ≤ w.heap.size) (hn : n' ≤ 2147483648) :
    Calls Try.prog 30 #[.agg #[.int .i64 r.num, .int .i64 r.wire, .int .u64 r.n, .slice A n c, .slice A' n' c']] w fun e w' => e = .returned (.int .i64 (chkE r : Nat)) ∧ Below w.heap.size w w' := by
  have hv := rnext_any (hw.alloc h1 (.cells #[.int .i64 r.num, .int .i64 r.wire, .int .u64 r.n, .slice A n c, .slice A' n' c'] 34)) (by simp; omega) hn
  have hck : chkE r = if (nxR r.raw).1 = 0 then (if rcEq (nxR r.raw).2.1 r then 0 else 2) else 2 := rfl
  have hend := fun s p => @chk_end r.raw s r p
  have hnl := hw.len
  generalize chkE r = E at *
  generalize nxR r.raw = R at *
  have HV := Lib.hid hv
  clear hv
  obtain ⟨e, s, k⟩ := R
  simp only at hck
  have HB0 := Lib.hid (Blk.new w 34 #[.int .i64 r.num, .int .i64 r.wire, .int .u64 r.n, .slice A n c, .slice A' n' c'])
  by_cases he : e = 0
  · subst he
    rw [if_pos rfl] at hck
    by_cases hs : rcEq s r = true
    · rw [if_pos hs] at hck
      subst hck
      have hkn : ((k : Int) != (n' : Int)) = false := by
        by_cases q : k = n'
        · subst q; simp
        · have := hend s k rfl rfl (by omega)
          rw [hs] at this; cases this
      clear hend hnl
      go_enter Try.func30, Try.ntmps30
      go_wp2_with fail
      refine HV.out.mono ?_
      rintro e w1 ⟨v, rfl, ⟨vb, vr, rfl, ob, orr⟩, hb1⟩
      simp only at ob orr
      obtain ⟨B, m, d, rfl⟩ := ob.val
      obtain ⟨B', m', d', rfl⟩ := orr.val
      have hz1 : w.heap.size + 1 ≤ w1.heap.size := by have := hb1.size; simpa using this
      have hbel : Below w.heap.size w w1 := ((Below.refl _ _).alloc (Nat.le_refl _) _).trans (hb1.mono (by simp))
      obtain ⟨⟨c0, c1, c2, c3, c4⟩, _⟩ := ((HB0.out.below hb1 (by simp)).alloc (.cells #[.int .i64 s.num, .int .i64 s.wire, .int .u64 s.n, .slice B m d, .slice B' m' d'] 34)).five
      have hl := rsame_any (r := s) (s := r) (ob.toBs.alloc (Nat.le_refl _) (.cells #[.int .i64 s.num, .int .i64 s.wire, .int .u64 s.n, .slice B m d, .slice B' m' d'] 34)) (orr.toBs.alloc (Nat.le_refl _) _) ((hb.below hbel h1).alloc (by omega) _) ((hw.below hbel h1).alloc (by omega) _) (by simp) (by simp; omega)
      rw [hs] at hl
      have HL := Lib.hid hl
      clear hl hs ob orr hb1
      go_wp2_with fail
      refine HL.out.mono ?_
      rintro e w2 ⟨rfl, hb2⟩
      go_wp2
      go_ret
      exact ⟨rfl, (hbel.alloc (by omega) _).trans (hb2.mono (by simp; omega))⟩
    · rw [if_neg hs] at hck
      have hs : rcEq s r = false := by simpa using hs
      subst hck
      clear hend hnl
      by_cases hkn : k = n'
      · have hkn : ((k : Int) != (n' : Int)) = false := by simp; omega
        go_enter Try.func30, Try.ntmps30
        go_wp2_with fail
        refine HV.out.mono ?_
        rintro e w1 ⟨v, rfl, ⟨vb, vr, rfl, ob, orr⟩, hb1⟩
        simp only at ob orr
        obtain ⟨B, m, d, rfl⟩ := ob.val
        obtain ⟨B', m', d', rfl⟩ := orr.val
        have hz1 : w.heap.size + 1 ≤ w1.heap.size := by have := hb1.size; simpa using this
        have hbel : Below w.heap.size w w1 := ((Below.refl _ _).alloc (Nat.le_refl _) _).trans (hb1.mono (by simp))
        obtain ⟨⟨c0, c1, c2, c3, c4⟩, _⟩ := ((HB0.out.below hb1 (by simp)).alloc (.cells #[.int .i64 s.num, .int .i64 s.wire, .int .u64 s.n, .slice B m d, .slice B' m' d'] 34)).five
        have hl := rsame_any (r := s) (s := r) (ob.toBs.alloc (Nat.le_refl _) (.cells #[.int .i64 s.num, .int .i64 s.wire, .int .u64 s.n, .slice B m d, .slice B' m' d'] 34)) (orr.toBs.alloc (Nat.le_refl _) _) ((hb.below hbel h1).alloc (by omega) _) ((hw.below hbel h1).alloc (by omega) _) (by simp) (by simp; omega)
        rw [hs] at hl
        have HL := Lib.hid hl
        clear hl hs ob orr hb1
        go_wp2_with fail
        refine HL.out.mono ?_
        rintro e w2 ⟨rfl, hb2⟩
        go_wp2
        go_ret
        exact ⟨rfl, (hbel.alloc (by omega) _).trans (hb2.mono (by simp; omega))⟩
      · have hkn : ((k : Int) != (n' : Int)) = true := by simp; omega
        go_enter Try.func30, Try.ntmps30
        go_wp2_with fail
        refine HV.out.mono ?_
        rintro e w1 ⟨v, rfl, ⟨vb, vr, rfl, ob, orr⟩, hb1⟩
        simp only at ob orr
        obtain ⟨B, m, d, rfl⟩ := ob.val
        obtain ⟨B', m', d', rfl⟩ := orr.val
        have hz1 : w.heap.size + 1 ≤ w1.heap.size := by have := hb1.size; simpa using this
        have hbel : Below w.heap.size w w1 := ((Below.refl _ _).alloc (Nat.le_refl _) _).trans (hb1.mono (by simp))
        obtain ⟨⟨c0, c1, c2, c3, c4⟩, _⟩ := ((HB0.out.below hb1 (by simp)).alloc (.cells #[.int .i64 s.num, .int .i64 s.wire, .int .u64 s.n, .slice B m d, .slice B' m' d'] 34)).five
        clear ob orr hs hb1
        go_wp2
        go_ret
        exact ⟨rfl, hbel.alloc (by omega) _⟩
  · rw [if_neg he] at hck
    subst hck
    have hne : ((e : Int) != 0) = true := by simp; omega
    clear he hend hnl
    go_enter Try.func30, Try.ntmps30
    go_wp2_with fail
    refine HV.out.mono ?_
    rintro e w1 ⟨v, rfl, ⟨vb, vr, rfl, ob, orr⟩, hb1⟩
    simp only at ob orr
    obtain ⟨B, m, d, rfl⟩ := ob.val
    obtain ⟨B', m', d', rfl⟩ := orr.val
    have hz1 : w.heap.size + 1 ≤ w1.heap.size := by have := hb1.size; simpa using this
    have hbel : Below w.heap.size w w1 := ((Below.refl _ _).alloc (Nat.le_refl _) _).trans (hb1.mono (by simp))
    obtain ⟨⟨c0, c1, c2, c3, c4⟩, _⟩ := ((HB0.out.below hb1 (by simp)).alloc (.cells #[.int .i64 s.num, .int .i64 s.wire, .int .u64 s.n, .slice B m d, .slice B' m' d'] 34)).five
    clear ob orr hb1
    go_wp2
    go_ret
    exact ⟨rfl, hbel.alloc (by omega) _⟩
end Go.Proofs.Ytlckppmggklinaa
