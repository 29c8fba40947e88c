/-
  Check.
-/
import Derived.Test.YtlckppmggklinaaSame
namespace Go.Proofs.Ytlckppmggklinaa
open Go.RowKit
set_option linter.unusedVariables false

/-- Is a record what its own bytes say: 0, else 2. -/
def chkE (r : Rc) : Nat := if (nxR r.raw).1 = 0 then (if rcEq (nxR r.raw).2.1 r then 0 else 2) else 2

theorem Below.of_only {a w : World} {B g : Nat} (h : a.grownBy w (some g)) (hB : B ≤ a.heap.size) (hg : B ≤ g) : Below B a w :=
  ⟨h.os, h.tape, h.output, h.size, fun k hk => h.block k (by omega) (fun e => by injection e with e; omega)⟩

set_option maxRecDepth 100000 in
set_option maxHeartbeats 1000000 in
theorem check_any {w : World} {lo hi n c n' c' : Nat} {A A' : Option Addr} {r : Rc} (hb : Bs w lo hi A n c r.b) (hw : Bs w lo hi A' n' c' r.raw) (h1 : hi ≤ w.heap.size) (hn : n' ≤ 2147483648) :
    Calls Try.prog 29 #[.agg #[.int .i64 r.num, .int .i64 r.wire, .int .u64 r.n, .slice A n c, .slice A' n' c']] w fun e w' => e = .returned (.int .i64 (chkE r : Nat)) ∧ Below w.heap.size w w' := by
  have hW := (hw.alloc h1 (.cells #[.int .i64 r.num, .int .i64 r.wire, .int .u64 r.n, .slice A n c, .slice A' n' c'] 34)).alloc (by simp; omega) (.cells #[.slice A' n' c', .int .i64 0] 70)
  have hR : Rd ((w.alloc (.cells #[.int .i64 r.num, .int .i64 r.wire, .int .u64 r.n, .slice A n c, .slice A' n' c'] 34)).alloc (.cells #[.slice A' n' c', .int .i64 0] 70)) (w.heap.size + 1) A' n' c' 0 := by
    have := Blk.new (w.alloc (.cells #[.int .i64 r.num, .int .i64 r.wire, .int .u64 r.n, .slice A n c, .slice A' n' c'] 34)) 70 #[.slice A' n' c', .int .i64 0]
    simpa [Rd] using this
  have hv := record_any hR hW (by omega) (by omega) hn
  rw [List.drop_zero] at hv
  have hck : chkE r = if (nxR r.raw).1 = 0 then (if rcEq (nxR r.raw).2.1 r then 0 else 2) else 2 := rfl
  generalize chkE r = E at *
  generalize nxR r.raw = R at *
  have HV := Lib.hid hv
  clear hv hR hW
  obtain ⟨e, s, k⟩ := R
  simp only at hck
  have hblk : Blk (w.alloc (.cells #[.int .i64 r.num, .int .i64 r.wire, .int .u64 r.n, .slice A n c, .slice A' n' c'] 34)) w.heap.size 34 #[.int .i64 r.num, .int .i64 r.wire, .int .u64 r.n, .slice A n c, .slice A' n' c'] := Blk.new _ _ _
  have HB0 := Lib.hid hblk
  clear hblk
  by_cases he : e = 0
  · subst he
    rw [if_pos rfl] at hck
    by_cases hs : rcEq s r = true
    · rw [if_pos hs] at hck
      subst hck
      go_enter Try.func29, Try.ntmps29
      go_wp2_with fail
      refine HV.out.mono ?_
      rintro e w1 ⟨v, p1, rfl, ⟨B, m, d, B', m', d', rfl, hsb, hsw⟩, hR1, hG1, hp1, hp2⟩
      obtain ⟨⟨c0, c1, c2, c3, c4⟩, _⟩ := (((HB0.out.alloc _).grown hG1 (by intro h; injection h with h; omega)).alloc (.cells #[.int .i64 s.num, .int .i64 s.wire, .int .u64 s.n, .slice B m d, .slice B' m' d'] 34)).five
      clear hp1 hp2 hR1
      simp only at hsb hsw
      have hz1 : w.heap.size + 2 ≤ w1.heap.size := by have := hG1.size; simpa using this
      have hbel : Below w.heap.size w w1 := (((Below.refl _ _).alloc (Nat.le_refl _) _).alloc (by simp) _).trans (Below.of_only hG1 (by simp <;> omega) (by simp <;> omega))
      have hl := same_any (r := s) (s := r) (hsb.alloc (by omega) (.cells #[.int .i64 s.num, .int .i64 s.wire, .int .u64 s.n, .slice B m d, .slice B' m' d'] 34)) (hsw.alloc (by omega) _) ((hb.below hbel h1).alloc (by omega) _) ((hw.below hbel h1).alloc (by omega) _) (by simp; omega) (by simp; omega)
      rw [hs] at hl
      have HL := Lib.hid hl
      clear hl hs
      go_wp2_with fail
      refine HL.out.mono ?_
      rintro e w2 ⟨rfl, hb2⟩
      go_wp2
      go_ret
      exact ⟨rfl, (hbel.alloc (by omega) _).trans (hb2.mono (by simp; omega))⟩
    · rw [if_neg hs] at hck
      have hs : rcEq s r = false := by simpa using hs
      subst hck
      go_enter Try.func29, Try.ntmps29
      go_wp2_with fail
      refine HV.out.mono ?_
      rintro e w1 ⟨v, p1, rfl, ⟨B, m, d, B', m', d', rfl, hsb, hsw⟩, hR1, hG1, hp1, hp2⟩
      obtain ⟨⟨c0, c1, c2, c3, c4⟩, _⟩ := (((HB0.out.alloc _).grown hG1 (by intro h; injection h with h; omega)).alloc (.cells #[.int .i64 s.num, .int .i64 s.wire, .int .u64 s.n, .slice B m d, .slice B' m' d'] 34)).five
      clear hp1 hp2 hR1
      simp only at hsb hsw
      have hz1 : w.heap.size + 2 ≤ w1.heap.size := by have := hG1.size; simpa using this
      have hbel : Below w.heap.size w w1 := (((Below.refl _ _).alloc (Nat.le_refl _) _).alloc (by simp) _).trans (Below.of_only hG1 (by simp <;> omega) (by simp <;> omega))
      have hl := same_any (r := s) (s := r) (hsb.alloc (by omega) (.cells #[.int .i64 s.num, .int .i64 s.wire, .int .u64 s.n, .slice B m d, .slice B' m' d'] 34)) (hsw.alloc (by omega) _) ((hb.below hbel h1).alloc (by omega) _) ((hw.below hbel h1).alloc (by omega) _) (by simp; omega) (by simp; omega)
      rw [hs] at hl
      have HL := Lib.hid hl
      clear hl hs
      go_wp2_with fail
      refine HL.out.mono ?_
      rintro e w2 ⟨rfl, hb2⟩
      go_wp2
      go_ret
      exact ⟨rfl, (hbel.alloc (by omega) _).trans (hb2.mono (by simp; omega))⟩
  · rw [if_neg he] at hck
    subst hck
    have hne : ((e : Int) != 0) = true := by simp; omega
    clear he
    go_enter Try.func29, Try.ntmps29
    go_wp2_with fail
    refine HV.out.mono ?_
    rintro e w1 ⟨v, p1, rfl, ⟨B, m, d, B', m', d', rfl, hsb, hsw⟩, hR1, hG1, hp1, hp2⟩
    clear hp1 hp2 hR1
    have hz1 : w.heap.size + 2 ≤ w1.heap.size := by have := hG1.size; simpa using this
    have hbel : Below w.heap.size w w1 := (((Below.refl _ _).alloc (Nat.le_refl _) _).alloc (by simp) _).trans (Below.of_only hG1 (by simp <;> omega) (by simp <;> omega))
    go_wp2
    go_ret
    exact ⟨rfl, hbel.alloc (by omega) _⟩
end Go.Proofs.Ytlckppmggklinaa
