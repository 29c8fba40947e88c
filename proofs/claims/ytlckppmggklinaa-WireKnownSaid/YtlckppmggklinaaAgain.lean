/-
  WireAgain, walked.
-/
import Derived.Test.YtlckppmggklinaaFacts
import Derived.Test.YtlckppmggklinaaNumbers
import Derived.Lib.QuietBelow
namespace Go.Proofs.Ytlckppmggklinaa
open Go.RowKit
set_option linter.unusedVariables false
attribute [local go_sem ↓] Go.wp_at_zero Go.wp_at_succ

theorem spL_err (l : List UInt8) (h : (spL l).1 ≠ 0) : (spL l).2 = [] := by
  by_cases hl : l = []
  · subst hl; rfl
  by_cases he : (nxR l).1 = 0
  · rw [spL_ok l hl he] at h ⊢
    by_cases h2 : (spL (l.drop (nxR l).2.2)).1 ≠ 0
    · rw [if_pos h2]
    · rw [if_neg h2] at h; simp at h
  · rw [spL_bad l hl he]

set_option maxRecDepth 100000 in
set_option maxHeartbeats 1000000 in
theorem cut_core {w : World} {n c k : Nat} {A : Option Addr} (hk : k ≤ c) (hmin : min (n : Int) 400 = (k : Int)) :
    Calls Try.prog 23 #[.slice A n c] w fun e w' => e = .returned (.slice A k c) ∧ w = w' := by
  go_enter Try.func23, Try.ntmps23
  go_wp2
  go_ret
  exact ⟨rfl, rfl⟩
theorem cut_any {w : World} {lo hi n c : Nat} {A : Option Addr} {l : List UInt8} (h : Bs w lo hi A n c l) :
    ∃ k L, k ≤ 400 ∧ Bs w lo hi A k c L ∧ ∀ W : World, Calls Try.prog 23 #[.slice A n c] W fun e w' => e = .returned (.slice A k c) ∧ W = w' := by
  have hle := h.le
  by_cases hn : n ≤ 400
  · exact ⟨n, l, hn, h, fun W => cut_core hle (by omega)⟩
  · exact ⟨400, l.take 400, by omega, h.pre (by omega), fun W => cut_core (by omega) (by omega)⟩

theorem cells10 {W W' : World} (hb : Below W.heap.size W W') {q b o i : Nat} (hq : q < W.heap.size) (hbb : b < W.heap.size) {v0 v1 v2 v3 v4 u0 u1 u2 u3 u4 : Value}
    (h : W.cell? ⟨q, 0, none⟩ = some v0 ∧ W.cell? ⟨q, 1, none⟩ = some v1 ∧ W.cell? ⟨q, 2, none⟩ = some v2 ∧ W.cell? ⟨q, 3, none⟩ = some v3 ∧ W.cell? ⟨q, 4, none⟩ = some v4 ∧
      W.cell? ⟨b, o + i * 5, none⟩ = some u0 ∧ W.cell? ⟨b, o + i * 5 + 1, none⟩ = some u1 ∧ W.cell? ⟨b, o + i * 5 + 2, none⟩ = some u2 ∧ W.cell? ⟨b, o + i * 5 + 3, none⟩ = some u3 ∧ W.cell? ⟨b, o + i * 5 + 4, none⟩ = some u4) :
    W'.cell? ⟨q, 0, none⟩ = some v0 ∧ W'.cell? ⟨q, 1, none⟩ = some v1 ∧ W'.cell? ⟨q, 2, none⟩ = some v2 ∧ W'.cell? ⟨q, 3, none⟩ = some v3 ∧ W'.cell? ⟨q, 4, none⟩ = some v4 ∧
      W'.cell? ⟨b, o + i * 5, none⟩ = some u0 ∧ W'.cell? ⟨b, o + i * 5 + 1, none⟩ = some u1 ∧ W'.cell? ⟨b, o + i * 5 + 2, none⟩ = some u2 ∧ W'.cell? ⟨b, o + i * 5 + 3, none⟩ = some u3 ∧ W'.cell? ⟨b, o + i * 5 + 4, none⟩ = some u4 := by
  have hc : ∀ g i, g < W.heap.size → W'.cell? ⟨g, i, none⟩ = W.cell? ⟨g, i, none⟩ := fun g i hg => hb.cell (p := ⟨g, i, none⟩) hg
  rw [hc _ _ hq, hc _ _ hq, hc _ _ hq, hc _ _ hq, hc _ _ hq, hc _ _ hbb, hc _ _ hbb, hc _ _ hbb, hc _ _ hbb, hc _ _ hbb]
  exact h

set_option maxRecDepth 100000 in
set_option maxHeartbeats 4000000 in
theorem again_bad {w : World} {k c e : Nat} {n : Nat} {A : Option Addr} {L : List UInt8} (hB : Bs w 0 w.heap.size A k c L) (hk : k ≤ 400) (hcut : ∀ W : World, Calls Try.prog 23 #[.slice A n c] W fun e w' => e = .returned (.slice A k c) ∧ W = w')
    (hsp : spL L = (e, [])) (he : e ≠ 0) :
    Calls Try.prog 8 #[.slice A n c] w fun e w' => e = .returned (.bool true) ∧ Below w.heap.size w w' := by
  have hll := hB.len
  have hS := split_any hB (Nat.le_refl _) (by omega)
  rw [show spR L = (e, []) by unfold spR; rw [if_neg (by omega), hsp]] at hS
  have HS := Lib.hid hS
  have HC := Lib.hid hcut
  have hne : ((e : Int) != 0) = true := by simp; omega
  clear hS hcut hsp he
  go_enter Try.func8, Try.ntmps8
  go_wp2_with fail
  refine (HC.out _).mono ?_
  rintro e _ ⟨rfl, rfl⟩
  go_wp2_with fail
  refine HS.out.mono ?_
  rintro e w1 ⟨A1, c1, rfl, _, hb1⟩
  go_wp2_with fail
  refine (works_any _).mono ?_
  rintro e w2 ⟨rfl, hb2⟩
  go_wp2
  go_ret
  exact ⟨rfl, hb1.trans (hb2.mono hb1.size)⟩

set_option maxRecDepth 100000 in
set_option maxHeartbeats 4000000 in
theorem again_ok {w : World} {k c : Nat} {n : Nat} {A : Option Addr} {L : List UInt8} {rs : List Rc} (hB : Bs w 0 w.heap.size A k c L) (hk : k ≤ 400) (hcut : ∀ W : World, Calls Try.prog 23 #[.slice A n c] W fun e w' => e = .returned (.slice A k c) ∧ W = w')
    (hsp : spL L = (0, rs)) (hgood : ∀ r ∈ rs, Good r) (hcat : rawCat rs = L) :
    Calls Try.prog 8 #[.slice A n c] w fun e w' => e = .returned (.bool true) ∧ Below w.heap.size w w' := by
  have hll := hB.len
  have hS := split_any hB (Nat.le_refl _) (by omega)
  rw [show spR L = (0, rs) by unfold spR; rw [if_neg (by omega), hsp]] at hS
  have hby : byR rs = (0, L) := by rw [byR_good hgood, hcat, if_neg (by omega)]
  have hraw : ∀ r ∈ rs, r.raw.length ≤ 400 := fun r hr => by
    have := rawCat_mem_le rs r hr
    rw [hcat] at this; omega
  have hrl : rs.length ≤ 400 := by
    have := rawCat_len rs (fun r hr => good_pos (hgood r hr))
    rw [hcat] at this; omega
  have HS := Lib.hid hS
  have HC := Lib.hid hcut
  have HBY := Lib.hid hby
  have HG := Lib.hid hgood
  have HRW := Lib.hid hraw
  clear hS hcut hsp hby hgood hcat hraw
  go_enter Try.func8, Try.ntmps8
  go_wp2_with fail
  refine (HC.out _).mono ?_
  rintro e _ ⟨rfl, rfl⟩
  go_wp2_with fail
  refine HS.out.mono ?_
  rintro e w1 ⟨A1, c1, rfl, hR, hb1⟩
  obtain ⟨N, hN⟩ : ∃ N, N = rs.length := ⟨_, rfl⟩
  simp only [← hN] at *
  have hBy := bytes_any hR (Nat.le_refl _) (by omega) (fun r hr => by have := HRW.out r hr; omega)
  rw [HBY.out] at hBy
  have HBB := Lib.hid hBy
  have HN := Lib.hid hN
  clear hBy hN
  go_wp2_with fail
  refine HBB.out.mono ?_
  rintro e w2 ⟨v2, rfl, ho2, hb2⟩
  obtain ⟨A2, k2, c2, rfl⟩ := ho2.val
  have hs1 := hb1.size
  have hs2 := hb2.size
  have hE := eqb_any ((hB.below hb1 (Nat.le_refl _)).below hb2 (by omega)) ho2.toBs
  rw [show (L == L) = true by simp] at hE
  have HE := Lib.hid hE
  clear hE ho2
  go_wp2_with fail
  refine HE.out.mono ?_
  rintro e _ ⟨rfl, rfl⟩
  have hR2 := (hR.kept (.of_below hb2 (Nat.le_refl _)))
  have hB2 := hb1.trans (hb2.mono hs1)
  clear HE hR hb1 hb2 HBB HS HC
  go_wp2_with fail
  go_loopw [7] (fun j wr => ∃ i : Nat, j = .int .i64 i ∧ i ≤ N ∧ Below w2.heap.size w2 wr) (fun j _ => N - (intOf j).toNat)
  case atStart => exact ⟨0, rfl, by omega, Below.refl _ _⟩
  case round =>
    obtain ⟨i, rfl, hin, hbel⟩ := hrel
    have hsr := hbel.size
    by_cases hlt : i < N
    · have hS' := hR2.kept (.of_below hbel hs2)
      obtain ⟨b, o, r, B, m, d, B', m', d', rfl, hbh, hr, hsb, hsw, g0, g1, g2, g3, g4⟩ := hS'.at_ hlt
      have hmem := List.mem_of_getElem? hr
      have hgd := HG.out r hmem
      have hrw := HRW.out r hmem
      have hNx := next_any hsw (by omega) (by have := hsw.len; omega)
      rw [show nxR r.raw = _ from hgd] at hNx
      have hml : m' = r.raw.length := hsw.len.symm
      obtain ⟨kk, hkk⟩ : ∃ kk, kk = r.raw.length := ⟨_, rfl⟩
      rw [← hkk] at hNx
      have e1 : ((kk : Int) != (m' : Int)) = false := by simp; omega
      have hfm := hgd.form
      have hck := hgd.chk
      have HNX := Lib.hid hNx
      have hi0' : (0 : Int) ≤ (i : Int) := by omega
      have hi1' : (i : Int) < (N : Int) := by omega
      clear hNx hml hkk hmem hr hS' hgd
      go_wp2_with fail
      refine HNX.out.mono ?_
      rintro e w3 ⟨v3, rfl, ⟨vb, vr, rfl, ob, orr⟩, hb3⟩
      obtain ⟨Ab, kb, cb, rfl⟩ := ob.val
      obtain ⟨Ar, kr, cr, rfl⟩ := orr.val
      have hs3 := hb3.size
      have hkb := Lib.hid ob.toBs.len
      simp only at ob orr
      have hx1 := ob.toBs.alloc (Nat.le_refl _) (.cells #[.int .i64 r.num, .int .i64 r.wire, .int .u64 r.n, .slice Ab kb cb, .slice Ar kr cr] 34)
      have hx2 := orr.toBs.alloc (Nat.le_refl _) (.cells #[.int .i64 r.num, .int .i64 r.wire, .int .u64 r.n, .slice Ab kb cb, .slice Ar kr cr] 34)
      have hy1 := (hsb.below hb3 (by omega)).alloc (by omega) (.cells #[.int .i64 r.num, .int .i64 r.wire, .int .u64 r.n, .slice Ab kb cb, .slice Ar kr cr] 34)
      have hy2 := (hsw.below hb3 (by omega)).alloc (by omega) (.cells #[.int .i64 r.num, .int .i64 r.wire, .int .u64 r.n, .slice Ab kb cb, .slice Ar kr cr] 34)
      obtain ⟨⟨p0, p1, p2, p3, p4⟩, _⟩ := (Blk.new w3 34 #[.int .i64 r.num, .int .i64 r.wire, .int .u64 r.n, .slice Ab kb cb, .slice Ar kr cr]).five
      have hold : ∀ j, (w3.alloc (.cells #[.int .i64 r.num, .int .i64 r.wire, .int .u64 r.n, .slice Ab kb cb, .slice Ar kr cr] 34)).cell? ⟨b, j, none⟩ = wr.cell? ⟨b, j, none⟩ := fun j =>
        (World.cell?_alloc_lt w3 _ ⟨b, j, none⟩ (by simp; omega)).trans (hb3.cell (p := ⟨b, j, none⟩) (by simp; omega))
      have n0 := (hold _).trans g0
      have n1 := (hold _).trans g1
      have n2 := (hold _).trans g2
      have n3 := (hold _).trans g3
      have n4 := (hold _).trans g4
      have hB3 : Below w2.heap.size w2 (w3.alloc (.cells #[.int .i64 r.num, .int .i64 r.wire, .int .u64 r.n, .slice Ab kb cb, .slice Ar kr cr] 34)) := (hbel.trans (hb3.mono hbel.size)).alloc (by omega) _
      have hz3 : (w3.alloc (.cells #[.int .i64 r.num, .int .i64 r.wire, .int .u64 r.n, .slice Ab kb cb, .slice Ar kr cr] 34)).heap.size = w3.heap.size + 1 := by simp
      have hkr : kr ≤ 2147483648 := by have := orr.toBs.len; omega
      clear hold ob orr hsb hsw hb3 g0 g1 g2 g3 g4
      go_wp2_with fail
      generalize w3.alloc (.cells #[.int .i64 r.num, .int .i64 r.wire, .int .u64 r.n, .slice Ab kb cb, .slice Ar kr cr] 34) = W3 at *
      have hSm : ∀ W, Below W3.heap.size W3 W → Calls Try.prog 28 #[.agg #[.int .i64 r.num, .int .i64 r.wire, .int .u64 r.n, .slice Ab kb cb, .slice Ar kr cr], .agg #[.int .i64 r.num, .int .i64 r.wire, .int .u64 r.n, .slice B m d, .slice B' m' d']] W fun e w' => e = .returned (.bool true) ∧ Below W.heap.size W w' := fun W h => by
        have hs := h.size
        have := same_any (r := r) (s := r) (hx1.below h (by omega)) (hx2.below h (by omega)) (hy1.below h (by omega)) (hy2.below h (by omega)) (by omega) (by omega)
        rwa [rcEq_refl r] at this
      have hCk : ∀ W, Below W3.heap.size W3 W → Calls Try.prog 29 #[.agg #[.int .i64 r.num, .int .i64 r.wire, .int .u64 r.n, .slice Ab kb cb, .slice Ar kr cr]] W fun e w' => e = .returned (.int .i64 0) ∧ Below W.heap.size W w' := fun W h => by
        have hs := h.size
        have := check_any (r := r) (hx1.below h (by omega)) (hx2.below h (by omega)) (by omega) (by omega)
        rwa [hck] at this
      have cSm := fun d os => Calls.regrown_of (hSm _ (below_regrown W3 d os))
      have cCk := fun d os => Calls.regrown_of (hCk _ (below_regrown W3 d os))
      replace p0 := cell_regrown p0
      replace p1 := cell_regrown p1
      replace p2 := cell_regrown p2
      replace p3 := cell_regrown p3
      replace p4 := cell_regrown p4
      replace n0 := cell_regrown n0
      replace n1 := cell_regrown n1
      replace n2 := cell_regrown n2
      replace n3 := cell_regrown n3
      replace n4 := cell_regrown n4
      clear hSm hCk hx1 hx2 hy1 hy2 hck hz3
      by_cases hw2 : r.wire = 2
      · have hf := hfm.2 hw2
        have e2 : (r.wire != 2) = false := by simp [hw2]
        have e3 : (r.wire == 2) = true := by simp [hw2]
        have e4 : ((r.n : Int) != 0) = false := by simp [hf]
        clear hf hfm hw2 hkb
        go_wp2_with fail
        refine wp_region_quiet_below (by kernel_rfl) (by kernel_rfl) ?_
        repeat (first | go_big_quiet_step (first | exact cSm _ _ | exact cCk _ _) | quiet_step (first | exact cSm _ _ | exact cCk _ _))
        refine wpQuiet_nil ?_
        intro _ hw'
        obtain ⟨⟨dq, osq⟩, hw''⟩ := hw'
        subst hw''
        have hbq := below_regrown W3 dq osq
        clear cSm cCk
        go_wp2
        go_roundw
        case rel => exact ⟨i + 1, by go_num, by omega, hB3.trans (hbq.mono hB3.size)⟩
        case measure => simp [intOf]; omega
      · have hf := hfm.1.resolve_left hw2
        have e2 : (r.wire != 2) = true := by simp [hw2]
        have e3 : (r.wire == 2) = false := by simp [hw2]
        have hk0 : kb ≤ 0 := by have := hkb.out; rw [hf] at this; simp at this; omega
        have e4 : decide ((0 : Int) < (kb : Int)) = false := by simp; omega
        clear hf hfm hw2 hkb
        go_wp2_with fail
        refine wp_region_quiet_below (by kernel_rfl) (by kernel_rfl) ?_
        repeat (first | go_big_quiet_step (first | exact cSm _ _ | exact cCk _ _) | quiet_step (first | exact cSm _ _ | exact cCk _ _))
        refine wpQuiet_nil ?_
        intro _ hw'
        obtain ⟨⟨dq, osq⟩, hw''⟩ := hw'
        subst hw''
        have hbq := below_regrown W3 dq osq
        clear cSm cCk
        go_wp2
        go_roundw
        case rel => exact ⟨i + 1, by go_num, by omega, hB3.trans (hbq.mono hB3.size)⟩
        case measure => simp [intOf]; omega
    · go_wp2_with fail
      refine (works_any _).mono ?_
      rintro e w3 ⟨rfl, hb3⟩
      go_wp2
      go_ret
      have hB3 := hB2.trans (hbel.mono hB2.size)
      exact ⟨rfl, hB3.trans (hb3.mono hB3.size)⟩

theorem again_any {w : World} {n c : Nat} {A : Option Addr} {l : List UInt8} (hB : Bs w 0 w.heap.size A n c l) :
    Calls Try.prog 8 #[.slice A n c] w fun e w' => e = .returned (.bool true) ∧ Below w.heap.size w w' := by
  obtain ⟨k, L, hk, hL, hcut⟩ := cut_any hB
  by_cases he : (spL L).1 = 0
  · obtain ⟨hg, hcat⟩ := spL_good L.length L (Nat.le_refl _) he
    have e : spL L = (0, (spL L).2) := by rw [← he]
    exact again_ok hL hk hcut e hg hcat
  · have e : spL L = ((spL L).1, []) := by rw [← spL_err L he]
    exact again_bad hL hk hcut e he
end Go.Proofs.Ytlckppmggklinaa
