/-
  The document's answer: Next, of numbers of eight and of four bytes.
-/
import Derived.Test.YtlckppmggklinaaRNext
namespace Go.Proofs.Ytlckppmggklinaa
open Go.RowKit
set_option linter.unusedVariables false
attribute [local go_sem ↓] Go.wp_at_zero Go.wp_at_succ

/-- The world ahead of the answer of the document's Next. -/
structure RnS (w W : World) (num wire : Int) (N : Nat) (vb : Value) : Prop where
  res : Blk W w.heap.size 34 #[.int .i64 0, .int .i64 0, .int .u64 0, .slice none 0 0, .slice none 0 0]
  rec_ : Blk W (w.heap.size + 1) 34 #[.int .i64 num, .int .i64 wire, .int .u64 N, vb, .slice none 0 0]
  bel : Below w.heap.size w W
theorem RnS.start (w : World) (num wire : Int) (N : Nat) (vb : Value) :
    RnS w ((w.alloc (.cells #[.int .i64 0, .int .i64 0, .int .u64 0, .slice none 0 0, .slice none 0 0] 34)).alloc (.cells #[.int .i64 num, .int .i64 wire, .int .u64 N, vb, .slice none 0 0] 34)) num wire N vb := by
  refine ⟨(Blk.new _ _ _).alloc _, ?_, ((Below.refl _ _).alloc (Nat.le_refl _) _).alloc (by simp) _⟩
  have := Blk.new (w.alloc (.cells #[.int .i64 0, .int .i64 0, .int .u64 0, .slice none 0 0, .slice none 0 0] 34)) 34 #[.int .i64 num, .int .i64 wire, .int .u64 N, vb, .slice none 0 0]
  simpa using this
theorem RnS.drew {w W : World} {num wire : Int} {N : Nat} {vb : Value} (h : RnS w W num wire N vb) : RnS w W.drew num wire N vb := ⟨h.res, h.rec_, h.bel.drew⟩
theorem RnS.setN {w W : World} {num wire : Int} {N : Nat} {vb : Value} (h : RnS w W num wire N vb) (M : Nat) {v : Value} (hv : v = .int .u64 M) : RnS w (W.setCell ⟨w.heap.size + 1, 2, none⟩ v) num wire M vb := by
  subst hv
  exact ⟨h.res.far (by simp) _, by have := h.rec_.set_ 2 (.int .u64 M); exact this, h.bel.setCell (by simp) _⟩
theorem RnS.setB {w W : World} {num wire : Int} {N : Nat} {vb : Value} (h : RnS w W num wire N vb) (v : Value) : RnS w (W.setCell ⟨w.heap.size + 1, 3, none⟩ v) num wire N v :=
  ⟨h.res.far (by simp) _, by have := h.rec_.set_ 3 v; exact this, h.bel.setCell (by simp) _⟩
theorem RnS.new {w W W' : World} {num wire : Int} {N : Nat} {vb : Value} (h : RnS w W num wire N vb) (hb : Below W.heap.size W W') : RnS w W' num wire N vb :=
  ⟨h.res.below hb h.res.lt, h.rec_.below hb h.rec_.lt, h.bel.trans (hb.mono h.bel.size)⟩
theorem RnS.fin {w W W2 : World} {num wire : Int} {N : Nat} {vb v2 : Value} {bb raw : List UInt8} (h : RnS w W num wire N vb) (ob : Own W (w.heap.size + 1) vb bb) (nb : vb.ownBlock ≠ some (w.heap.size + 1))
    (hb : Below W.heap.size W W2) (o2 : Own W2 W.heap.size v2 raw) : MkFin w (W2.setCell ⟨w.heap.size + 1, 4, none⟩ v2) (w.heap.size + 1) ⟨num, wire, N, bb, raw⟩ vb v2 :=
  rn_fin h.res h.rec_ h.bel (by omega) ob nb hb o2

theorem dn_step {X : UInt8} {L r : List UInt8} (hX : L = X :: r) (hs : L.length ≤ 8) :
    Value.int .u64 (IntKind.u64.wrap (IntKind.u64.wrap (256 * (leN r : Int)) + (X.toNat : Int))) = .int .u64 ((leN L : Nat) : Int) := by
  have h1 := leN_lt r
  have h2 := UInt8.toNat_lt X
  subst hX
  simp only [List.length_cons] at hs
  have h3 : (256 : Nat) ^ r.length ≤ 256 ^ 7 := Nat.pow_le_pow_right (by decide) (by omega)
  have hw : IntKind.u64.wrap (256 * (leN r : Int)) = 256 * (leN r : Int) := by rw [IntKind.wrap_u64]; omega
  rw [hw, IntKind.wrap_u64, leN]
  congr 1
  omega
theorem dn_cons {l : List UInt8} {k i s : Nat} {X : UInt8} (hX : l.drop (k + i) = X :: l.drop (k + i + 1)) (hi : i < s) : ((l.drop k).take s).drop i = X :: ((l.drop k).take s).drop (i + 1) := by
  rw [List.drop_take, List.drop_drop, hX, List.drop_take, List.drop_drop, show s - i = (s - (i + 1)) + 1 by omega, List.take_succ_cons, Nat.add_assoc]

set_option maxRecDepth 100000 in
set_option maxHeartbeats 2000000 in
theorem rnext_1 {w : World} {lo hi n c m k : Nat} {A : Option Addr} {l : List UInt8} (hB : Bs w lo hi A n c l) (hhi : hi ≤ w.heap.size) (hn : n ≤ 2147483648) (hr : rv l 0 0 = (0, m, k)) (h1 : 1 ≤ m / 8) (h2 : m / 8 ≤ 536870911)
    (h3 : m % 8 = 1) :
    Calls Try.prog 32 #[.slice A n c] w (NextP w (nxR l)) := by
  have hbr : bdR (m % 8) (l.drop k) = fxR 8 (l.drop k) := by rw [h3]; rfl
  have hl := hB.len
  have hbd := rv_bound l 0 0 (by omega) (by decide)
  rw [hr] at hbd
  have hkb := hbd.2 rfl
  have hm64 := hbd.1
  simp only at hm64 hkb
  have hnx0 : n < k + 8 → nxR l = (3, .zero, 0) := fun he => by
    have : fxR 8 (l.drop k) = (3, 0, [], 0) := by unfold fxR; rw [if_pos (by simp; omega)]
    unfold nxR; rw [hr]; simp only; rw [if_neg (by simp), if_neg (by omega), hbr, this]; simp
  have hnx1 : ¬ n < k + 8 → nxR l = (0, ⟨(m : Int) / 8, 1, leN ((l.drop k).take 8), [], l.take (k + 8)⟩, k + 8) := fun he => by
    have : fxR 8 (l.drop k) = (0, leN ((l.drop k).take 8), [], 8) := by unfold fxR; rw [if_neg (by simp; omega)]
    unfold nxR; rw [hr]; simp only; rw [if_neg (by simp), if_neg (by omega), hbr, this]; simp only; rw [if_neg (by simp), h3]; rfl
  have HN := num_of hB hhi (Nat.zero_le _) hn 0 m k (by rw [List.drop_zero]; exact hr)
  rw [show endOf 0 (0, m, k) = k by simp [endOf]] at HN
  have g2 : ¬ (m : Int) / 8 < 1 := by omega
  have g3 : ¬ (536870911 : Int) < (m : Int) / 8 := by omega
  have g4 : (m : Int) % 8 = 1 := by omega
  by_cases he : n < k + 8
  · have hne : (8 : Int) > (n : Int) - (k : Int) := by omega
    have hne2 : (n : Int) - (k : Int) < 8 := by omega
    have HX := Lib.hid (hnx0 he)
    clear hnx0 hnx1 hr hbr hbd hB h3 he
    go_enter Try.func32, Try.ntmps32
    go_wp2_with fail
    refine (HN.out _ ((Below.refl _ _).alloc (Nat.le_refl _) _)).mono ?_
    rintro x _ ⟨rfl, rfl⟩
    go_wp2
    exact bodyPost_ret (results_rec3 Try.results32 _ _ w.heap.size _ _ _ _ _ rfl ((Blk.new _ _ _).alloc _)) rfl (rn_err1 (e := 3) HX.out)
  · have HX := Lib.hid (hnx1 he)
    have hne2 : ¬ (n : Int) - (k : Int) < 8 := by omega
    have HBs := Lib.hid (fun (W : World) (h : Below w.heap.size w W) => (hB.below h hhi).pre (k := k + 8) (by omega))
    have HBd := Lib.hid (fun (W : World) (h : Below w.heap.size w W) => hB.below h hhi)
    have hcap := hB.le
    have i2 : (k : Int) + 8 ≤ (c : Int) := by omega
    have hks : k + 8 ≤ n := by omega
    obtain ⟨D, hD⟩ : ∃ D, D = (l.drop k).take 8 := ⟨_, rfl⟩
    have hDl : D.length = 8 := by rw [hD]; simp; omega
    rw [← hD] at HX
    have HD := Lib.hid hD
    have HDl := Lib.hid hDl
    clear hnx0 hnx1 hr hbr hbd hB h3 he hD hDl
    go_enter Try.func32, Try.ntmps32
    go_wp2_with fail
    refine (HN.out _ ((Below.refl _ _).alloc (Nat.le_refl _) _)).mono ?_
    rintro x _ ⟨rfl, rfl⟩
    go_wp2_with fail
    go_loopw [16] (fun j wr => ∃ i : Nat, j = .int .i64 ((i : Int) - 1) ∧ i ≤ 8 ∧ RnS w wr ((m : Int) / 8) 1 (leN (D.drop i)) (.slice none 0 0)) (fun j _ => (intOf j + 1).toNat)
    case atStart => exact ⟨8, rfl, by omega, by rw [List.drop_eq_nil_of_le (by rw [HDl.out]; omega)]; exact RnS.start _ _ _ _ _⟩
    case round =>
      obtain ⟨i, rfl, hi, hs⟩ := hrel
      rcases i with _ | i
      · have hbel := hs.bel
        obtain ⟨⟨d0, d1, d2, d3, d4⟩, ⟨e0, e1, e2, e3, e4⟩⟩ := hs.rec_.five
        obtain ⟨⟨r0, r1, r2, r3, r4⟩, ⟨q0, q1, q2, q3, q4⟩⟩ := hs.res.five
        have HS := Lib.hid hs
        clear hs
        go_wp2_with fail
        refine (copyBytes_any (HBs.out _ hbel) (by simp; omega)).mono ?_
        rintro x W2 ⟨v2, rfl, ho, hb⟩
        obtain ⟨A2, n2, c2, rfl⟩ := ho.val
        have HF := Lib.hid (HS.out.fin (Own.nil _ _) (by simp [Value.ownBlock]) hb ho)
        have hs2 := HS.out.new hb
        clear d0 d1 d2 d3 d4 e0 e1 e2 e3 e4 r0 r1 r2 r3 r4 q0 q1 q2 q3 q4
        obtain ⟨⟨d0, d1, d2, d3, d4⟩, ⟨e0, e1, e2, e3, e4⟩⟩ := hs2.rec_.five
        obtain ⟨⟨r0, r1, r2, r3, r4⟩, ⟨q0, q1, q2, q3, q4⟩⟩ := hs2.res.five
        clear hbel hs2 hb ho
        go_wp2
        exact bodyPost_ret (results_rec3 Try.results32 _ _ w.heap.size _ _ _ _ _ rfl HF.out.end_.1) rfl (HF.out.next HX.out)
      · rw [show (((i + 1 : Nat) : Int) - 1) = (i : Int) by omega]
        obtain ⟨X, b, o, rfl, hbh, hdr, hcx⟩ := (HBd.out _ hs.bel).drop_at (p := k + i) (by omega)
        have hC := dn_cons (s := 8) hdr (by omega)
        rw [← HD.out] at hC
        have HL := Lib.hid (dn_step hC (by rw [List.length_drop, HDl.out]; omega))
        clear hC
        obtain ⟨x, hx⟩ : ∃ x, x = X.toNat := ⟨_, rfl⟩
        rw [← hx] at hcx HL
        have hx256 : x < 256 := by rw [hx]; exact UInt8.toNat_lt _
        have Hx := Lib.hid hx
        have j0 : (0 : Int) ≤ (k : Int) + (i : Int) := by omega
        have j1 : (k : Int) + (i : Int) < (n : Int) := by omega
        clear hdr hx
        obtain ⟨⟨d0, d1, d2, d3, d4⟩, ⟨e0, e1, e2, e3, e4⟩⟩ := hs.rec_.five
        have HS := Lib.hid hs
        clear hs
        generalize leN (D.drop (i + 1)) = N at *
        go_wp2_with fail
        go_region
        go_wp2
        exact ⟨⟨i, rfl, by omega, HS.out.drew.setN _ HL.out⟩, by simp [intOf]⟩

set_option maxRecDepth 100000 in
set_option maxHeartbeats 2000000 in
theorem rnext_5 {w : World} {lo hi n c m k : Nat} {A : Option Addr} {l : List UInt8} (hB : Bs w lo hi A n c l) (hhi : hi ≤ w.heap.size) (hn : n ≤ 2147483648) (hr : rv l 0 0 = (0, m, k)) (h1 : 1 ≤ m / 8) (h2 : m / 8 ≤ 536870911)
    (h3 : m % 8 = 5) :
    Calls Try.prog 32 #[.slice A n c] w (NextP w (nxR l)) := by
  have hbr : bdR (m % 8) (l.drop k) = fxR 4 (l.drop k) := by rw [h3]; rfl
  have hl := hB.len
  have hbd := rv_bound l 0 0 (by omega) (by decide)
  rw [hr] at hbd
  have hkb := hbd.2 rfl
  have hm64 := hbd.1
  simp only at hm64 hkb
  have hnx0 : n < k + 4 → nxR l = (3, .zero, 0) := fun he => by
    have : fxR 4 (l.drop k) = (3, 0, [], 0) := by unfold fxR; rw [if_pos (by simp; omega)]
    unfold nxR; rw [hr]; simp only; rw [if_neg (by simp), if_neg (by omega), hbr, this]; simp
  have hnx1 : ¬ n < k + 4 → nxR l = (0, ⟨(m : Int) / 8, 5, leN ((l.drop k).take 4), [], l.take (k + 4)⟩, k + 4) := fun he => by
    have : fxR 4 (l.drop k) = (0, leN ((l.drop k).take 4), [], 4) := by unfold fxR; rw [if_neg (by simp; omega)]
    unfold nxR; rw [hr]; simp only; rw [if_neg (by simp), if_neg (by omega), hbr, this]; simp only; rw [if_neg (by simp), h3]; rfl
  have HN := num_of hB hhi (Nat.zero_le _) hn 0 m k (by rw [List.drop_zero]; exact hr)
  rw [show endOf 0 (0, m, k) = k by simp [endOf]] at HN
  have g2 : ¬ (m : Int) / 8 < 1 := by omega
  have g3 : ¬ (536870911 : Int) < (m : Int) / 8 := by omega
  have g4 : (m : Int) % 8 = 5 := by omega
  by_cases he : n < k + 4
  · have hne : (4 : Int) > (n : Int) - (k : Int) := by omega
    have hne2 : (n : Int) - (k : Int) < 4 := by omega
    have HX := Lib.hid (hnx0 he)
    clear hnx0 hnx1 hr hbr hbd hB h3 he
    go_enter Try.func32, Try.ntmps32
    go_wp2_with fail
    refine (HN.out _ ((Below.refl _ _).alloc (Nat.le_refl _) _)).mono ?_
    rintro x _ ⟨rfl, rfl⟩
    go_wp2
    exact bodyPost_ret (results_rec3 Try.results32 _ _ w.heap.size _ _ _ _ _ rfl ((Blk.new _ _ _).alloc _)) rfl (rn_err1 (e := 3) HX.out)
  · have HX := Lib.hid (hnx1 he)
    have hne2 : ¬ (n : Int) - (k : Int) < 4 := by omega
    have HBs := Lib.hid (fun (W : World) (h : Below w.heap.size w W) => (hB.below h hhi).pre (k := k + 4) (by omega))
    have HBd := Lib.hid (fun (W : World) (h : Below w.heap.size w W) => hB.below h hhi)
    have hcap := hB.le
    have i2 : (k : Int) + 4 ≤ (c : Int) := by omega
    have hks : k + 4 ≤ n := by omega
    obtain ⟨D, hD⟩ : ∃ D, D = (l.drop k).take 4 := ⟨_, rfl⟩
    have hDl : D.length = 4 := by rw [hD]; simp; omega
    rw [← hD] at HX
    have HD := Lib.hid hD
    have HDl := Lib.hid hDl
    clear hnx0 hnx1 hr hbr hbd hB h3 he hD hDl
    go_enter Try.func32, Try.ntmps32
    go_wp2_with fail
    refine (HN.out _ ((Below.refl _ _).alloc (Nat.le_refl _) _)).mono ?_
    rintro x _ ⟨rfl, rfl⟩
    go_wp2_with fail
    go_loopw [16] (fun j wr => ∃ i : Nat, j = .int .i64 ((i : Int) - 1) ∧ i ≤ 4 ∧ RnS w wr ((m : Int) / 8) 5 (leN (D.drop i)) (.slice none 0 0)) (fun j _ => (intOf j + 1).toNat)
    case atStart => exact ⟨4, rfl, by omega, by rw [List.drop_eq_nil_of_le (by rw [HDl.out]; omega)]; exact RnS.start _ _ _ _ _⟩
    case round =>
      obtain ⟨i, rfl, hi, hs⟩ := hrel
      rcases i with _ | i
      · have hbel := hs.bel
        obtain ⟨⟨d0, d1, d2, d3, d4⟩, ⟨e0, e1, e2, e3, e4⟩⟩ := hs.rec_.five
        obtain ⟨⟨r0, r1, r2, r3, r4⟩, ⟨q0, q1, q2, q3, q4⟩⟩ := hs.res.five
        have HS := Lib.hid hs
        clear hs
        go_wp2_with fail
        refine (copyBytes_any (HBs.out _ hbel) (by simp; omega)).mono ?_
        rintro x W2 ⟨v2, rfl, ho, hb⟩
        obtain ⟨A2, n2, c2, rfl⟩ := ho.val
        have HF := Lib.hid (HS.out.fin (Own.nil _ _) (by simp [Value.ownBlock]) hb ho)
        have hs2 := HS.out.new hb
        clear d0 d1 d2 d3 d4 e0 e1 e2 e3 e4 r0 r1 r2 r3 r4 q0 q1 q2 q3 q4
        obtain ⟨⟨d0, d1, d2, d3, d4⟩, ⟨e0, e1, e2, e3, e4⟩⟩ := hs2.rec_.five
        obtain ⟨⟨r0, r1, r2, r3, r4⟩, ⟨q0, q1, q2, q3, q4⟩⟩ := hs2.res.five
        clear hbel hs2 hb ho
        go_wp2
        exact bodyPost_ret (results_rec3 Try.results32 _ _ w.heap.size _ _ _ _ _ rfl HF.out.end_.1) rfl (HF.out.next HX.out)
      · rw [show (((i + 1 : Nat) : Int) - 1) = (i : Int) by omega]
        obtain ⟨X, b, o, rfl, hbh, hdr, hcx⟩ := (HBd.out _ hs.bel).drop_at (p := k + i) (by omega)
        have hC := dn_cons (s := 4) hdr (by omega)
        rw [← HD.out] at hC
        have HL := Lib.hid (dn_step hC (by rw [List.length_drop, HDl.out]; omega))
        clear hC
        obtain ⟨x, hx⟩ : ∃ x, x = X.toNat := ⟨_, rfl⟩
        rw [← hx] at hcx HL
        have hx256 : x < 256 := by rw [hx]; exact UInt8.toNat_lt _
        have Hx := Lib.hid hx
        have j0 : (0 : Int) ≤ (k : Int) + (i : Int) := by omega
        have j1 : (k : Int) + (i : Int) < (n : Int) := by omega
        clear hdr hx
        obtain ⟨⟨d0, d1, d2, d3, d4⟩, ⟨e0, e1, e2, e3, e4⟩⟩ := hs.rec_.five
        have HS := Lib.hid hs
        clear hs
        generalize leN (D.drop (i + 1)) = N at *
        go_wp2_with fail
        go_region
        go_wp2
        exact ⟨⟨i, rfl, by omega, HS.out.drew.setN _ HL.out⟩, by simp [intOf]⟩
end Go.Proofs.Ytlckppmggklinaa
