/-
  WireNumbers, walked.
-/
import Derived.Test.YtlckppmggklinaaWorks2
namespace Go.Proofs.Ytlckppmggklinaa
open Go.RowKit
set_option linter.unusedVariables false

/-- The first bytes of a slice. -/
theorem Bs.pre {w : World} {lo hi n c k : Nat} {A : Option Addr} {l : List UInt8} (h : Bs w lo hi A n c l) (hk : k ≤ n) : Bs w lo hi A k c (l.take k) := by
  have hl := h.len
  have hle := h.le
  refine ⟨by simp; omega, by omega, h.cap, fun hn => ?_⟩
  obtain ⟨b, o, e, h1, h2, hc⟩ := h.at_ (by omega)
  refine ⟨b, o, e, h1, h2, fun j hj => ?_⟩
  have hj' : j < k := by simp at hj; omega
  rw [hc j (by omega)]
  simp

/-- A row of the call's own that holds something: its block. -/
theorem Own.form {w : World} {base : Nat} {v : Value} {l : List UInt8} (h : Own w base v l) (hl : 0 < l.length) :
    ∃ g n c, v = .slice (some ⟨g, 0, none⟩) n c ∧ n ≤ l.length ∧ l.length ≤ n ∧ n ≤ c ∧ c ≤ 9223372036854775807 ∧ Bs w base w.heap.size (some ⟨g, 0, none⟩) n c l := by
  obtain ⟨A, c, rfl, hb⟩ := h.bs
  obtain ⟨g, cap, e, _, _⟩ := World.ownsRow.form h hl
  injection e with e1 e2 e3
  subst e1
  exact ⟨g, _, c, rfl, Nat.le_refl _, Nat.le_refl _, hb.le, hb.cap, hb⟩

theorem Bs.post {w : World} {lo hi n c k : Nat} {g : Nat} {l m : List UInt8} (h : Bs w lo hi (some ⟨g, 0, none⟩) n c (l ++ m)) (hk : l.length = k) (hm : 0 < m.length) (cap : Nat) (hc1 : m.length ≤ cap) (hc2 : cap ≤ maxLen) : Bs w lo hi (some ⟨g, k, none⟩) m.length cap m := by
  have hl := h.len
  simp only [List.length_append] at hl
  refine ⟨rfl, hc1, hc2, fun hn => ?_⟩
  obtain ⟨b, o, e, h1, h2, hc⟩ := h.at_ (by omega)
  injection e with e; injection e with e1 e2 _; subst e1; subst e2
  refine ⟨g, k, rfl, h1, h2, fun j hj => ?_⟩
  have := hc (k + j) (by simp; omega)
  rw [Nat.zero_add] at this
  rw [this]
  simp [hk]

theorem Own.toBs {w : World} {base : Nat} {A : Option Addr} {k c : Nat} {l : List UInt8} (h : Own w base (.slice A k c) l) : Bs w base w.heap.size A k c l := by
  obtain ⟨B, d, e, hb⟩ := h.bs
  injection e with e1 e2 e3
  subst e1; subst e2; subst e3
  exact hb

set_option maxRecDepth 100000 in
set_option maxHeartbeats 4000000 in
theorem numbers_core {w : World} {n c k : Nat} {A : Option Addr} {l : List UInt8} (m z : Int) (hB : Bs w 0 w.heap.size A k c l) (m0 : 0 ≤ m) (m1 : m ≤ 18446744073709551615) (z0 : -9223372036854775808 ≤ z) (z1 : z ≤ 9223372036854775807)
    (hk : k ≤ 40) (hmin : min (n : Int) 40 = (k : Int)) :
    Calls Try.prog 3 #[.slice A n c, .int .u64 m, .int .i64 z] w fun e w' => e = .returned (.bool true) ∧ Below w.heap.size w w' := by
  have hkc := hB.le
  have hll := hB.len
  obtain ⟨i0, hi0, hz0, hz1, hz2⟩ := info_parts Try.info5
  have hcap := hB.cap
  go_enter Try.func3, Try.ntmps3
  go_wp2_with fail
  refine (copyBytes_any hB (by omega)).mono ?_
  rintro e w1 ⟨v1, rfl, ho1, hb1⟩
  have hlit : Bs (w1.alloc (.cells #[.int .u8 7, .int .u8 7, .int .u8 7] 5)) w1.heap.size (w1.heap.size + 1) (some ⟨w1.heap.size, 0, none⟩) 3 3 [7, 7, 7] := Bs.lits w1 [7, 7, 7] [7, 7, 7] (by decide) (by decide) (by decide)
  have hs1 := hb1.size
  go_wp2_with (at_builtin; refine wpList_append_bs _ rfl _ _ 22 rfl i0 Try.underlying22 hi0 hz0 hz1 hz2 w.heap.size _ l rfl (ho1.alloc _) _ _ _ _ _ _ rfl hlit (by omega) (by simp <;> omega) ?_; intro v2 w2 ho2 hg2; obtain ⟨g, n2, c2, rfl, hn2, hn3, hc2, hc3, hb2⟩ := ho2.form (by simp); simp only [List.length_append, List.length_cons, List.length_nil] at hn2 hn3)
  have hB2 : Below w.heap.size w w2 := (hb1.alloc (by omega) _).trans (hg2.below (by simp <;> omega) (fun g hg => (ho1.lt hg).1))
  have hs2 := hB2.size
  have hin : Bs w2 w.heap.size w2.heap.size (some ⟨g, 0, none⟩) k c2 l := by
    have := hb2.pre (k := k) (by omega)
    rwa [List.take_append_of_le_length (by omega), List.take_of_length_le (by omega)] at this
  have htail : Bs w2 w.heap.size w2.heap.size (some ⟨g, k, none⟩) 3 (c2 - k) [7, 7, 7] := hb2.post hll (by simp) _ (by simp; omega) (by unfold maxLen; omega)
  clear ho1 hb1 hlit ho2 hg2 hb2
  refine (var_any m m0 m1 hin (Nat.le_refl _) (by omega)).mono ?_
  rintro e w3 ⟨v3, rfl, ho3, hb3⟩
  obtain ⟨A3, k3, c3, rfl⟩ := ho3.val
  have hs3 := hb3.size
  go_wp2_with fail
  refine (rvar_any m m0 m1 ((hB.below hB2 (Nat.le_refl _)).below hb3 hs2) (by omega)).mono ?_
  rintro e w4 ⟨v4, rfl, ho4, hb4⟩
  obtain ⟨A4, k4, c4, rfl⟩ := ho4.val
  have hs4 := hb4.size
  have hE1 := eqb_any (ho3.toBs.below hb4 (Nat.le_refl _)) ho4.toBs
  rw [show (l ++ Lib.uvarint m.toNat == l ++ Lib.uvarint m.toNat) = true by simp] at hE1
  have HE1 := Lib.hid hE1
  clear hE1
  go_wp2_with fail
  refine HE1.out.mono ?_
  rintro e _ ⟨rfl, rfl⟩
  have hlit : Bs (w4.alloc (.cells #[.int .u8 7, .int .u8 7, .int .u8 7] 5)) w4.heap.size (w4.heap.size + 1) (some ⟨w4.heap.size, 0, none⟩) 3 3 [7, 7, 7] := Bs.lits w4 [7, 7, 7] [7, 7, 7] (by decide) (by decide) (by decide)
  have ht4 := (((htail.below hb3 (Nat.le_refl _)).below hb4 (by omega)).alloc (by omega) (.cells #[.int .u8 7, .int .u8 7, .int .u8 7] 5))
  have hin4 := (((hin.below hb3 (Nat.le_refl _)).below hb4 (by omega)).alloc (by omega) (.cells #[.int .u8 7, .int .u8 7, .int .u8 7] 5))
  have hb44 := ((((hB.below hB2 (Nat.le_refl _)).below hb3 hs2).below hb4 (by omega)).alloc (by omega) (.cells #[.int .u8 7, .int .u8 7, .int .u8 7] 5))
  have hE2 := eqb_any ht4 hlit
  have hE3 := eqb_any hin4 hb44
  rw [show (([7, 7, 7] : List UInt8) == [7, 7, 7]) = true by decide] at hE2
  rw [show (l == l) = true by simp] at hE3
  have HE2 := Lib.hid hE2
  have HE3 := Lib.hid hE3
  have hB4 : Below w.heap.size w (w4.alloc (.cells #[.int .u8 7, .int .u8 7, .int .u8 7] 5)) := ((hB2.trans (hb3.mono hs2)).trans (hb4.mono (by omega))).alloc (by omega) _
  clear hE2 hE3 HE1 ho3 ho4 hb3 hb4 hlit ht4 hin4 hb44 htail hin hB2 hB
  have HS1 := Lib.hid (fun W => size_any m W m0 m1)
  have HS2 := Lib.hid (fun W => rsize_any m W m0 m1)
  have HZ1 := Lib.hid (fun W => zig_any z W z0 z1)
  have HZ2 := Lib.hid (fun W => rzig_any z W z0 z1)
  have HG1 := Lib.hid (fun W => zag_any m W m0 m1)
  have HG2 := Lib.hid (fun W => rzag_any m W m0 m1)
  generalize ((Lib.uvarint m.toNat).length : Int) = S at *
  generalize (Lib.zigzag z : Int) = ZZ at *
  generalize zagF m = GG at *
  go_wp2_with fail
  refine HE2.out.mono ?_
  rintro e _ ⟨rfl, rfl⟩
  go_wp2_with fail
  refine HE3.out.mono ?_
  rintro e _ ⟨rfl, rfl⟩
  go_wp2_with fail
  refine (HS1.out _).mono ?_
  rintro e _ ⟨rfl, rfl⟩
  go_wp2_with fail
  refine (HS2.out _).mono ?_
  rintro e w5 ⟨rfl, hb5⟩
  go_wp2_with fail
  refine (HZ1.out _).mono ?_
  rintro e _ ⟨rfl, rfl⟩
  go_wp2_with fail
  refine (HZ2.out _).mono ?_
  rintro e _ ⟨rfl, rfl⟩
  go_wp2_with fail
  refine (HG1.out _).mono ?_
  rintro e _ ⟨rfl, rfl⟩
  go_wp2_with fail
  refine (HG2.out _).mono ?_
  rintro e _ ⟨rfl, rfl⟩
  go_wp2_with fail
  refine (works_any _).mono ?_
  rintro e w6 ⟨rfl, hb6⟩
  go_wp2
  go_ret
  have hB5 := hB4.trans (hb5.mono hB4.size)
  exact ⟨rfl, hB5.trans (hb6.mono hB5.size)⟩

theorem numbers_any {w : World} {n c : Nat} {A : Option Addr} {l : List UInt8} (m z : Int) (hB : Bs w 0 w.heap.size A n c l) (m0 : 0 ≤ m) (m1 : m ≤ 18446744073709551615) (z0 : -9223372036854775808 ≤ z) (z1 : z ≤ 9223372036854775807) :
    Calls Try.prog 3 #[.slice A n c, .int .u64 m, .int .i64 z] w fun e w' => e = .returned (.bool true) ∧ Below w.heap.size w w' := by
  by_cases h : n ≤ 40
  · exact numbers_core (k := n) m z hB m0 m1 z0 z1 h (by omega)
  · exact numbers_core (k := 40) m z (hB.pre (by omega)) m0 m1 z0 z1 (Nat.le_refl _) (by omega)
end Go.Proofs.Ytlckppmggklinaa
