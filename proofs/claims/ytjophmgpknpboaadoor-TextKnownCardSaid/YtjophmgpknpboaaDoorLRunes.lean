/-
  TextRunes, walked.
-/
import Derived.Test.YtjophmgpknpboaaDoorRRunes
import Derived.Test.YtjophmgpknpboaaDoorLTidy
import Derived.Test.YtjophmgpknpboaaDoorLBack
namespace Go.Proofs.YtjophmgpknpboaaDoor
open Go.RowKit
set_option linter.unusedVariables false
set_option linter.unusedSimpArgs false

theorem Own.at_n {w : World} {base N : Nat} {v : Value} {l : List UInt8} (h : Own w base v l) (hl : l.length = N) (hp : 0 < N) : ∃ b o c, v = .slice (some ⟨b, o, none⟩) N c ∧ Bs w base w.heap.size (some ⟨b, o, none⟩) N c l ∧ N ≤ c ∧ c ≤ 9223372036854775807 := by
  obtain ⟨A, c, rfl, hB⟩ := h.bs
  rw [hl] at hB ⊢
  obtain ⟨b, o, rfl, _⟩ := hB.at_ hp
  have h1 := hB.le
  have h2 := hB.cap
  unfold maxLen at h2
  exact ⟨b, o, c, rfl, hB, h1, by omega⟩
theorem rus_len (L : List UInt8) : (rusR L).2.2.length ≤ L.length := by
  unfold rusR
  split
  · simp
  · exact rnL_len L.length L
set_option maxRecDepth 100000 in
set_option maxHeartbeats 1000000 in
theorem lrunes_any {w : World} {n c : Nat} {A : Option Addr} {l : List UInt8} (r : Int) (m : Int) (hB : Bs w 0 w.heap.size A n c l) (hm : w.cell? ⟨0, 0, none⟩ = some (.int .i64 m)) :
    Calls Tryd.prog 3 #[.slice A n c, .int .i64 r] w fun e w' => e = .returned (.bool true) ∧ Below w.heap.size w w' := by
  obtain ⟨i0, hi0, hz0, hz1, hz2⟩ := info_parts Tryd.info5
  have h0 : 0 < w.heap.size := World.block_lt_of_cell? w _ hm
  have hM : ∀ W, Below w.heap.size w W → W.cell? ⟨0, 0, none⟩ = some (.int .i64 m) := fun W h => (h.cell (p := ⟨0, 0, none⟩) h0).trans hm
  have HM := Lib.hid hM
  have cc := hB.cap
  have nn := hB.le
  unfold maxLen at cc
  obtain ⟨k, L, hk, hL, hmin, hkc⟩ := cut_bs 200 hB
  have hmin2 : min (n : Int) 200 = (k : Int) := hmin
  have hkc2 : (k : Int) ≤ (c : Int) := by omega
  have k0 : (0 : Int) ≤ (k : Int) := by omega
  have hkl := hL.len
  have HKL := Lib.hid hkl
  have HL := Lib.hid hL
  have hul := rus_len L
  have HUL := Lib.hid hul
  have hcp := copyBytes_any hL (by omega)
  have HCP := Lib.hid hcp
  clear hm hM hmin hB hL hkl hul hcp
  go_enter Tryd.func3, Tryd.ntmps3
  go_wp2_with fail
  refine (HCP.out).mono ?_
  rintro e w1 ⟨v1, rfl, ho1, hb1⟩
  have HB1 := Lib.hid hb1
  have HO1 := Lib.hid ho1
  have hlit : Bs (w1.alloc (.cells #[.int .u8 7, .int .u8 7, .int .u8 7, .int .u8 7] 5)) w1.heap.size (w1.heap.size + 1) (some ⟨w1.heap.size, 0, none⟩) 4 4 [7, 7, 7, 7] := Bs.lit w1 [7, 7, 7, 7] (by decide)
  have HLIT := Lib.hid hlit
  clear hb1 ho1 hlit
  have hblen : L.length + 4 ≤ 140737488355328 := by have := HKL.out; omega
  have hbase : w.heap.size ≤ (w1.alloc (.cells #[.int .u8 7, .int .u8 7, .int .u8 7, .int .u8 7] 5)).heap.size := by have := HB1.out.size; simp; omega
  have HBASE := Lib.hid hbase
  have HL4 := Lib.hid (show (L ++ [(7 : UInt8), 7, 7, 7]).length = k + 4 by rw [List.length_append, HKL.out]; simp)
  have HBL := Lib.hid hblen
  clear hbase hblen
  go_wp2_with (at_builtin; refine wpList_append_bs _ rfl _ _ 22 rfl i0 Tryd.underlying22 hi0 hz0 hz1 hz2 w.heap.size v1 L rfl (HO1.out.alloc _) _ _ _ _ _ _ rfl HLIT.out HBL.out HBASE.out ?_; intro v2 w2 ho2 hg2)
  obtain ⟨b2, o2, c2, rfl, hB2, hc2, hc3⟩ := ho2.at_n (N := k + 4) HL4.out (by omega)
  have hc4 : (k : Int) + 4 ≤ (c2 : Int) := by omega
  have hc5 : (k : Int) ≤ (c2 : Int) := by omega
  have HB2 := Lib.hid hB2
  have HBW2 := Lib.hid (show Below w.heap.size w w2 from (HB1.out.alloc HB1.out.size _).trans (hg2.below HBASE.out (fun g e => (HO1.out.lt e).1)))
  clear ho2 hg2 hB2
  go_simp
  go_wp2_with fail
  have hin : Bs w2 w.heap.size w2.heap.size (some ⟨b2, o2, none⟩) k c2 L := by
    have := HB2.out.pre (k := k) (by omega)
    rw [List.take_append_of_le_length (by have := HKL.out; omega), List.take_of_length_le (by have := HKL.out; omega)] at this
    exact this
  have HIN := Lib.hid hin
  have h1 := Lib.hid (runes_any hin (by omega))
  clear hin
  refine (h1.out).mono ?_
  rintro e w3 ⟨v3, rfl, ho3, hb3⟩
  have HB3 := Lib.hid (HBW2.out.trans (hb3.mono HBW2.out.size))
  have HB23 := Lib.hid hb3
  have HO3 := Lib.hid ho3
  clear ho3 hb3 h1
  go_wp2_with fail
  have h2 := Lib.hid (rrunes_any (HL.out.below HB3.out (Nat.le_refl _)) HB3.out.size (by omega))
  refine (h2.out).mono ?_
  rintro e w4 ⟨v4, rfl, ho4, hb4⟩
  have HB4 := Lib.hid (HB3.out.trans (hb4.mono HB3.out.size))
  have HB24 := Lib.hid (HB23.out.trans (hb4.mono HB23.out.size))
  have HB34 := Lib.hid hb4
  have HO4 := Lib.hid ho4
  clear ho4 hb4 h2
  go_wp2_with fail
  have h3 := Lib.hid (rune_any r (HIN.out.below HB24.out (Nat.le_refl _)) HB24.out.size (by omega))
  refine (h3.out).mono ?_
  rintro e w5 ⟨v5, rfl, ho5, hb5⟩
  have HB5 := Lib.hid (HB4.out.trans (hb5.mono HB4.out.size))
  have HB25 := Lib.hid (HB24.out.trans (hb5.mono HB24.out.size))
  have HB45 := Lib.hid hb5
  have HO5 := Lib.hid ho5
  clear ho5 hb5 h3
  go_wp2_with fail
  have h4 := Lib.hid (rrune_any r (HL.out.below HB5.out (Nat.le_refl _)) (by omega))
  refine (h4.out).mono ?_
  rintro e w6 ⟨v6, rfl, ho6, hb6⟩
  have HB6 := Lib.hid (HB5.out.trans (hb6.mono HB5.out.size))
  have HB26 := Lib.hid (HB25.out.trans (hb6.mono HB25.out.size))
  have HB56 := Lib.hid hb6
  have HO6 := Lib.hid ho6
  clear ho6 hb6 h4
  obtain ⟨A3, c3, rfl, hI3⟩ := HO3.out.is
  obtain ⟨A4, c4, rfl, hI4⟩ := HO4.out.is
  obtain ⟨A5, c5, rfl, hB5⟩ := HO5.out.bs
  obtain ⟨A6, c6, rfl, hB6⟩ := HO6.out.bs
  have h36 := hI3.below (HB34.out.trans ((HB45.out.mono HB34.out.size).trans (HB56.out.mono (Nat.le_trans HB34.out.size HB45.out.size)))) (Nat.le_refl _)
  have h46 := hI4.below (HB45.out.trans (HB56.out.mono HB45.out.size)) (Nat.le_refl _)
  have h56 := hB5.below HB56.out (Nat.le_refl _)
  have H36 := Lib.hid h36
  have H46 := Lib.hid h46
  have H56 := Lib.hid h56
  have H66 := Lib.hid hB6
  clear hI3 hI4 hB5 hB6 h36 h46 h56
  have hlen := Nat.le_trans HUL.out (show L.length ≤ 1000000 by have := HKL.out; omega)
  generalize (rusR L).2.2 = RL at *
  generalize (rusR L).2.1 = Rat at *
  generalize (rusR L).1 = Re at *
  generalize (ruR L r).1 = Ge at *
  generalize (ruR L r).2 = GL at *
  go_wp2_with fail
  have e1 : (RL == RL) = true := by simp
  have h7 := eqInts_any H36.out H46.out hlen
  rw [e1] at h7
  have H7 := Lib.hid h7
  have e2 : (GL == GL) = true := by simp
  have e3 : (L == L) = true := by simp
  have E2 := Lib.hid e2
  have E3 := Lib.hid e3
  have hwk : ∀ W, Below w.heap.size w W → Calls Tryd.prog 21 #[] W fun e w' => e = .returned (.bool true) ∧ Below W.heap.size W w' := fun W h => works_any W m (HM.out W h)
  have HWK := Lib.hid hwk
  clear e1 e2 e3 h7 hwk hlen
  refine (H7.out).mono ?_
  rintro e w7 ⟨rfl, hb7⟩
  have HB7 := Lib.hid (HB6.out.trans (hb7.mono HB6.out.size))
  have HB27 := Lib.hid (HB26.out.trans (hb7.mono HB26.out.size))
  have h8 : ∀ W, W = w7 → Calls Tryd.prog 18 #[.slice A5 GL.length c5, .slice A6 GL.length c6] W fun e w' => e = .returned (.bool true) ∧ W = w' := by
    intro W hW
    subst hW
    have := eqb_any (H56.out.below hb7 HB56.out.size) (H66.out.below hb7 (Nat.le_refl _))
    rw [E2.out] at this
    exact this
  have H8 := Lib.hid h8
  clear hb7 h8
  go_wp2_with fail
  refine (H8.out _ rfl).mono ?_
  rintro e _ ⟨rfl, rfl⟩
  go_wp2_with fail
  have h9 := Lib.hid (valid_any (HIN.out.below HB27.out (Nat.le_refl _)) (by omega))
  refine (h9.out).mono ?_
  rintro e w9 ⟨rfl, hb9⟩
  have HB9 := Lib.hid (HB7.out.trans (hb9.mono HB7.out.size))
  have HB29 := Lib.hid (HB27.out.trans (hb9.mono HB27.out.size))
  clear hb9 h9
  go_wp2_with fail
  have h10 := Lib.hid (rvalid_any (HL.out.below HB9.out (Nat.le_refl _)) HB9.out.size (by omega))
  refine (h10.out).mono ?_
  rintro e w10 ⟨rfl, hb10⟩
  have HB10 := Lib.hid (HB9.out.trans (hb10.mono HB9.out.size))
  have HB210 := Lib.hid (HB29.out.trans (hb10.mono HB29.out.size))
  clear hb10 h10
  generalize decide (bkL 0 L < 0) = D
  have hDD : (D == D) = true := by simp
  have f1 : (k : Int) ≤ (k : Int) + 4 := by omega
  have f2 : ¬ c2 - k = 0 := by omega
  have f3 : IntKind.i64.wrap ((k : Int) + 4) = (k : Int) + 4 := IntWalk.i64_in _ (by omega)
  have f4 : (0 : Int) ≤ (k : Int) + 4 := by omega
  have f5 : ((k : Int) + 4).toNat = k + 4 := by omega
  have f6 : (k : Int) + 4 - (k : Int) = 4 := by omega
  have f7 : k + 4 - k = 4 := by omega
  go_wp2_with fail
  have h11 : ∀ W, W = w10.alloc (.cells #[.int .u8 7, .int .u8 7, .int .u8 7, .int .u8 7] 5) → Calls Tryd.prog 18 #[.slice (some ⟨b2, o2 + k, none⟩) 4 (c2 - k), .slice (some ⟨w10.heap.size, 0, none⟩) 4 4] W fun e w' => e = .returned (.bool true) ∧ W = w' := by
    intro W hW
    have hb : Below w2.heap.size w2 W := by rw [hW]; exact HB210.out.alloc HB210.out.size _
    have hm1 := (HB2.out.below hb (Nat.le_refl _)).mid (K := k) (m := 4) (Nat.le_refl _)
    rw [List.drop_left' HKL.out] at hm1
    have hl2 := Bs.lit w10 [7, 7, 7, 7] (by decide)
    have := eqb_any (w := W) (lo' := w10.heap.size) (hi' := w10.heap.size + 1) hm1 (by rw [hW]; exact hl2)
    exact this
  have H11 := Lib.hid h11
  have HB11 := Lib.hid (HB10.out.alloc HB10.out.size (.cells #[.int .u8 7, .int .u8 7, .int .u8 7, .int .u8 7] 5))
  have h12 : ∀ W, W = w10.alloc (.cells #[.int .u8 7, .int .u8 7, .int .u8 7, .int .u8 7] 5) → Calls Tryd.prog 18 #[.slice (some ⟨b2, o2, none⟩) k c2, .slice A k c] W fun e w' => e = .returned (.bool true) ∧ W = w' := by
    intro W hW
    have hb : Below w2.heap.size w2 W := by rw [hW]; exact HB210.out.alloc HB210.out.size _
    have hb' : Below w.heap.size w W := by rw [hW]; exact HB11.out
    have := eqb_any (w := W) (HIN.out.below hb (Nat.le_refl _)) (HL.out.below hb' (Nat.le_refl _))
    rw [E3.out] at this
    exact this
  have H12 := Lib.hid h12
  clear h11 h12
  refine (H11.out _ rfl).mono ?_
  rintro e _ ⟨rfl, rfl⟩
  go_wp2_with fail
  refine (H12.out _ rfl).mono ?_
  rintro e _ ⟨rfl, rfl⟩
  go_wp2_with fail
  refine (HWK.out _ HB11.out).mono ?_
  rintro e w13 ⟨rfl, hb13⟩
  have HB13 := Lib.hid (HB11.out.trans (hb13.mono HB11.out.size))
  clear hb13
  go_wp2_with fail
  go_ret
  exact ⟨rfl, HB13.out⟩
end Go.Proofs.YtjophmgpknpboaaDoor
