/-
  TextQuotes, walked.
-/
import Derived.Test.YtjophmgpknpboaaDoorRUnq
import Derived.Test.YtjophmgpknpboaaDoorLTidy
import Derived.Test.YtjophmgpknpboaaDoorRQuote
namespace Go.Proofs.YtjophmgpknpboaaDoor
open Go.RowKit
set_option linter.unusedVariables false
set_option linter.unusedSimpArgs false

set_option maxRecDepth 100000 in
set_option maxHeartbeats 1000000 in
theorem quotes_any {w : World} {n c : Nat} {A : Option Addr} {l : List UInt8} (s : ByteArray) (m : Int) (hB : Bs w 0 w.heap.size A n c l) (hs : s.size ≤ maxLen) (hm : w.cell? ⟨0, 0, none⟩ = some (.int .i64 m)) :
    Calls Tryd.prog 5 #[.slice A n c, .string s] w fun e w' => e = .returned (.bool true) ∧ Below w.heap.size w w' := by
  unfold maxLen at hs
  have h0 : 0 < w.heap.size := World.block_lt_of_cell? w _ hm
  have hM : ∀ W, Below w.heap.size w W → W.cell? ⟨0, 0, none⟩ = some (.int .i64 m) := fun W h => (h.cell (p := ⟨0, 0, none⟩) h0).trans hm
  have HM := Lib.hid hM
  have cc := hB.cap
  have nn := hB.le
  unfold maxLen at cc
  obtain ⟨k, L, hk, hL, hmin, hkc⟩ := cut_bs 300 hB
  have hmin2 : min (n : Int) 300 = (k : Int) := hmin
  have hkc2 : (k : Int) ≤ (c : Int) := by omega
  have k0 : (0 : Int) ≤ (k : Int) := by omega
  have hkl := hL.len
  have HKL := Lib.hid hkl
  have HL := Lib.hid hL
  have hx : (s.extract 0 (min s.size 300)).size ≤ 300 := by simp [ByteArray.size_extract]; omega
  have HX := Lib.hid hx
  obtain ⟨u, hu⟩ : ∃ u : Nat, u = min s.size 300 := ⟨_, rfl⟩
  have hu1 : min (s.size : Int) 300 = (u : Int) := by omega
  have hu2 : (u : Int) ≤ (s.size : Int) := by omega
  have hu3 : (0 : Int) ≤ (u : Int) := by omega
  rw [← hu] at hx
  have HX := Lib.hid hx
  have hwk : ∀ W, Below w.heap.size w W → Calls Tryd.prog 21 #[] W fun e w' => e = .returned (.bool true) ∧ Below W.heap.size W w' := fun W h => works_any W m (HM.out W h)
  have HWK := Lib.hid hwk
  clear hm hM hmin hB hL hkl hx hu hwk
  go_enter Tryd.func5, Tryd.ntmps5
  go_wp2_with fail
  go_quiet (fail)
  have HBD := Lib.hid (Below.drewN_ (Below.refl w.heap.size w) nq)
  go_wp2_with fail
  generalize s.extract 0 u = t at *
  generalize w.drewN nq = w0 at *
  have htl := HX.out
  have hun := fun W => unquote_any t W (by omega)
  have hrun := fun W => runquote_any t W (by omega)
  generalize ansR (unqL t.data.toList) = U at *
  have HUN := Lib.hid hun
  have HRUN := Lib.hid hrun
  have hcp := Lib.hid (copyBytes_any (HL.out.below HBD.out (Nat.le_refl _)) (by have := HKL.out; omega))
  clear htl hun hrun
  refine (hcp.out).mono ?_
  rintro e w1 ⟨v1, rfl, ho1, hb1⟩
  have HB1 := Lib.hid (HBD.out.trans (hb1.mono HBD.out.size))
  obtain ⟨A1, c1, rfl, hB1⟩ := ho1.bs
  have H1 := Lib.hid hB1
  clear ho1 hb1 hB1 hcp
  go_wp2_with fail
  refine (HUN.out _).mono ?_
  rintro e w2 ⟨v2, rfl, ho2, hb2⟩
  have HB2 := Lib.hid (HB1.out.trans (hb2.mono HB1.out.size))
  have HB12 := Lib.hid hb2
  obtain ⟨A2, c2, rfl, hB2⟩ := ho2.bs
  have H2 := Lib.hid hB2
  clear ho2 hb2 hB2
  go_wp2_with fail
  refine (HRUN.out _).mono ?_
  rintro e w3 ⟨v3, rfl, ho3, hb3⟩
  have HB3 := Lib.hid (HB2.out.trans (hb3.mono HB2.out.size))
  have HB13 := Lib.hid (HB12.out.trans (hb3.mono HB12.out.size))
  have HB23 := Lib.hid hb3
  obtain ⟨A3, c3, rfl, hB3⟩ := ho3.bs
  have H3 := Lib.hid hB3
  clear ho3 hb3 hB3
  go_wp2_with fail
  have hq1 := Lib.hid (quote_any (H1.out.below HB13.out (Nat.le_refl _)) HB13.out.size (by have := HKL.out; omega))
  refine (hq1.out).mono ?_
  rintro e w4 ⟨rfl, hb4⟩
  have HB4 := Lib.hid (HB3.out.trans (hb4.mono HB3.out.size))
  have HB14 := Lib.hid (HB13.out.trans (hb4.mono HB13.out.size))
  have HB24 := Lib.hid (HB23.out.trans (hb4.mono HB23.out.size))
  have HB34 := Lib.hid hb4
  clear hb4 hq1
  go_wp2_with fail
  have hq2 := Lib.hid (rquote_any (HL.out.below HB4.out (Nat.le_refl _)) HB4.out.size (by omega))
  refine (hq2.out).mono ?_
  rintro e w5 ⟨rfl, hb5⟩
  have HB5 := Lib.hid (HB4.out.trans (hb5.mono HB4.out.size))
  have HB15 := Lib.hid (HB14.out.trans (hb5.mono HB14.out.size))
  have HB25 := Lib.hid (HB24.out.trans (hb5.mono HB24.out.size))
  have HB35 := Lib.hid (HB34.out.trans (hb5.mono HB34.out.size))
  clear hb5 hq2
  generalize (⟨(qtL L).toArray⟩ : ByteArray) = QB
  have heq1 := eqb_any (H1.out.below HB15.out (Nat.le_refl _)) (HL.out.below HB5.out (Nat.le_refl _))
  have heq2 := eqb_any (H2.out.below HB25.out (Nat.le_refl _)) (H3.out.below HB35.out (Nat.le_refl _))
  have e1 : (L == L) = true := by simp
  have e2 : (U.2 == U.2) = true := by simp
  rw [e1] at heq1
  rw [e2] at heq2
  have HEQ1 := Lib.hid heq1
  have HEQ2 := Lib.hid heq2
  clear heq1 heq2 e1 e2
  go_wp2_with fail
  refine (HEQ1.out).mono ?_
  rintro e _ ⟨rfl, rfl⟩
  go_wp2_with fail
  refine (HEQ2.out).mono ?_
  rintro e _ ⟨rfl, rfl⟩
  go_wp2_with fail
  refine (HWK.out _ HB5.out).mono ?_
  rintro e w7 ⟨rfl, hb7⟩
  have HB7 := Lib.hid (HB5.out.trans (hb7.mono HB5.out.size))
  clear hb7
  go_wp2_with fail
  go_ret
  exact ⟨rfl, HB7.out⟩
end Go.Proofs.YtjophmgpknpboaaDoor
