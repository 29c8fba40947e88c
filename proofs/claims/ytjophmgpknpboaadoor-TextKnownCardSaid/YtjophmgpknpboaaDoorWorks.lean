/-
  works: the chapter's examples come out as they should.
-/
import Derived.Test.YtjophmgpknpboaaDoorLits
namespace Go.Proofs.YtjophmgpknpboaaDoor
open Go.RowKit
set_option linter.unusedVariables false
set_option linter.unusedSimpArgs false

theorem v_1 (W : World) : Calls Tryd.prog 19 #[.slice (some ⟨W.heap.size, 0, none⟩) 2 2] (W.alloc (.cells #[.int .u8 195, .int .u8 164] 5)) fun e w' => e = .returned (.bool true) ∧ Below W.heap.size W w' := lit_valid W [195, 164] true (by decide) (by decide) (by decide +kernel)
theorem v_2 (W : World) : Calls Tryd.prog 19 #[.slice (some ⟨W.heap.size, 0, none⟩) 1 1] (W.alloc (.cells #[.int .u8 195] 5)) fun e w' => e = .returned (.bool false) ∧ Below W.heap.size W w' := lit_valid W [195] false (by decide) (by decide) (by decide +kernel)
theorem v_3 (W : World) : Calls Tryd.prog 19 #[.slice (some ⟨W.heap.size, 0, none⟩) 2 2] (W.alloc (.cells #[.int .u8 192, .int .u8 128] 5)) fun e w' => e = .returned (.bool false) ∧ Below W.heap.size W w' := lit_valid W [192, 128] false (by decide) (by decide) (by decide +kernel)
theorem v_4 (W : World) : Calls Tryd.prog 19 #[.slice (some ⟨W.heap.size, 0, none⟩) 3 3] (W.alloc (.cells #[.int .u8 237, .int .u8 160, .int .u8 128] 5)) fun e w' => e = .returned (.bool false) ∧ Below W.heap.size W w' := lit_valid W [237, 160, 128] false (by decide) (by decide) (by decide +kernel)

theorem lit_eqb {W : World} {base : Nat} {v : Value} (h : Own W base v [240, 159, 152, 128]) : Calls Tryd.prog 18 #[v, .slice (some ⟨W.heap.size, 0, none⟩) 4 4] (W.alloc (.cells #[.int .u8 240, .int .u8 159, .int .u8 152, .int .u8 128] 5)) fun e w' => e = .returned (.bool true) ∧ Below W.heap.size W w' := by
  obtain ⟨A, c, rfl, hb⟩ := h.bs
  refine (eqb_any (hb.alloc (Nat.le_refl _) _) (Bs.ints W [240, 159, 152, 128] (by decide) (by decide))).mono ?_
  rintro e w' ⟨h1, rfl⟩
  exact ⟨h1, (Below.refl _ _).alloc (Nat.le_refl _) _⟩

set_option maxRecDepth 100000 in
set_option maxHeartbeats 1000000 in
theorem works_any (w : World) (m : Int) (hm : w.cell? ⟨0, 0, none⟩ = some (.int .i64 m)) : Calls Tryd.prog 21 #[] w fun e w' => e = .returned (.bool true) ∧ Below w.heap.size w w' := by
  have h0 : 0 < w.heap.size := World.block_lt_of_cell? w _ hm
  have HM := Lib.hid hm
  clear hm
  go_enter Tryd.func21, Tryd.ntmps21
  go_wp2_with fail
  refine (lit_runes _).mono ?_
  rintro e w1 ⟨v, rfl, ho, hb1⟩
  have HO := Lib.hid ho
  have HB := Lib.hid hb1
  clear ho hb1
  go_wp2_with fail
  refine (lit_rune _).mono ?_
  rintro e w2 ⟨x, rfl, ho2, hb2⟩
  replace HO := Lib.hid (HO.out.below hb2 (Nat.le_refl _))
  have HX := Lib.hid ho2
  replace HB := Lib.hid (HB.out.trans (hb2.mono HB.out.size))
  clear ho2 hb2
  go_wp2_with fail
  refine (lit_rune2 _).mono ?_
  rintro e w3 ⟨x3, rfl, ho3, hb3⟩
  replace HO := Lib.hid (HO.out.below hb3 (Nat.le_refl _))
  replace HX := Lib.hid (HX.out.kept fun g hg => hb3.block g (HX.out.lt hg).2)
  replace HB := Lib.hid (HB.out.trans (hb3.mono HB.out.size))
  clear ho3 hb3
  go_wp2_with fail
  refine (v_1 _).mono ?_
  rintro e w4 ⟨rfl, hb4⟩
  replace HO := Lib.hid (HO.out.below hb4 (Nat.le_refl _))
  replace HX := Lib.hid (HX.out.kept fun g hg => hb4.block g (HX.out.lt hg).2)
  replace HB := Lib.hid (HB.out.trans (hb4.mono HB.out.size))
  clear hb4
  go_wp2_with fail
  refine (v_2 _).mono ?_
  rintro e w5 ⟨rfl, hb5⟩
  replace HO := Lib.hid (HO.out.below hb5 (Nat.le_refl _))
  replace HX := Lib.hid (HX.out.kept fun g hg => hb5.block g (HX.out.lt hg).2)
  replace HB := Lib.hid (HB.out.trans (hb5.mono HB.out.size))
  clear hb5
  go_wp2_with fail
  refine (v_3 _).mono ?_
  rintro e w6 ⟨rfl, hb6⟩
  replace HO := Lib.hid (HO.out.below hb6 (Nat.le_refl _))
  replace HX := Lib.hid (HX.out.kept fun g hg => hb6.block g (HX.out.lt hg).2)
  replace HB := Lib.hid (HB.out.trans (hb6.mono HB.out.size))
  clear hb6
  go_wp2_with fail
  refine (v_4 _).mono ?_
  rintro e w7 ⟨rfl, hb7⟩
  replace HO := Lib.hid (HO.out.below hb7 (Nat.le_refl _))
  replace HX := Lib.hid (HX.out.kept fun g hg => hb7.block g (HX.out.lt hg).2)
  replace HB := Lib.hid (HB.out.trans (hb7.mono HB.out.size))
  clear hb7
  obtain ⟨A, c, rfl, hIs⟩ := HO.out.is
  have HI := Lib.hid hIs
  clear hIs HO
  go_wp2_with fail
  have hal := fun o => (Below.refl w7.heap.size w7).alloc (Nat.le_refl _) o
  refine (eqInts_any (HI.out.below (hal _) (Nat.le_refl _)) (Is.lit w7 [65, 8364] (by decide)) (by decide)).mono ?_
  rintro e w8 ⟨rfl, hb8⟩
  replace HX := Lib.hid ((HX.out.alloc _).kept fun g hg => hb8.block g ((HX.out.alloc _).lt hg).2)
  replace HB := Lib.hid ((HB.out.trans ((hal _).mono HB.out.size)).trans (hb8.mono (by have := HB.out.size; simp; omega)))
  clear hb8 hal HI
  go_wp2_with fail
  refine (lit_eqb HX.out).mono ?_
  rintro e w9 ⟨rfl, hb9⟩
  replace HB := Lib.hid (HB.out.trans (hb9.mono HB.out.size))
  clear hb9
  have hs9 := HB.out.size
  have hM : ∀ W, Below w.heap.size w W → W.cell? ⟨0, 0, none⟩ = some (.int .i64 m) := fun W h => (h.cell (p := ⟨0, 0, none⟩) h0).trans HM.out
  have HMM := Lib.hid hM
  clear hM HX
  go_wp2_with fail
  refine (lit_ident _ ⟨#[97, 95, 49]⟩ true (by decide) (by decide +kernel)).mono ?_
  rintro e _ ⟨rfl, rfl⟩
  go_wp2_with fail
  refine (lit_ident _ ⟨#[49, 97]⟩ false (by decide) (by decide +kernel)).mono ?_
  rintro e _ ⟨rfl, rfl⟩
  go_wp2_with fail
  refine (lit_full _ m ⟨#[97, 46, 98]⟩ true (by decide) (by decide +kernel) (HMM.out _ HB.out)).mono ?_
  rintro e w10 ⟨rfl, hb10⟩
  replace HB := Lib.hid (HB.out.trans (hb10.mono HB.out.size))
  clear hb10
  go_wp2_with fail
  refine (lit_full _ m ⟨#[97, 46, 46, 98]⟩ false (by decide) (by decide +kernel) (HMM.out _ HB.out)).mono ?_
  rintro e w11 ⟨rfl, hb11⟩
  replace HB := Lib.hid (HB.out.trans (hb11.mono HB.out.size))
  clear hb11
  go_wp2_with fail
  refine (lit_key _ ⟨#[102, 111, 111, 95, 98, 97, 114, 95, 50, 120]⟩ #[102, 111, 111, 66, 97, 114, 50, 120] (by decide) (by decide +kernel)).mono ?_
  rintro e w12 ⟨rfl, hb12⟩
  replace HB := Lib.hid (HB.out.trans (hb12.mono HB.out.size))
  clear hb12
  go_wp2_with fail
  refine (lit_key _ ⟨#[95, 97, 95, 95, 98]⟩ #[65, 66] (by decide) (by decide +kernel)).mono ?_
  rintro e w13 ⟨rfl, hb13⟩
  replace HB := Lib.hid (HB.out.trans (hb13.mono HB.out.size))
  clear hb13
  go_wp2_with fail
  refine (lit_quote _).mono ?_
  rintro e w14 ⟨rfl, hb14⟩
  replace HB := Lib.hid (HB.out.trans (hb14.mono HB.out.size))
  clear hb14
  go_wp2_with fail
  refine (lit_reads _).mono ?_
  rintro e w15 ⟨rfl, hb15⟩
  replace HB := Lib.hid (HB.out.trans (hb15.mono HB.out.size))
  clear hb15
  go_wp2_with fail
  refine (lit_none1 _).mono ?_
  rintro e w16 ⟨rfl, hb16⟩
  replace HB := Lib.hid (HB.out.trans (hb16.mono HB.out.size))
  clear hb16
  go_wp2_with fail
  refine (lit_none2 _).mono ?_
  rintro e w17 ⟨rfl, hb17⟩
  replace HB := Lib.hid (HB.out.trans (hb17.mono HB.out.size))
  clear hb17
  go_wp2_with fail
  go_ret
  exact ⟨rfl, HB.out⟩
end Go.Proofs.YtjophmgpknpboaaDoor
