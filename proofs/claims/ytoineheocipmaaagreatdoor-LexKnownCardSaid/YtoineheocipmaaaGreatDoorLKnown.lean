/-
  LexKnown, walked.
-/
import Derived.Test.YtoineheocipmaaaGreatDoorLKn
import Derived.Deep.RegionHeld3
namespace Go.Proofs.YtoineheocipmaaaGreatDoor
open Go.RowKit
set_option linter.unusedVariables false
set_option linter.unusedSimpArgs false

set_option maxRecDepth 100000 in
set_option maxHeartbeats 2000000 in
theorem known_any (w : World) (hE : Env w) : Calls Tryz.prog 7 #[] w fun e w' => e = .returned (.bool true) ∧ Below w.heap.size w w' := by
  have HE := Lib.hid hE
  have hcut3 : ∀ (x : ByteArray) W, Below w.heap.size w W → Calls Tryz.prog 3 #[.string x] W fun e w' => e = .returned (.bool true) ∧ Below W.heap.size W w' := fun x W h => cuts_any x W (HE.out.below h)
  have C3 := Lib.hid hcut3
  clear hE hcut3
  go_enter Tryz.func7, Tryz.ntmps7
  go_upto_block 0 with fail
  go_cut [1] (fun v wx => Below w.heap.size w wx)
  case first =>
    go_wp2_with fail
    go_loopg [1] 256 (fun g v wr => ∃ i : Nat, i ≤ 256 ∧ g = 256 - i ∧ v = .int .i64 i ∧ Below w.heap.size w wr)
    case atStart => exact ⟨0, by omega, rfl, rfl, Below.refl _ _⟩
    case round =>
      obtain ⟨i, hi, rfl, rfl, hbr⟩ := hrel
      have HBR := Lib.hid hbr
      clear hbr
      by_cases hlt : i < 256
      · have hlt' : (i : Int) < 256 := by omega
        have hi0 : (0 : Int) ≤ (i : Int) := by omega
        have hw8 : IntKind.u8.wrap (i : Int) = (i : Int) := IntWalk.u8_in _ (by omega)
        have hcv := fun W => conv_oneK (i : Int) (by omega) (by omega) W
        obtain ⟨sb, hsb⟩ : ∃ sb : ByteArray, sb = ⟨#[UInt8.ofNat ((i : Nat) : Int).toNat]⟩ := ⟨_, rfl⟩
        rw [← hsb] at hcv
        have hsz : sb.size = 1 := by rw [hsb]; rfl
        clear hsb
        go_upto_region 5 with fail
        have HB1 := Lib.hid (HBR.out.alloc HBR.out.size (.cells #[.int .u8 (i : Int)] 5))
        generalize wr.alloc (.cells #[.int .u8 (i : Int)] 5) = w4 at *
        clear hcv
        go_cut [3] (fun v wx => ∃ B : Nat, v = .slice (some ⟨B, 0, none⟩) 16 16 ∧ StrsOk wx B 16 ∧ Below w.heap.size w wx)
        case first =>
          go_wp2_with fail
          go_meet
          exact ⟨_, rfl, strs_alloc w4 [⟨#[]⟩, ⟨#[97]⟩, ⟨#[65, 95]⟩, ⟨#[49]⟩, ⟨#[48]⟩, ⟨#[48, 120]⟩, ⟨#[39]⟩, ⟨#[39, 97]⟩, ⟨#[39, 92]⟩, ⟨#[34, 92, 120, 52]⟩, ⟨#[47]⟩, ⟨#[47, 47]⟩, ⟨#[47, 42]⟩, ⟨#[47, 42, 42]⟩, ⟨#[46]⟩, ⟨#[45]⟩] 9 (by decide), HB1.out.alloc HB1.out.size _⟩
        case rest =>
          obtain ⟨B, rfl, hs, hb⟩ := hcut
          obtain ⟨w5, hw5⟩ : ∃ W, W = wc := ⟨_, rfl⟩
          subst hw5
          have HS := Lib.hid hs
          have HB5 := Lib.hid hb
          clear hs hb
          go_wp2_with fail
          go_loopg [4] 16 (fun g v wr => ∃ j : Nat, j ≤ 16 ∧ g = 16 - j ∧ v = .int .i64 j ∧ Below w5.heap.size w5 wr)
          case atStart => exact ⟨0, by omega, rfl, rfl, Below.refl _ _⟩
          case round =>
            obtain ⟨j, hj, rfl, rfl, hbr⟩ := hrel
            have HBJ := Lib.hid hbr
            clear hbr
            by_cases hlt2 : j < 16
            · have hlt2' : (j : Int) < 16 := by omega
              have hj0 : (0 : Int) ≤ (j : Int) := by omega
              obtain ⟨t, hc0, htz⟩ := HS.out.2 j hlt2
              have hB5 := HS.out.1
              have hcc : ∀ W, Below w5.heap.size w5 W → W.cell? ⟨B, j, none⟩ = some (.string t) := fun W h => (h.cell (p := ⟨B, j, none⟩) hB5).trans hc0
              have HCC := Lib.hid hcc
              clear hc0 hcc hB5
              obtain ⟨t1, a1, z1⟩ := str_add2 t sb 101 (by omega) (by omega)
              obtain ⟨t2, a2, z2⟩ := str_add2 t1 ⟨#[39]⟩ 102 (by show t1.size + 1 ≤ _; omega) (by omega)
              obtain ⟨t3, a3, z3⟩ := str_add2 t1 ⟨#[42, 47, 49]⟩ 104 (by show t1.size + 3 ≤ _; omega) (by omega)
              obtain ⟨t4, a4, z4⟩ := str_add2 sb t 101 (by omega) (by omega)
              clear z1 z2 z3 z4
              have hc1 := HCC.out _ HBJ.out
              go_wp2_with fail
              refine (C3.out _ _ (HB5.out.trans (HBJ.out.mono HB5.out.size))).mono ?_
              rintro e w6 ⟨rfl, hb6⟩
              have HJ6 := Lib.hid (HBJ.out.trans (hb6.mono HBJ.out.size))
              have hc6 := HCC.out _ HJ6.out
              clear hb6 hc1
              go_wp2_with fail
              refine (C3.out _ _ (HB5.out.trans (HJ6.out.mono HB5.out.size))).mono ?_
              rintro e w7 ⟨rfl, hb7⟩
              have HJ7 := Lib.hid (HJ6.out.trans (hb7.mono HJ6.out.size))
              have hc7 := HCC.out _ HJ7.out
              clear hb7 hc6
              go_wp2_with fail
              refine (C3.out _ _ (HB5.out.trans (HJ7.out.mono HB5.out.size))).mono ?_
              rintro e w8 ⟨rfl, hb8⟩
              have HJ8 := Lib.hid (HJ7.out.trans (hb8.mono HJ7.out.size))
              have hc8 := HCC.out _ HJ8.out
              clear hb8 hc7
              go_wp2_with fail
              refine (C3.out _ _ (HB5.out.trans (HJ8.out.mono HB5.out.size))).mono ?_
              rintro e w9 ⟨rfl, hb9⟩
              have HJ9 := Lib.hid (HJ8.out.trans (hb9.mono HJ8.out.size))
              clear hb9 hc8
              go_wp2_with fail
              go_roundg (16 - (j + 1))
              case measure => omega
              case rel => exact ⟨j + 1, by omega, rfl, by go_num, HJ9.out⟩
            · have hlt2' : ¬ (j : Int) < 16 := by omega
              have HB15 := Lib.hid (HB5.out.trans (HBJ.out.mono HB5.out.size))
              go_wp2_with fail
              go_roundg (256 - (i + 1))
              case measure => omega
              case rel => exact ⟨i + 1, by omega, rfl, by go_num, HB15.out⟩
      · have hlt' : ¬ (i : Int) < 256 := by omega
        go_wp2_with fail
        go_meet
        exact HBR.out
  case rest =>
    obtain ⟨w1, hw1⟩ : ∃ W, W = wc := ⟨_, rfl⟩
    subst hw1
    have HB1 := Lib.hid hcut
    clear hcut
    go_upto_region 12 with fail
    go_cut [6] (fun v wx => ∃ B : Nat, v = .slice (some ⟨B, 0, none⟩) 30 30 ∧ StrsOk wx B 30 ∧ Below w.heap.size w wx)
    case first =>
      go_wp2_with fail
      go_meet
      exact ⟨_, rfl, strs_alloc w1 [⟨#[]⟩, ⟨#[97, 98, 99, 100, 101, 102, 103, 104, 105, 106, 107, 108, 109, 110, 111, 112, 113, 114, 115, 116, 117, 118, 119, 120, 121, 122, 97, 98, 99, 100, 101, 102]⟩, (⟨#[97, 98, 99, 100, 101, 102, 103, 104, 105, 106, 107, 108, 109, 110, 111, 112, 113, 114, 115, 116, 117, 118, 119, 120, 121, 122, 97, 98, 99, 100, 101, 102]⟩ : ByteArray) ++ (⟨#[103]⟩ : ByteArray), ⟨#[50, 49, 52, 55, 52, 56, 51, 54, 52, 56]⟩, ⟨#[50, 49, 52, 55, 52, 56, 51, 54, 52, 57]⟩, ⟨#[48, 50, 48, 48, 48, 48, 48, 48, 48, 48, 48, 48]⟩, ⟨#[48, 50, 48, 48, 48, 48, 48, 48, 48, 48, 48, 49]⟩, ⟨#[48, 120, 56, 48, 48, 48, 48, 48, 48, 48]⟩, ⟨#[48, 120, 56, 48, 48, 48, 48, 48, 48, 49]⟩, ⟨#[57, 57, 57, 57, 57, 57, 57, 57, 57, 57, 57, 57, 57, 57, 57, 57, 57, 57, 57, 57, 57, 57, 57]⟩, ⟨#[48, 48]⟩, ⟨#[48, 48, 48, 48, 48, 48, 48, 48, 48, 48, 48, 48, 48, 48, 48, 48, 48, 48, 48, 48, 48, 48, 48, 48, 48, 48, 48, 48, 48, 48, 48, 48, 48, 48, 48, 48, 48, 48, 48, 48, 48, 48, 48, 48, 48, 48, 48, 48, 48]⟩, ⟨#[39, 10, 39]⟩, ⟨#[39, 92, 10, 39]⟩, ⟨#[39, 97, 34, 39]⟩, ⟨#[34, 97, 39, 34]⟩, ⟨#[39, 39, 34, 34]⟩, ⟨#[39, 92, 39]⟩, ⟨#[39, 92, 39, 39]⟩, ⟨#[47, 42, 47]⟩, ⟨#[47, 42, 42, 47]⟩, ⟨#[47, 42, 47, 42, 47]⟩, ⟨#[47, 47]⟩, ⟨#[97, 47, 47, 98]⟩, ⟨#[97, 47, 42, 42, 47, 98]⟩, ⟨#[49, 46, 50]⟩, ⟨#[45, 49]⟩, ⟨#[97, 45, 98]⟩, ⟨#[49, 101, 53]⟩, ⟨#[39, 97, 39, 98]⟩] 9 (by decide +kernel), HB1.out.alloc HB1.out.size _⟩
    case rest =>
      obtain ⟨B6, rfl, hs, hb⟩ := hcut
      obtain ⟨w6, hw6⟩ : ∃ W, W = wc := ⟨_, rfl⟩
      subst hw6
      have HS6 := Lib.hid hs
      have HB6 := Lib.hid hb
      clear hs hb
      go_wp2_with fail
      go_loopg [7] 30 (fun g v wr => ∃ i : Nat, i ≤ 30 ∧ g = 30 - i ∧ v = .int .i64 i ∧ Below w6.heap.size w6 wr)
      case atStart => exact ⟨0, by omega, rfl, rfl, Below.refl _ _⟩
      case round =>
        obtain ⟨i, hi, rfl, rfl, hbr⟩ := hrel
        have HBJ := Lib.hid hbr
        clear hbr
        by_cases hlt : i < 30
        · have hlt' : (i : Int) < 30 := by omega
          have hi0 : (0 : Int) ≤ (i : Int) := by omega
          obtain ⟨t, hc0, htz⟩ := HS6.out.2 i hlt
          have hB6 := HS6.out.1
          have hcc : ∀ W, Below w6.heap.size w6 W → W.cell? ⟨B6, i, none⟩ = some (.string t) := fun W h => (h.cell (p := ⟨B6, i, none⟩) hB6).trans hc0
          have HCC := Lib.hid hcc
          clear hc0 hcc hB6
          obtain ⟨t1, a1, z1⟩ := str_add2 t ⟨#[32]⟩ 101 (by show t.size + 1 ≤ _; omega) (by omega)
          obtain ⟨t2, a2, z2⟩ := str_add2 t1 t 201 (by omega) (by omega)
          obtain ⟨t3, a3, z3⟩ := str_add2 t t 200 (by omega) (by omega)
          have c21 := fun W (h : Below w.heap.size w W) => four_words W t i (HE.out.below h)
          have C21 := Lib.hid c21
          clear z1 z2 z3 c21
          have hc1 := HCC.out _ HBJ.out
          go_upto_region 16 with fail
          obtain ⟨W1, hW1⟩ : ∃ W, W = wr := ⟨_, rfl⟩
          subst hW1
          have hB7 : Below w6.heap.size w6 W1 := HBJ.out
          clear HBJ
          go_region_held3 (fun W => W.cell? ⟨B6, i, none⟩ = some (.string t))
            (first | go_keep | exact HCC.out _ hB11 | exact HCC.out _ hB10 | exact HCC.out _ hB9 | exact HCC.out _ hB8)
            (first
            | (go_at_call 3; refine (C3.out _ W1.drew (HB6.out.trans (hB7.drew.mono HB6.out.size))).mono ?_; rintro e w8 ⟨rfl, hb8⟩; have hB8 : Below w6.heap.size w6 w8 := hB7.drew.trans (hb8.mono hB7.drew.size); have hc8 := HCC.out _ hB8; clear hb8)
            | (go_at_call 3; refine (C3.out _ w8 (HB6.out.trans (hB8.mono HB6.out.size))).mono ?_; rintro e w9 ⟨rfl, hb9⟩; have hB9 : Below w6.heap.size w6 w9 := hB8.trans (hb9.mono hB8.size); have hc9 := HCC.out _ hB9; clear hb9)
            | (go_at_call 3; refine (C3.out _ w9 (HB6.out.trans (hB9.mono HB6.out.size))).mono ?_; rintro e w10 ⟨rfl, hb10⟩; have hB10 : Below w6.heap.size w6 w10 := hB9.trans (hb10.mono hB9.size); have hc10 := HCC.out _ hB10; clear hb10)
            | (go_at_call 21; refine (C21.out w10 (HB6.out.trans (hB10.mono HB6.out.size))).mono ?_; rintro e w11 ⟨rfl, hb11⟩; have hB11 : Below w6.heap.size w6 w11 := hB10.trans (hb11.mono hB10.size); clear hb11))
          go_wp2_with fail
          go_roundg (30 - (i + 1))
          case measure => omega
          case rel => exact ⟨i + 1, by omega, rfl, by go_num, hB11⟩
        · obtain rfl : i = 30 := by omega
          have HB7 := Lib.hid (HB6.out.trans (HBJ.out.mono HB6.out.size))
          obtain ⟨i0, hi0, hz0, hz1, hz2⟩ := info_parts Tryz.info5
          go_wp2_with (at_make; refine wpList_make_full _ rfl _ _ 42 rfl w.heap.size 5 i0 (.int .u8 0) 1 Tryz.underlying42 hi0 hz0 hz1 .i64 .i64 _ _ 65537 rfl rfl rfl rfl (by rw [hz2]; omega) (by unfold maxLen; omega) (by have := HB7.out.size; first | omega | (simp; omega)) ?_; intro w8 hown8 hgrow8)
          have hb8 : Below w.heap.size w w8 := Below.grown HB7.out hgrow8 HB7.out.size (fun _ h => by cases h)
          have hg8 : w.heap.size ≤ wr.heap.size := HB7.out.size
          have HF0 := Lib.hid (FlR.start hown8 hb8)
          obtain ⟨g8, hg8e⟩ : ∃ g, g = wr.heap.size := ⟨_, rfl⟩
          rw [← hg8e] at hg8 HF0 ⊢
          have HG8 := Lib.hid hg8
          clear hown8 hgrow8 hb8 hg8e hg8 hi0 hz0 hz1 hz2 HB7 HBJ HB6 HS6 HB1
          go_loopg [9] 65537 (fun ms v wq => ∃ i : Nat, i ≤ 65537 ∧ ms = 65537 - i ∧ v = .int .i64 i ∧ FlR w g8 i wq)
          case atStart => exact ⟨0, by omega, rfl, rfl, HF0.out⟩
          case round =>
            obtain ⟨i, hi, rfl, rfl, hr⟩ := hrel
            have HR := Lib.hid hr
            by_cases hil : i < 65537
            · have hil' : (i : Int) < 65537 := by omega
              have hi0 : (0 : Int) ≤ (i : Int) := by omega
              obtain ⟨cs, hb, hsz, _⟩ := hr.blk
              have hil2 : i < cs.size := by omega
              have c0 := (hb.cell i).trans (Array.getElem?_eq_getElem hil2)
              have c1 := hb.frozen i
              have HN := Lib.hid (HR.out.next hil HG8.out)
              clear hr hb
              go_wp2_with fail
              go_roundg (65537 - (i + 1))
              case measure => omega
              case rel => exact ⟨i + 1, by omega, rfl, by go_num, HN.out⟩
            · obtain rfl : i = 65537 := by omega
              have hbs := hr.bs
              have hbs1 := hr.bs1
              have hlt : g8 < wr.heap.size := by obtain ⟨cs, hb, _⟩ := hr.blk; exact hb.lt
              have hcv := hbs.convert (P := Tryz.prog) 42 5 9 Tryz.underlying42 Tryz.underlying5 Tryz.underlying9
              have hcv1 := fun W (h : Below wr.heap.size wr W) => (hbs1.below h (by omega)).convert (P := Tryz.prog) 42 5 9 Tryz.underlying42 Tryz.underlying5 Tryz.underlying9
              have hl1 : (⟨(bks 65537).toArray⟩ : ByteArray).size = 65537 := bks_len 65537
              have hl2 : (⟨(bks 65536).toArray⟩ : ByteArray).size = 65536 := bks_len 65536
              have hw1 := words_is (words_many ⟨(bks 65537).toArray⟩ (by omega)) (by omega)
              have hw2 := words_is (words_bks ⟨(bks 65536).toArray⟩ 65536 (Nat.le_refl _) rfl) (by omega)
              generalize (⟨(bks 65537).toArray⟩ : ByteArray) = X1 at *
              generalize (⟨(bks 65536).toArray⟩ : ByteArray) = X2 at *
              have W1 := Lib.hid hw1
              have W2 := Lib.hid hw2
              have HCV1 := Lib.hid hcv1
              have HBQ := Lib.hid hr.bel
              clear hr hbs hbs1 hw1 hw2 hcv1 hl1 hl2 HR
              go_wp2_with fail
              refine (W1.out _ (HE.out.below HBQ.out)).mono ?_
              rintro e w9 ⟨v9, rfl, ho9, hb9⟩
              have hcv9 := HCV1.out _ hb9
              have HB9 := Lib.hid (HBQ.out.trans (hb9.mono HBQ.out.size))
              obtain ⟨A9, c9, rfl, _, _, _⟩ := ho9.rd
              clear ho9 hb9 hcv
              go_wp2_with fail
              refine (W2.out _ (HE.out.below HB9.out)).mono ?_
              rintro e w10 ⟨v10, rfl, ho10, hb10⟩
              have HB10 := Lib.hid (HB9.out.trans (hb10.mono HB9.out.size))
              have hrd := ho10.rd
              obtain ⟨A10, c10, rfl, _, _, _⟩ := ho10.rd
              obtain ⟨g10, o10, rfl, _, hc10, hcs10⟩ := hrd.cells1 (by decide)
              have hc0 := hcs10
              clear ho10 hb10 hrd hcv9 hcs10
              go_wp2_with fail
              have hl10 : g10 < w10.heap.size := World.block_lt_of_cell? w10 _ hc0
              refine (lexWorks_any _ (HE.out.below HB10.out)).mono ?_
              rintro e w11 ⟨rfl, hb11⟩
              have hc11 := (hb11.cell (p := ⟨g10, o10 + 1, none⟩) hl10).trans hc0
              have HB11 := Lib.hid (HB10.out.trans (hb11.mono HB10.out.size))
              clear hb11
              go_wp2_with fail
              go_ret
              exact ⟨rfl, HB11.out⟩
end Go.Proofs.YtoineheocipmaaaGreatDoor
